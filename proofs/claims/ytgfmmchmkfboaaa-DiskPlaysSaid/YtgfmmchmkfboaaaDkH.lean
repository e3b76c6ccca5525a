/- Stage 5: a loss of power. -/
import Derived.Test.YtgfmmchmkfboaaaDkG
namespace Go.Proofs.Ytgfmmchmkfboaaa
open Go.RowKit Go.Maps Go.Sort
set_option linter.unusedVariables false
/-- The slice reads as the list; its block is none of S. -/
def RowN (S : Nat → Prop) (w : World) (v : Value) (xs : List Value) : Prop :=
  ∃ a cap, v = .slice a xs.length cap ∧ xs.length ≤ cap ∧ (xs = [] ∨ ∃ b off, a = some ⟨b, off, none⟩ ∧ b < w.heap.size ∧ ¬ S b ∧ ∀ j, j < xs.length → w.cell? ⟨b, off + j, none⟩ = some (xs.getD j undef))
theorem RowN.chg {S : Nat → Prop} {w w' : World} {v : Value} {xs : List Value} (h : RowN S w v xs) (g : Chg S w w') : RowN S w' v xs := by
  obtain ⟨a, cap, rfl, hc, h⟩ := h
  refine ⟨a, cap, rfl, hc, ?_⟩
  rcases h with h | ⟨b, off, rfl, hb, hn, h⟩
  · exact .inl h
  · exact .inr ⟨b, off, rfl, Nat.lt_of_lt_of_le hb g.size, hn, fun j hj => by rw [← h j hj]; exact World.cell?_of_block (g.block b hb hn)⟩
theorem RowN.nil (S : Nat → Prop) (w : World) (a : Option Addr) (c : Nat) : RowN S w (.slice a 0 c) [] := ⟨a, c, rfl, Nat.zero_le _, .inl rfl⟩
theorem RowN.of_own {S : Nat → Prop} {w : World} {e : TypeId} {base : Nat} {v : Value} {n : Nat} {xs : List Value} (h : w.ownsRow base e 1 v n xs) (hS : ∀ i, base ≤ i → ¬ S i) : RowN S w v xs := by
  have hl : xs.length = n := by have := h.1; omega
  rcases h.2 with ⟨rfl, rfl⟩ | ⟨g, cap, cur, rfl, hb, hh, h1, h2, h3, h4⟩
  · have : xs = [] := List.eq_nil_of_length_eq_zero hl
    subst this
    exact ⟨none, 0, rfl, Nat.zero_le _, .inl rfl⟩
  · subst hl
    refine ⟨_, cap, rfl, h1, .inr ⟨g, 0, rfl, (Array.getElem?_eq_some_iff.1 hh).1, hS g hb, fun j hj => ?_⟩⟩
    have := h.cells (g := g) rfl j (xs.getD j undef) (by simp [List.getD, List.getElem?_eq_getElem hj])
    have hadd : (⟨g, 0, none⟩ : Addr).add j = ⟨g, j, none⟩ := by unfold Addr.add; split <;> simp_all
    rw [hadd] at this
    rw [Nat.zero_add]
    exact this
abbrev nm (x : List UInt8) : ByteArray := ⟨x.toArray⟩
/-- A file at a loss of power. -/
def crS (p : (ByteArray → Option Ent) × List Int) (s : ByteArray) : (ByteArray → Option Ent) × List Int :=
  match p.1 s with
  | none => p
  | some e =>
    (putE p.1 s (if e.s = false ∧ (settleE e (if e.w.size = 0 then 0 else p.2.headD 0)).l.size = 0 then none else some { settleE e (if e.w.size = 0 then 0 else p.2.headD 0) with s := true }), if e.w.size = 0 then p.2 else p.2.tail)
def crK (F : ByteArray → Option Ent) (ks : List Int) (ts : List (List UInt8)) (k : Nat) : (ByteArray → Option Ent) × List Int := (ts.take k).foldl (fun p x => crS p (nm x)) (F, ks)
theorem crK_succ (F : ByteArray → Option Ent) (ks : List Int) (ts : List (List UInt8)) (k : Nat) (h : k < ts.length) : crK F ks ts (k + 1) = crS (crK F ks ts k) (nm ts[k]) := by
  unfold crK
  rw [List.take_succ_eq_append_getElem h, List.foldl_append]; rfl
theorem nm_inj {x y : List UInt8} (h : nm x = nm y) : x = y := by
  have := congrArg (fun z : ByteArray => z.data.toList) h
  simpa [nm] using this
theorem crS_other (p : (ByteArray → Option Ent) × List Int) (s t : ByteArray) (h : t ≠ s) : (crS p s).1 t = p.1 t := by
  unfold crS
  split
  · rfl
  · show putE _ _ _ t = _
    unfold putE; rw [if_neg h]
theorem crK_other (F : ByteArray → Option Ent) (ks : List Int) (ts : List (List UInt8)) : ∀ k, k ≤ ts.length → ∀ s : ByteArray, (∀ j (h : j < ts.length), j < k → s ≠ nm ts[j]) → (crK F ks ts k).1 s = F s
  | 0, _, s, _ => rfl
  | k + 1, hk, s, h => by
    rw [crK_succ F ks ts k (by omega), crS_other _ _ _ (h k (by omega) (by omega))]
    exact crK_other F ks ts k (by omega) s (fun j hj hl => h j hj (by omega))
theorem crK_here (F : ByteArray → Option Ent) (ks : List Int) (ts : List (List UInt8)) (hn : ts.Nodup) (k : Nat) (hk : k < ts.length) : (crK F ks ts k).1 (nm ts[k]) = F (nm ts[k]) :=
  crK_other F ks ts k (by omega) _ (fun j hj hl e => by
    have := (List.nodup_iff_pairwise_ne.1 hn)
    rw [List.pairwise_iff_getElem] at this
    exact this j k hj hk hl (nm_inj e).symm)
section
variable {w w2 w3 : World} {b mb n : Nat} {G : ByteArray → Option Nat} {d : Dk}
theorem DEnd.crDel (h : DAt w b mb n G d) (s : ByteArray) (g : Nat) (hg : G s = some g) (e : Ent) (hb : FB w2 g e) (hs : e.sz ≤ 1048576) (g2 : w.grownBy w2 (some g))
    (hm : MapG w3 mb n (putG G s none)) (g3 : w2.grownBy w3 (some mb)) (v : Value) : DEnd b mb G n { d with F := putE d.F s none } w (w3.setCell ⟨g, 2, none⟩ v) := by
  have h2 := h.file s g hg e hb hs g2
  have h3 := h2.mapDel s hm g3
  have e1 : putE (putE d.F s (some e)) s none = putE d.F s none := by
    funext x; unfold putE; split <;> rfl
  have h3' : DAt w3 b mb n (putG G s none) { d with F := putE d.F s none } := by rw [← e1]; exact h3
  have c : Chg (fun i => i = g) w3 (w3.setCell ⟨g, 2, none⟩ v) := Chg.of_row (grow_set w3 ⟨g, 2, none⟩ v) (fun i hi _ => by injection hi with hi; exact hi.symm)
  have hf := h.far s g hg
  refine ⟨putG G s none, h3'.chg c (fun i hi hx => ?_), ?_, fun t x hx => .inl ⟨t, (putG_old s t x hx).2⟩⟩
  · subst hx
    rcases hi with y | y | ⟨t, y⟩
    · exact hf.1 y
    · exact hf.2 y
    · have := putG_old s t _ y
      exact this.1 (h.inj t s _ this.2 hg)
  · refine Chg.trans (T := DS b mb G) (Chg.trans (T := DS b mb G) (Chg.of_row g2 (fun i hi _ => ?_)) (Chg.of_row g3 (fun i hi _ => ?_)) (fun _ _ x => x)) (Chg.of_row (grow_set w3 ⟨g, 2, none⟩ v) (fun i hi _ => ?_)) (fun _ _ x => x)
    · injection hi with hi; subst hi; exact .inr (.inr ⟨s, hg⟩)
    · injection hi with hi; exact .inr (.inl hi.symm)
    · injection hi with hi; subst hi; exact .inr (.inr ⟨s, hg⟩)
end
end Go.Proofs.Ytgfmmchmkfboaaa
