/- Several texts in one: StA. -/
import Derived.Test.YtphljjgjpkdpmaaGreatDoorK3
import Derived.Laws.StructEq
/- Rows of structs of k cells. -/
namespace Go.Proofs.YtphljjgjpkdpmaaGreatDoor
open Go.RowKit
set_option linter.unusedVariables false
section
variable {α : Type} {enc : α → List Value} {k : Nat} {L M : List α}
/-- The cells of a row of structs. -/
def cellsK (enc : α → List Value) (L : List α) : List Value := L.flatMap enc
theorem cellsK_nil : cellsK enc [] = [] := rfl
theorem cellsK_cons (x : α) : cellsK enc (x :: L) = enc x ++ cellsK enc L := rfl
theorem cellsK_app : cellsK enc (L ++ M) = cellsK enc L ++ cellsK enc M := by simp [cellsK]
theorem cellsK_one (x : α) : cellsK enc [x] = enc x := by simp [cellsK]
theorem cellsK_len (hk : ∀ x, (enc x).length = k) : ∀ L : List α, (cellsK enc L).length = L.length * k
  | [] => by simp [cellsK]
  | x :: L => by rw [cellsK_cons, List.length_append, hk, cellsK_len hk L, List.length_cons, Nat.add_mul]; omega
theorem cellsK_drop (hk : ∀ x, (enc x).length = k) : ∀ (n : Nat) (L : List α), (cellsK enc L).drop (n * k) = cellsK enc (L.drop n)
  | 0, L => by simp
  | n + 1, [] => by simp [cellsK]
  | n + 1, x :: L => by
    rw [cellsK_cons, List.drop_succ_cons, ← cellsK_drop hk n L, Nat.add_mul, Nat.one_mul, Nat.add_comm (n * k) k, ← List.drop_drop, ← hk x, List.drop_left]
theorem cellsK_take (hk : ∀ x, (enc x).length = k) : ∀ (n : Nat) (L : List α), (cellsK enc L).take (n * k) = cellsK enc (L.take n)
  | 0, L => by simp [cellsK]
  | n + 1, [] => by simp [cellsK]
  | n + 1, x :: L => by
    rw [cellsK_cons, List.take_succ_cons, cellsK_cons, ← cellsK_take hk n L, List.take_append, hk x, List.take_of_length_le (by rw [hk x, Nat.add_mul]; omega), show (n + 1) * k - k = n * k by rw [Nat.add_mul]; omega]
theorem cellsK_get (hk : ∀ x, (enc x).length = k) (L : List α) (i j : Nat) (hj : j < k) : (cellsK enc L)[i * k + j]? = (L[i]?).bind fun x => (enc x)[j]? := by
  rw [← List.getElem?_drop, cellsK_drop hk]
  rcases hd : L.drop i with _ | ⟨x, M⟩
  · have : L[i]? = none := by rw [List.getElem?_eq_none_iff]; exact List.drop_eq_nil_iff.1 hd
    rw [this]; simp [cellsK]
  · have : L[i]? = some x := by
      have h := congrArg (fun l => l[0]?) hd
      simpa [List.getElem?_drop] using h
    rw [this, cellsK_cons, List.getElem?_append_left (by rw [hk]; exact hj)]; rfl
theorem cellsK_ones (h1 : ∀ x, ∀ v ∈ enc x, v.oneCell' = true) (L : List α) : ∀ v ∈ cellsK enc L, v.oneCell' = true := by
  intro v hv
  obtain ⟨x, _, hx⟩ := List.mem_flatMap.1 hv
  exact h1 x v hx
/-- The slice value reads as a row of structs. -/
def ReadK (enc : α → List Value) (k : Nat) (w : World) (v : Value) (L : List α) : Prop :=
  ∃ a cap, v = .slice a L.length cap ∧ (L = [] ∨ ∃ b off, a = some ⟨b, off, none⟩ ∧ b < w.heap.size ∧ ∀ j, j < L.length * k → w.cell? ⟨b, off + j, none⟩ = some ((cellsK enc L).getD j undef))
theorem ReadK.kept {w w' : World} {v : Value} (h : ReadK enc k w v L) (g : w.grownBy w' none) : ReadK enc k w' v L := by
  obtain ⟨a, cap, rfl, h⟩ := h
  refine ⟨a, cap, rfl, ?_⟩
  rcases h with h | ⟨b, off, rfl, hb, hc⟩
  · exact .inl h
  · exact .inr ⟨b, off, rfl, Nat.lt_of_lt_of_le hb g.size, fun j hj => by rw [← hc j hj]; exact World.cell?_of_block (g.block b hb (by simp))⟩
theorem ReadK.below {w w' : World} {v : Value} {B : Nat} (h : ReadK enc k w v L) (g : Below B w w') (hb : ∀ i, v.ownBlock = some i → i < B) : ReadK enc k w' v L := by
  obtain ⟨a, cap, rfl, h⟩ := h
  refine ⟨a, cap, rfl, ?_⟩
  rcases h with h | ⟨b, off, rfl, hb', hc⟩
  · exact .inl h
  · exact .inr ⟨b, off, rfl, Nat.lt_of_lt_of_le hb' g.size, fun j hj => by rw [← hc j hj]; exact World.cell?_of_block (g.block b (hb b rfl))⟩
theorem ReadK.len {w : World} {v : Value} (h : ReadK enc k w v L) : ∃ a c, v = .slice a L.length c := by
  obtain ⟨a, c, e, _⟩ := h; exact ⟨a, c, e⟩
/-- The i-th struct's cells. -/
theorem ReadK.at_ {w : World} {a : Option Addr} {c n : Nat} (hk : ∀ x, (enc x).length = k) (h : ReadK enc k w (.slice a n c) L) (hn : L.length = n) (i : Nat) (hi : i < n) :
    ∃ b off, a = some ⟨b, off, none⟩ ∧ b < w.heap.size ∧ ∀ x, L[i]? = some x → ∀ j, j < k → w.cell? ⟨b, off + i * k + j, none⟩ = some ((enc x).getD j undef) := by
  subst hn
  obtain ⟨a', c', e, h⟩ := h
  injection e with e1 e2 e3
  subst e1
  rcases h with h | ⟨b, off, rfl, hb, hc⟩
  · subst h; simp at hi
  · refine ⟨b, off, rfl, hb, fun x hx j hj => ?_⟩
    have hlt : i * k + j < L.length * k := by
      have : (i + 1) * k ≤ L.length * k := Nat.mul_le_mul_right _ hi
      rw [Nat.add_mul, Nat.one_mul] at this; omega
    rw [Nat.add_assoc, hc _ hlt, List.getD, cellsK_get hk L i j hj, hx]; rfl
/-- The slice value owns the row. -/
def OwnK (enc : α → List Value) (k : Nat) (e : TypeId) (w : World) (v : Value) (L : List α) : Prop := w.ownsRow 0 e k v L.length (cellsK enc L)
theorem OwnK.read {e : TypeId} {w : World} {v : Value} (h : OwnK enc k e w v L) : ReadK enc k w v L := by
  rcases h.2 with ⟨rfl, hn⟩ | ⟨g, cap, cur, rfl, _, hh, _⟩
  · have : L = [] := List.eq_nil_of_length_eq_zero hn
    subst this
    exact ⟨none, 0, rfl, .inl rfl⟩
  · refine ⟨_, cap, rfl, .inr ⟨g, 0, rfl, (Array.getElem?_eq_some_iff.1 hh).1, fun j hj => ?_⟩⟩
    have hl := h.1
    have := World.ownsRow.cells h (g := g) rfl j ((cellsK enc L).getD j undef) (by rw [List.getD, List.getElem?_eq_getElem (by omega)]; rfl)
    have hadd : (⟨g, 0, none⟩ : Addr).add j = ⟨g, j, none⟩ := by unfold Addr.add; split <;> simp_all
    rw [hadd] at this
    rw [Nat.zero_add]; exact this
theorem OwnK.nil (e : TypeId) (w : World) : OwnK enc k e w (.slice none 0 0) [] := World.ownsRow_nil _ _ _ _
theorem OwnK.lt {e : TypeId} {w : World} {v : Value} (h : OwnK enc k e w v L) {g : Nat} (hg : v.ownBlock = some g) : g < w.heap.size := (World.ownsRow.lt h g hg).2
theorem OwnK.kept {e : TypeId} {w w' : World} {v : Value} {row : Option Nat} (h : OwnK enc k e w v L) (hg : w.grownBy w' row) (hne : v.ownBlock = none ∨ v.ownBlock ≠ row) : OwnK enc k e w' v L := World.ownsRow.kept h hg hne
theorem OwnK.keep {e : TypeId} {w w' : World} {v : Value} (h : OwnK enc k e w v L) (hg : w.grownBy w' none) : OwnK enc k e w' v L := by
  rcases hv : v.ownBlock with _ | g
  · exact h.kept hg (.inl hv)
  · exact h.kept hg (.inr (by rw [hv]; simp))
theorem OwnK.drew {e : TypeId} {w : World} {v : Value} (h : OwnK enc k e w v L) : OwnK enc k e w.drew v L := h
/-- The row's block is kept: so is the row. -/
theorem OwnK.same {e : TypeId} {w w' : World} {v : Value} (h : OwnK enc k e w v L) (hb : ∀ g, v.ownBlock = some g → w'.heap[g]? = w.heap[g]?) : OwnK enc k e w' v L := by
  refine ⟨h.1, ?_⟩
  rcases h.2 with h1 | ⟨g, cap, cur, rfl, h0, hh, h1⟩
  · exact .inl h1
  · exact .inr ⟨g, cap, cur, rfl, h0, by rw [hb g rfl]; exact hh, h1⟩
end
/-- Only the blocks of S may be other ones. -/
structure Chg (S : Nat → Prop) (w w' : World) : Prop where
  os : w'.os = w.os
  tape : w'.tape = w.tape
  output : w'.output = w.output
  size : w.heap.size ≤ w'.heap.size
  block : ∀ i, i < w.heap.size → ¬ S i → w'.heap[i]? = w.heap[i]?
section
variable {S T : Nat → Prop} {w w1 w2 : World}
theorem Chg.refl (S : Nat → Prop) (w : World) : Chg S w w := ⟨rfl, rfl, rfl, Nat.le_refl _, fun _ _ _ => rfl⟩
theorem Chg.of_none (g : w.grownBy w1 none) : Chg S w w1 := ⟨g.os, g.tape, g.output, g.size, fun i hi _ => g.block i hi (by simp)⟩
theorem Chg.of_row {r : Option Nat} (g : w.grownBy w1 r) (h : ∀ i, r = some i → i < w.heap.size → S i) : Chg S w w1 := ⟨g.os, g.tape, g.output, g.size, fun i hi hn => g.block i hi (fun e => hn (h i e.symm hi))⟩
theorem Chg.trans (a : Chg S w w1) (b : Chg T w1 w2) (h : ∀ i, i < w.heap.size → T i → S i) : Chg S w w2 :=
  ⟨b.os.trans a.os, b.tape.trans a.tape, b.output.trans a.output, Nat.le_trans a.size b.size, fun i hi hn => by rw [b.block i (Nat.lt_of_lt_of_le hi a.size) (fun t => hn (h i hi t)), a.block i hi hn]⟩
theorem Chg.setnew (c : Chg S w w1) {a : Addr} (ha : w.heap.size ≤ a.block) (u : Value) : Chg S w (w1.setCell a u) :=
  ⟨c.os, c.tape, c.output, by simpa [World.setCell] using c.size, fun i hi hn => by rw [Below.heap_setCell _ _ _ _ (by omega), c.block i hi hn]⟩
theorem two_blks (w : World) (xs ys : List Value) (t1 t2 : TypeId) : Blk ((w.alloc (.cells xs.toArray t1)).alloc (.cells ys.toArray t2)) w.heap.size t1 xs ∧ Blk ((w.alloc (.cells xs.toArray t1)).alloc (.cells ys.toArray t2)) (w.heap.size + 1) t2 ys := by
  refine ⟨(Blk.new w t1 xs).alloc _, ?_⟩
  have := Blk.new (w.alloc (.cells xs.toArray t1)) t2 ys
  simpa using this
theorem Chg.below {B : Nat} (a : Chg S w w1) (hB : B ≤ w.heap.size) (h : ∀ i, S i → B ≤ i) : Below B w w1 :=
  ⟨a.os, a.tape, a.output, a.size, fun i hi => a.block i (by omega) (fun s => by have := h i s; omega)⟩
theorem Chg.none (a : Chg S w w1) (h : ∀ i, i < w.heap.size → ¬ S i) : w.grownBy w1 none := ⟨a.os, a.tape, a.output, a.size, fun i hi _ => a.block i hi (h i hi)⟩
theorem Chg.blk (a : Chg S w w1) {g : Nat} {t : TypeId} {xs : List Value} (h : Blk w g t xs) (hn : ¬ S g) : Blk w1 g t xs := (a.block g h.lt hn).trans h
theorem Chg.ownK {α : Type} {enc : α → List Value} {k : Nat} {L : List α} {e : TypeId} {v : Value} (a : Chg S w w1) (h : OwnK enc k e w v L) (hn : ∀ g, v.ownBlock = some g → ¬ S g) : OwnK enc k e w1 v L :=
  h.same fun g hg => a.block g (h.lt hg) (hn g hg)
theorem Chg.readK {α : Type} {enc : α → List Value} {k : Nat} {L : List α} {v : Value} (a : Chg S w w1) (h : ReadK enc k w v L) (hn : ∀ g, v.ownBlock = some g → ¬ S g) : ReadK enc k w1 v L := by
  obtain ⟨p, cap, rfl, h⟩ := h
  refine ⟨p, cap, rfl, ?_⟩
  rcases h with h | ⟨b, off, rfl, hb', hc⟩
  · exact .inl h
  · exact .inr ⟨b, off, rfl, Nat.lt_of_lt_of_le hb' a.size, fun j hj => by rw [← hc j hj]; exact World.cell?_of_block (a.block b hb' (hn b rfl))⟩
end
end Go.Proofs.YtphljjgjpkdpmaaGreatDoor
