/- Stage 5: the files of a drive in memory: a map of names to blocks. -/
import Derived.Test.YtgfmmchmkfboaaaChecked
import Derived.Test.YtgfmmchmkfboaaaStA
import Derived.Test.YtgfmmchmkfboaaaRel
import Derived.Maps.Views
import Derived.Maps.OwnSet
import Derived.StringKeys
import Derived.Laws.Cover3
import Derived.Outline
namespace Go.Proofs.Ytgfmmchmkfboaaa
open Go.RowKit
set_option linter.unusedVariables false
/-- A pointer to the head of a block reads as the block's number. -/
def Rp : Value → Option (DataW Unit × List MemPlace)
  | .pointer (some ⟨g, 0, none⟩) => some (.lit (.int .i64 g), [])
  | .pointer none => some (.nil, [])
  | _ => none
def Pp : Option Nat → Value
  | some g => .pointer (some ⟨g, 0, none⟩)
  | none => .pointer none
def Dp : Option Nat → DataW Unit
  | some g => .lit (.int .i64 g)
  | none => .nil
theorem Rp_mk : ∀ o : Option Nat, Rp (Pp o) = some (Dp o, [])
  | some g => rfl
  | none => rfl
theorem Rp_inv {v : Value} {o : Option Nat} {ps : List MemPlace} (h : Rp v = some (Dp o, ps)) : v = Pp o := by
  unfold Rp at h
  split at h
  · rename_i g
    simp only [Option.some.injEq, Prod.mk.injEq] at h
    obtain ⟨h, _⟩ := h
    cases o with
    | none => cases h
    | some k =>
      simp only [Dp, DataW.lit.injEq, Lit.int.injEq] at h
      have : g = k := by omega
      subst this; rfl
  · simp only [Option.some.injEq, Prod.mk.injEq] at h
    obtain ⟨h, _⟩ := h
    cases o with
    | none => rfl
    | some k => cases h
  · cases h
theorem Dp_inj {a b : Option Nat} (h : Dp a = Dp b) : a = b := by
  cases a <;> cases b <;> simp [Dp] at h ⊢
  omega
theorem bytes_inj {s t : ByteArray} (h : s.data.toList = t.data.toList) : s = t := by
  apply ByteArray.ext; exact Array.ext' h
theorem strKeyed : Go.Maps.Keyed Try.prog 9 := Go.Maps.string_keyed Try.underlying9
theorem zeroP (w : World) : (zeroValue 67).run Try.prog w = .ok (Pp none) w := by kernel_rfl
theorem mapNil (mb : Nat) (w : World) : (binOp .eql 55 (.map (some mb)) (.map none)).run Try.prog w = .ok (.bool false) w := by
  simp only [binOp]
  simp [run_equal_map_nil (P := Try.prog) w 55 _ _ (some mb) Try.underlying55]
/-- Block b is a map of at most n names to blocks. -/
def MapG (w : World) (b n : Nat) (G : ByteArray → Option Nat) : Prop :=
  ∃ D : DataW Unit, w.ownsMap Try.prog 9 Rp b n D ∧ (∀ s : ByteArray, D.atKey (.string s.data.toList) .nil = Dp (G s)) ∧ ∀ s : ByteArray, Go.Maps.has D (.string s.data.toList) = (G s).isSome
theorem MapG.lt {w : World} {b n : Nat} {G : ByteArray → Option Nat} (h : MapG w b n G) : b < w.heap.size := by
  obtain ⟨D, h, _⟩ := h; exact h.lt
theorem MapG.made (w : World) : MapG (w.alloc (.map #[] 0)) w.heap.size 0 (fun _ => none) :=
  ⟨_, World.ownsMap_made w _ _ _, fun s => rfl, fun s => rfl⟩
theorem MapG.kept {w w' : World} {b n : Nat} {G : ByteArray → Option Nat} {r : Option Nat} (h : MapG w b n G) (g : w.grownBy w' r) (hr : some b ≠ r) : MapG w' b n G := by
  obtain ⟨D, h, hD⟩ := h
  exact ⟨D, h.kept g hr, hD⟩
theorem MapG.chg {S : Nat → Prop} {w w' : World} {b n : Nat} {G : ByteArray → Option Nat} (h : MapG w b n G) (g : Chg S w w') (hn : ¬ S b) : MapG w' b n G := by
  obtain ⟨D, ⟨es, clock, hb, F, hs, e⟩, hD⟩ := h
  exact ⟨D, ⟨es, clock, (g.block b (Array.getElem?_eq_some_iff.1 hb).1 hn).trans hb, F, hs, e⟩, hD⟩
theorem MapG.look {w : World} {b n : Nat} {G : ByteArray → Option Nat} (h : MapG w b n G) (s : ByteArray) (hs : s.size ≤ maxLen) :
    (Instr.lookup 55 (.map (some b)) (.string s) false).run Try.prog w = .ok (Pp (G s)) w := by
  obtain ⟨D, h, hD⟩ := h
  obtain ⟨v, ps, hrun, hv⟩ := h.lookup strKeyed Try.underlying55 (zeroP w) (Rp_mk none) (Go.WideMaps.keyOf_string_mk Try.underlying9 hs)
  rw [show Dp none = DataW.nil from rfl, hD.1] at hv
  rw [hrun, Rp_inv hv]
def putG (G : ByteArray → Option Nat) (s : ByteArray) (f : Option Nat) : ByteArray → Option Nat := fun x => if x = s then f else G x
/-- At the operation. -/
theorem wpList_putG (w : World) {ops : Array Oper} {rest : List Oper} {o : Oper} {a : Act} {Q : Exit → Act → World → Prop} (hg : o.guard = none) (m x v : Operand) (hop : o.op = Op.mapUpdate 55 m x v)
    (b n : Nat) (G : ByteArray → Option Nat) (hm : a.eval m = .map (some b)) (hown : MapG w b n G) (hn : n < maxLen) (s : ByteArray) (f : Nat) (hx : a.eval x = .string s) (hv : a.eval v = Pp (some f)) (hs : s.size ≤ maxLen)
    (hK : ∀ w', MapG w' b (n + 1) (putG G s (some f)) → w.grownBy w' (some b) → wpList Try.prog ops Q rest (a.put o.dst undef) w') :
    wpList Try.prog ops Q (o :: rest) a w := by
  obtain ⟨D, h, hD⟩ := hown
  refine wpList_mapUpdate_own w hg m x v 55 hop 9 67 strKeyed Try.underlying55 Rp b n D hm h hn (.string s) (Pp (some f)) (.string s.data.toList) hx hv (Go.WideMaps.keyOf_string_mk Try.underlying9 hs) (Dp (some f)) [] (Rp_mk _) ?_
  intro w' h1 h2
  refine hK w' ⟨_, h1, fun t => ?_, fun t => ?_⟩ h2
  rotate_left
  · unfold putG
    by_cases e : t = s
    · subst e
      rw [if_pos rfl, Go.Maps.has_put_same (h.isMap) (show WideAt.IsKeyLit (.string t.data.toList) from trivial)]; rfl
    · rw [if_neg e, Go.Maps.has_put_other (by intro e2; injection e2 with e2; exact e (bytes_inj e2)), hD.2]
  unfold putG
  by_cases e : t = s
  · subst e
    rw [if_pos rfl, Go.Maps.atKey_put_same (h.isMap) (show WideAt.IsKeyLit (.string t.data.toList) from trivial)]
  · rw [if_neg e, Go.Maps.atKey_put_other (by intro e2; injection e2 with e2; exact e (bytes_inj e2)), hD.1]
theorem wpList_delG {w : World} {ops : Array Oper} {rest : List Oper} {o : Oper} {a : Act} {Q : Exit → Act → World → Prop} (hg : o.guard = none) (m x : Operand) (hop : o.op = Op.call { callee := Callee.builtin Builtin.delete, args := #[m, x], argTypes := #[55, 9] })
    (b n : Nat) (G : ByteArray → Option Nat) (hm : a.eval m = .map (some b)) (hown : MapG w b n G) (s : ByteArray) (hx : a.eval x = .string s) (hs : s.size ≤ maxLen)
    (hK : ∀ w', MapG w' b n (putG G s none) → w.grownBy w' (some b) → wpList Try.prog ops Q rest (a.put o.dst (.tuple #[])) w') :
    wpList Try.prog ops Q (o :: rest) a w := by
  obtain ⟨D, h, hD⟩ := hown
  refine wpList_delete_own w hg m x 55 9 hop 67 strKeyed Try.underlying55 Rp b n D hm h (.string s) (.string s.data.toList) hx (Go.WideMaps.keyOf_string_mk Try.underlying9 hs) ?_
  intro w' h1 h2
  refine hK w' ⟨_, h1, fun t => ?_, fun t => ?_⟩ h2.grown
  rotate_left
  · unfold putG
    by_cases e : t = s
    · subst e
      rw [if_pos rfl, Go.Maps.has_del_same]; rfl
    · rw [if_neg e, Go.Maps.has_del_other (by intro e2; injection e2 with e2; exact e (bytes_inj e2)), hD.2]
  unfold putG
  by_cases e : t = s
  · subst e
    rw [if_pos rfl, Go.Maps.atKey_del_same]; rfl
  · rw [if_neg e, Go.Maps.atKey_del_other (by intro e2; injection e2 with e2; exact e (bytes_inj e2)), hD.1]
end Go.Proofs.Ytgfmmchmkfboaaa
