/- Stage 19: who was asked: a map of texts to six yes or no; and that all are asked. -/
import Derived.Test.YtjngbmepndhkpaaHuB
import Derived.Maps.Views
import Derived.Maps.OwnSet
import Derived.StringKeys
import Derived.Laws.Tables
namespace Go.Proofs.Ytjngbmepndhkpaa
open Go.RowKit
set_option linter.unusedVariables false
def l6 (f : Nat → Bool) : List Value := [.bool (f 0), .bool (f 1), .bool (f 2), .bool (f 3), .bool (f 4), .bool (f 5)]
def B6 (f : Nat → Bool) : Value := .agg (l6 f).toArray
def D6 (f : Nat → Bool) : DataW Unit := .agg [.lit (.bool (f 0)), .lit (.bool (f 1)), .lit (.bool (f 2)), .lit (.bool (f 3)), .lit (.bool (f 4)), .lit (.bool (f 5))]
def R6L : List Value → Option (DataW Unit × List MemPlace)
  | [.bool a, .bool b, .bool c, .bool d, .bool e, .bool f] => some (.agg [.lit (.bool a), .lit (.bool b), .lit (.bool c), .lit (.bool d), .lit (.bool e), .lit (.bool f)], [])
  | _ => none
def R6 : Value → Option (DataW Unit × List MemPlace)
  | .agg cs => R6L cs.toList
  | _ => none
theorem R6_mk (f : Nat → Bool) : R6 (B6 f) = some (D6 f, []) := rfl
theorem R6L_inv {l : List Value} {f : Nat → Bool} {ps : List MemPlace} (h : R6L l = some (D6 f, ps)) : l = l6 f := by
  unfold R6L at h
  split at h
  · simp only [Option.some.injEq, Prod.mk.injEq, D6, DataW.agg.injEq, List.cons.injEq, DataW.lit.injEq, Lit.bool.injEq] at h
    obtain ⟨⟨rfl, rfl, rfl, rfl, rfl, rfl, _⟩, _⟩ := h
    rfl
  · cases h
theorem R6_inv {v : Value} {f : Nat → Bool} {ps : List MemPlace} (h : R6 v = some (D6 f, ps)) : v = B6 f := by
  cases v <;> simp only [R6, reduceCtorEq] at h
  have h2 := R6L_inv h
  unfold B6
  rw [← h2]
theorem zero6 (w : World) : (zeroValue 39).run Try.prog w = .ok (B6 (fun _ => false)) w := by kernel_rfl
theorem l6_get (f : Nat → Bool) (x : Nat) (hx : x < 6) : (l6 f).getD x undef = .bool (f x) := by
  match x, hx with
  | 0, _ => rfl
  | 1, _ => rfl
  | 2, _ => rfl
  | 3, _ => rfl
  | 4, _ => rfl
  | 5, _ => rfl
theorem l6_set (f : Nat → Bool) (x : Nat) (hx : x < 6) : (l6 f).set x (.bool true) = l6 (fun i => i == x || f i) := by
  match x, hx with
  | 0, _ => rfl
  | 1, _ => rfl
  | 2, _ => rfl
  | 3, _ => rfl
  | 4, _ => rfl
  | 5, _ => rfl
theorem strKeyed : Go.Maps.Keyed Try.prog 9 := Go.Maps.string_keyed Try.underlying9
/-- Block b is a map of at most n texts: of each text which nodes were asked. -/
def MapI (w : World) (b n : Nat) (F : ByteArray → Nat → Bool) : Prop :=
  ∃ D : DataW Unit, w.ownsMap Try.prog 9 R6 b n D ∧ ∀ s : ByteArray, D.atKey (.string s.data.toList) (D6 (fun _ => false)) = D6 (F s)
theorem MapI.lt {w : World} {b n : Nat} {F : ByteArray → Nat → Bool} (h : MapI w b n F) : b < w.heap.size := by
  obtain ⟨D, h, _⟩ := h; exact h.lt
theorem MapI.made (w : World) : MapI (w.alloc (.map #[] 0)) w.heap.size 0 (fun _ _ => false) :=
  ⟨_, World.ownsMap_made w _ _ _, fun s => rfl⟩
theorem MapI.kept {w w' : World} {b n : Nat} {F : ByteArray → Nat → Bool} {r : Option Nat} (h : MapI w b n F) (g : w.grownBy w' r) (hr : some b ≠ r) : MapI w' b n F := by
  obtain ⟨D, h, hD⟩ := h
  exact ⟨D, h.kept g hr, hD⟩
theorem MapI.look {w : World} {b n : Nat} {F : ByteArray → Nat → Bool} (h : MapI w b n F) (s : ByteArray) (hs : s.size ≤ maxLen) :
    (Instr.lookup 38 (.map (some b)) (.string s) false).run Try.prog w = .ok (B6 (F s)) w := by
  obtain ⟨D, h, hD⟩ := h
  obtain ⟨v, ps, hrun, hv⟩ := h.lookup strKeyed Try.underlying38 (zero6 w) (R6_mk _) (Go.WideMaps.keyOf_string_mk Try.underlying9 hs)
  rw [hD] at hv
  rw [hrun, R6_inv hv]
def putF (F : ByteArray → Nat → Bool) (s : ByteArray) (f : Nat → Bool) : ByteArray → Nat → Bool := fun x => if x = s then f else F x
theorem bytes_inj {s t : ByteArray} (h : s.data.toList = t.data.toList) : s = t := by
  apply ByteArray.ext; exact Array.ext' h
/-- At the operation. -/
theorem wpList_put6 (w : World) {ops : Array Oper} {rest : List Oper} {o : Oper} {a : Act} {Q : Exit → Act → World → Prop} (hg : o.guard = none) (m x v : Operand) (hop : o.op = Op.mapUpdate 38 m x v)
    (b n : Nat) (F : ByteArray → Nat → Bool) (hm : a.eval m = .map (some b)) (hown : MapI w b n F) (hn : n < maxLen) (s : ByteArray) (f : Nat → Bool) (hx : a.eval x = .string s) (hv : a.eval v = B6 f) (hs : s.size ≤ maxLen)
    (hK : ∀ w', MapI w' b (n + 1) (putF F s f) → w.grownBy w' (some b) → wpList Try.prog ops Q rest (a.put o.dst undef) w') :
    wpList Try.prog ops Q (o :: rest) a w := by
  obtain ⟨D, h, hD⟩ := hown
  refine wpList_mapUpdate_own w hg m x v 38 hop 9 39 strKeyed Try.underlying38 R6 b n D hm h hn (.string s) (B6 f) (.string s.data.toList) hx hv (Go.WideMaps.keyOf_string_mk Try.underlying9 hs) (D6 f) [] (R6_mk f) ?_
  intro w' h1 h2
  refine hK w' ⟨_, h1, fun t => ?_⟩ h2
  unfold putF
  by_cases e : t = s
  · subst e
    rw [if_pos rfl, Go.Maps.atKey_put_same (h.isMap) (show WideAt.IsKeyLit (.string t.data.toList) from trivial)]
  · rw [if_neg e, Go.Maps.atKey_put_other (by intro e2; injection e2 with e2; exact e (bytes_inj e2)), hD]
/-- Within five times as many ticks as there are rows each node is asked for each text. -/
theorem all_asked (l : List ByteArray) (me t0 j n : Nat) (hj : j < l.length) (hme : me < 6) (hn : n < 6) (hne : n ≠ me) :
    ∃ t, t0 ≤ t ∧ t < t0 + 5 * ((l.length + 3) / 4) ∧ whoT me t l = (n : Int) ∧ ∃ i, i < (rowL l (t / 5)).length ∧ (rowL l (t / 5)).getD i ⟨#[]⟩ = l.getD j ⟨#[]⟩ := by
  have hR : rowsN l.length = (l.length + 3) / 4 := by unfold rowsN; omega
  obtain ⟨R, hRe⟩ : ∃ R, R = (l.length + 3) / 4 := ⟨_, rfl⟩
  rw [← hRe] at hR ⊢
  obtain ⟨a, ha⟩ : ∃ a, a = (n + 5 - me) % 6 := ⟨_, rfl⟩
  have ha5 : a < 5 := by omega
  have hr : j / 4 < R := by omega
  obtain ⟨z, hz⟩ : ∃ z, z = 5 * (j / 4) + a := ⟨_, rfl⟩
  have hz5 : z < 5 * R := by omega
  obtain ⟨M, hM⟩ : ∃ M, M = 5 * R := ⟨_, rfl⟩
  have hM0 : 0 < M := by omega
  obtain ⟨t, ht⟩ : ∃ t, t = t0 + (z + M - t0 % M) % M := ⟨_, rfl⟩
  have hlt := Nat.mod_lt t0 hM0
  have htm : t % M = z := by
    have h1 := Nat.div_add_mod t0 M
    rw [ht, Nat.add_mod_mod]
    have h2 : t0 + (z + M - t0 % M) = z + M * (t0 / M + 1) := by rw [Nat.mul_add]; omega
    rw [h2, Nat.add_mul_mod_self_left]
    exact Nat.mod_eq_of_lt (by omega)
  have h5 : t % 5 = a := by
    have : t % M % 5 = t % 5 := Nat.mod_mod_of_dvd t ⟨R, hM⟩
    rw [← this, htm, hz]; omega
  have hq : t / 5 % R = j / 4 := by
    have : t % (5 * R) / 5 = t / 5 % R := Nat.mod_mul_right_div_self t 5 R
    rw [← this, ← hM, htm, hz]; omega
  have hrow : rowL l (t / 5) = (l.drop (j / 4 * 4)).take 4 := by unfold rowL; rw [hR, hq]
  refine ⟨t, by omega, by have := Nat.mod_lt (z + M - t0 % M) hM0; omega, ?_, j % 4, ?_, ?_⟩
  · unfold whoT
    rw [if_neg (by rintro rfl; simp at hj), h5]
    have : (me + 1 + a) % 6 = n := by omega
    rw [this]
  · rw [hrow, List.length_take, List.length_drop]; omega
  · rw [hrow, List.getD, List.getD, List.getElem?_take, if_pos (by omega), List.getElem?_drop]
    congr 2; omega
end Go.Proofs.Ytjngbmepndhkpaa
