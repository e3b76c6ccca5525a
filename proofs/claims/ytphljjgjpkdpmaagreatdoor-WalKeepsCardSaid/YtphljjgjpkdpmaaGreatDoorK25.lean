/- Several texts in one: Op2. -/
import Derived.Test.YtphljjgjpkdpmaaGreatDoorK2
import Derived.Deep.Matrix
/- How an argument that is a slice of slices of integers is opened for a walk. -/
namespace Go.Proofs.YtphljjgjpkdpmaaGreatDoor
open Go.RowKit Go.ChangeShapes Go.WideShapes Go.ChangeAt Go.Deep
set_option linter.unusedVariables false
/-- The slice value reads as the list of lists. -/
def Rows2 (k : IntKind) (w : World) (v : Value) (ls : List (List Int)) : Prop :=
  ∃ vs : List Value, RowAt w v vs ∧ vs.length = ls.length ∧ ∀ j, j < ls.length → RowAt w (vs.getD j undef) ((ls.getD j []).map (Value.int k))
theorem Rows2.kept {k : IntKind} {w w' : World} {v : Value} {ls : List (List Int)} (h : Rows2 k w v ls) (g : w.grownBy w' none) : Rows2 k w' v ls := by
  obtain ⟨vs, h1, h2, h3⟩ := h
  exact ⟨vs, h1.kept g, h2, fun j hj => (h3 j hj).kept g⟩
section
variable {H : Type} {enc : TypeId × Value → H} {P : Program} {w : World} {base : Nat}
theorem open_rows2 {r : Reach} {b0 : Nat} {t e q : TypeId} {k : IntKind} {v : Value} {d : DataW H} {ps : List MemPlace} (ht : P.underlying t = some (.slice e)) (he : P.underlying e = some (.slice q)) (hq : P.underlying q = some (.int k))
    (ce : P.cellsOf e = 1) (cq : P.cellsOf q = 1) (hval : Value.okWide P w r b0 t v) (hd : DataW.Trod enc P w base (fun _ => true) true t v d ps) :
    ∃ ls : List (List Int), Rows2 k w v ls ∧ (∀ l ∈ ls, (∀ n ∈ l, (Lit.int k n).wf = true) ∧ l.length ≤ maxLen) ∧ ls.length ≤ maxLen := by
  obtain ⟨a, len, cap, rfl⟩ := okWide_slice ht hval
  obtain ⟨fuel, hf⟩ := hd
  rcases open_int_rows ht he hq ce cq hf with ⟨hcs, _⟩ | ⟨x, l, c, A, L, C, Z, hcs, _, hl, hm, _, hr⟩
  · simp [Value.cells] at hcs
    obtain ⟨rfl, rfl, rfl⟩ := hcs
    exact ⟨[], ⟨[], ⟨none, 0, rfl, .inl rfl⟩, rfl, by simp⟩, by simp, by simp⟩
  · simp [Value.cells] at hcs
    obtain ⟨rfl, rfl, rfl⟩ := hcs
    refine ⟨(List.range len).map fun j => (Z j).take (L j), ⟨(List.range len).map fun j => .slice (A j) (L j) (C j), row_of_cells _ _ _ _ _ (by simp) (fun i hi => ?_), by simp, fun j hj => ?_⟩, fun l hl' => ?_, by simp; omega⟩
    · simp only [List.length_map, List.length_range] at hi
      rw [(hr i (by omega)).1]
      simp [hi]
    · simp only [List.length_map, List.length_range] at hj
      obtain ⟨h1, h2, h3, h4, h5, h6, h7⟩ := hr j (by omega)
      have e1 : ((List.range len).map fun j => Value.slice (A j) (L j) (C j)).getD j undef = .slice (A j) (L j) (C j) := by simp [hj]
      have e2 : ((List.range len).map fun j => (Z j).take (L j)).getD j [] = (Z j).take (L j) := by simp [hj]
      rw [e1, e2]
      cases hA : A j with
      | none =>
        have hc0 := h6 hA
        have hl0 : L j = 0 := by omega
        rw [hl0]
        exact ⟨none, _, by simp; rfl, .inl (by simp)⟩
      | some a' =>
        obtain ⟨_, h8⟩ := h7 a' hA
        refine row_of_cells _ _ _ _ _ (by simp; omega) (fun i hi => ?_)
        simp only [List.length_map, List.length_take] at hi
        have hi2 : i < (Z j).length := by omega
        rw [h8 i (by omega)]
        simp [show i < L j by omega, List.getElem?_eq_getElem hi2]
    · obtain ⟨j, hj, rfl⟩ := List.mem_map.1 hl'
      rw [List.mem_range] at hj
      obtain ⟨h1, h2, h3, h4, h5, h6, h7⟩ := hr j (by omega)
      exact ⟨fun n hn => h5 n (List.mem_of_mem_take hn), by simp; omega⟩
end
end Go.Proofs.YtphljjgjpkdpmaaGreatDoor
