/- How an argument that is a slice of slices of strings is opened for a walk. -/
import Derived.Test.YtjngbmepndhkpaaOp
import Derived.Deep.Slices
namespace Go.Proofs.Ytjngbmepndhkpaa
open Go.RowKit Go.ChangeShapes Go.WideShapes Go.ChangeAt
set_option linter.unusedVariables false
section
variable {H : Type} {enc : TypeId × Value → H} {P : Program} {w : World} {base : Nat} {held : Bool} {sp : Nat → Bool}
theorem texts_of_trod {e q : TypeId} {fuel : Nat} {cs : List Value} {x : DataW H × List MemPlace} (he : P.underlying e = some (.slice q)) (hq : P.underlying q = some .string) (hc : P.cellsOf q = 1)
    (h : DataW.trod enc P w base sp held fuel e cs = some x) :
    ∃ (u : Value) (l : List ByteArray), cs = [u] ∧ RowAt w u (l.map Value.string) ∧ (∀ s ∈ l, s.size ≤ maxLen) ∧ l.length ≤ maxLen := by
  rcases open_strings he hq hc h with ⟨rfl, _⟩ | ⟨x, len, c, ss, rfl, _, hl, hm, hz, _, hcell, hws⟩
  · exact ⟨_, [], rfl, ⟨none, 0, rfl, .inl rfl⟩, by simp, by simp⟩
  · have hll : len ≤ ss.length := by rw [hz]; split <;> omega
    refine ⟨_, ss.take len, rfl, row_of_cells _ _ _ _ _ (by simp; omega) (fun i hi => ?_), fun s hs => hws s (List.mem_of_mem_take hs), by simp; omega⟩
    simp only [List.length_map, List.length_take] at hi
    have hi' : i < ss.length := by omega
    rw [hcell i hi']
    simp [show i < len by omega, List.getElem?_eq_getElem hi']
theorem open_textss {r : Reach} {b0 : Nat} {t e q : TypeId} {v : Value} {d : DataW H} {ps : List MemPlace} (ht : P.underlying t = some (.slice e)) (he : P.underlying e = some (.slice q)) (hq : P.underlying q = some .string)
    (hce : P.cellsOf e = 1) (hc : P.cellsOf q = 1) (hval : Value.okWide P w r b0 t v) (hd : DataW.Trod enc P w base sp held t v d ps) :
    ∃ vs : List Value, RowAt w v vs ∧ (∀ u ∈ vs, ∃ l : List ByteArray, RowAt w u (l.map Value.string) ∧ (∀ s ∈ l, s.size ≤ maxLen) ∧ l.length ≤ maxLen) ∧ vs.length ≤ maxLen := by
  obtain ⟨a, len, cap, rfl⟩ := okWide_slice ht hval
  obtain ⟨fuel, hf⟩ := hd
  rcases Go.Deep.open_slice1 ht hce hf with ⟨hcs, _⟩ | ⟨x, l, c, m, n, V, D, Pl, hcs, _, hl, hm, hmm, _, hx⟩
  · simp [Value.cells] at hcs
    obtain ⟨rfl, rfl, rfl⟩ := hcs
    exact ⟨[], ⟨none, 0, rfl, .inl rfl⟩, by simp, by simp⟩
  · simp [Value.cells] at hcs
    obtain ⟨rfl, rfl, rfl⟩ := hcs
    have hlm : len ≤ m := by rw [hmm]; split <;> omega
    refine ⟨(List.range len).map V, row_of_cells _ _ _ _ _ (by simp) (fun i hi => ?_), fun u hu => ?_, by simp; omega⟩
    · simp only [List.length_map, List.length_range] at hi
      rw [(hx i (by omega)).1]
      simp [hi]
    · obtain ⟨i, hi, rfl⟩ := List.mem_map.1 hu
      obtain ⟨u, l, e1, h1, h2, h3⟩ := texts_of_trod he hq hc (hx i (by have := List.mem_range.1 hi; omega)).2
      injection e1 with e1
      exact ⟨l, by rw [e1]; exact h1, h2, h3⟩
end
end Go.Proofs.Ytjngbmepndhkpaa
