/- Several texts in one: Op5. -/
import Derived.Test.YtphljjgjpkdpmaaGreatDoorK25
import Derived.SizedLaws
/- How an argument that is a slice of slices of integers is opened for a walk, with the form's own reach. -/
namespace Go.Proofs.YtphljjgjpkdpmaaGreatDoor
open Go.RowKit Go.ChangeShapes Go.WideShapes Go.ChangeAt Go.Deep
set_option linter.unusedVariables false
theorem all_weights {H : Type} {P : Program} {e : TypeId} : ∀ {l : List (DataW H)} {d : DataW H}, d ∈ l → ∀ n ∈ d.weights P e, n ∈ DataW.weightsAll P e l
  | [], d, h, _, _ => by cases h
  | x :: r, d, h, n, hn => by
    unfold DataW.weightsAll
    rw [List.mem_append]
    rcases List.mem_cons.1 h with rfl | h
    · exact .inl hn
    · exact .inr (all_weights h n hn)
section
variable {H : Type} {enc : TypeId × Value → H} {P : Program} {w : World} {base : Nat}
theorem row_reach {ts : List TypeId} {ds : List (DataW H)} (h : (DataW.weightsEach P ts ds).all (· ≤ reachBytes) = true) {j : Nat} {t e q : TypeId} {elems spare xs ys : List (DataW H)}
    (ht : ts[j]? = some t) (hd : ds[j]? = some (.slice elems spare)) (hu : P.underlying t = some (.slice e)) (hv : P.underlying e = some (.slice q)) (hx : DataW.slice xs ys ∈ elems) : (xs.length + ys.length) * P.bytesOf q ≤ reachBytes := by
  have h1 : (xs.length + ys.length) * P.bytesOf q ∈ (DataW.slice xs ys).weights P e := by simp [DataW.weights, hv]
  have h2 := all_weights hx _ h1
  have h3 : (xs.length + ys.length) * P.bytesOf q ∈ (DataW.slice elems spare).weights P t := by
    simp only [DataW.weights, hu, List.mem_cons, List.mem_append]
    exact .inr (.inl h2)
  have h4 := List.all_eq_true.1 h _ (DataW.weights_mem_each ht hd _ h3)
  simpa using h4
theorem le_of_mul_pos {a b c r : Nat} (h : (a + b) * c ≤ r) (hc : 1 ≤ c) : a ≤ r := by
  have h1 : (a + b) * 1 ≤ (a + b) * c := Nat.mul_le_mul_left _ hc
  omega
theorem open_rows2s {r : Reach} {b0 : Nat} {t e q : TypeId} {k : IntKind} {v : Value} {d : DataW H} {ps : List MemPlace} (ht : P.underlying t = some (.slice e)) (he : P.underlying e = some (.slice q)) (hq : P.underlying q = some (.int k))
    (ce : P.cellsOf e = 1) (cq : P.cellsOf q = 1) (be : 1 ≤ P.bytesOf e) (bq : 1 ≤ P.bytesOf q) {ts : List TypeId} {ds : List (DataW H)} (hsz : (DataW.weightsEach P ts ds).all (· ≤ reachBytes) = true) {j : Nat} (hts : ts[j]? = some t) (hds : ds[j]? = some d)
    (hval : Value.okWide P w r b0 t v) (hd : DataW.Trod enc P w base (fun _ => true) true t v d ps) :
    ∃ ls : List (List Int), Rows2 k w v ls ∧ (∀ l ∈ ls, l.length ≤ 140737488355328) ∧ ls.length ≤ 140737488355328 := by
  obtain ⟨a, len, cap, rfl⟩ := okWide_slice ht hval
  obtain ⟨fuel, hf⟩ := hd
  have hR : reachBytes ≤ 140737488355328 := by decide
  rcases open_int_rows ht he hq ce cq hf with ⟨hcs, _⟩ | ⟨x, l, c, A, L, C, Z, hcs, _, hl, hm, hx, hr⟩
  · simp [Value.cells] at hcs
    obtain ⟨rfl, rfl, rfl⟩ := hcs
    exact ⟨[], ⟨[], ⟨none, 0, rfl, .inl rfl⟩, rfl, by simp⟩, by simp, by simp⟩
  · simp [Value.cells] at hcs
    obtain ⟨rfl, rfl, rfl⟩ := hcs
    injection hx with hx1 hx2
    subst hx1
    have hlen := le_of_mul_pos (sized_slice hsz hts hds ht) be
    rw [List.length_map, List.length_range] at hlen
    refine ⟨(List.range len).map fun j => (Z j).take (L j), ⟨(List.range len).map fun j => .slice (A j) (L j) (C j), row_of_cells _ _ _ _ _ (by simp) (fun i hi => ?_), by simp, fun j hj => ?_⟩, fun l hl' => ?_, by simp; omega⟩
    · simp only [List.length_map, List.length_range] at hi
      rw [(hr i (by omega)).1]
      simp [hi]
    · simp only [List.length_map, List.length_range] at hj
      obtain ⟨h1, h2, h3, h4, h5, h6, h7⟩ := hr j (by omega)
      have e1 : ((List.range len).map fun j => Value.slice (A j) (L j) (C j)).getD j undef = .slice (A j) (L j) (C j) := by simp [hj]
      have e2 : ((List.range len).map fun j => (Z j).take (L j)).getD j [] = (Z j).take (L j) := by simp [hj]
      rw [e1, e2]
      cases hA : A j with
      | none =>
        have hc0 := h6 hA
        have hl0 : L j = 0 := by omega
        rw [hl0]
        exact ⟨none, _, by simp; rfl, .inl (by simp)⟩
      | some a' =>
        obtain ⟨_, h8⟩ := h7 a' hA
        refine row_of_cells _ _ _ _ _ (by simp; omega) (fun i hi => ?_)
        simp only [List.length_map, List.length_take] at hi
        have hi2 : i < (Z j).length := by omega
        rw [h8 i (by omega)]
        simp [show i < L j by omega, List.getElem?_eq_getElem hi2]
    · obtain ⟨j', hj, rfl⟩ := List.mem_map.1 hl'
      rw [List.mem_range] at hj
      obtain ⟨h1, h2, h3, h4, h5, h6, h7⟩ := hr j' (by omega)
      cases hA : A j' with
      | none =>
        have hc0 := h6 hA
        rw [List.length_take]; omega
      | some a' =>
        have hmem : DataW.slice (lits k ((Z j').take (L j'))) (lits k ((Z j').drop (L j'))) ∈ (List.range len).map fun r => (intRow k (A r) (L r) (Z r) : DataW H) := by
          refine List.mem_map.2 ⟨j', List.mem_range.2 hj, ?_⟩
          rw [hA]; rfl
        have := le_of_mul_pos (row_reach hsz hts hds ht he hmem) bq
        rw [show (lits k ((Z j').take (L j')) : List (DataW H)).length = ((Z j').take (L j')).length by simp [lits]] at this
        omega
end
end Go.Proofs.YtphljjgjpkdpmaaGreatDoor
