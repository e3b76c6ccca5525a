/- Several texts in one: OpK. -/
import Derived.Test.YtphljjgjpkdpmaaGreatDoorK2
import Derived.Test.YtphljjgjpkdpmaaGreatDoorK26
import Derived.Test.YtphljjgjpkdpmaaGreatDoorK14
import Derived.Deep.Slices
import Derived.ChangeArms
/- How an argument that is a slice of structs is opened for a walk. -/
namespace Go.Proofs.YtphljjgjpkdpmaaGreatDoor
open Go.RowKit Go.ChangeShapes Go.WideShapes Go.ChangeAt Go.Deep
set_option linter.unusedVariables false
theorem list_of_each {α : Type} {Q : Nat → α → Prop} : ∀ n : Nat, (∀ i, i < n → ∃ x, Q i x) → ∃ L : List α, L.length = n ∧ ∀ i (h : i < L.length), Q i L[i]
  | 0, _ => ⟨[], rfl, fun i h => absurd h (Nat.not_lt_zero _)⟩
  | n + 1, h => by
    obtain ⟨L, hl, hq⟩ := list_of_each n (fun i hi => h i (by omega))
    obtain ⟨x, hx⟩ := h n (by omega)
    refine ⟨L ++ [x], by simp [hl], fun i hi => ?_⟩
    by_cases hin : i < L.length
    · rw [List.getElem_append_left hin]; exact hq i hin
    · have : i = L.length := by simp at hi; omega
      subst this
      rw [List.getElem_append_right (Nat.le_refl _)]
      simpa [hl] using hx
section
variable {H : Type} {enc : TypeId × Value → H} {P : Program} {w : World} {base : Nat} {held : Bool}
/-- A slice of structs, each opened by one law. -/
theorem open_structs {α : Type} {cells : α → List Value} {k : Nat} {Q : α → DataW H → Prop} {r : Reach} {b0 : Nat} {t e : TypeId} {v : Value} {d : DataW H} {ps : List MemPlace} (ht : P.underlying t = some (.slice e)) (hC : P.cellsOf e = k) (hk0 : 0 < k) (hk : ∀ x, (cells x).length = k)
    (heach : ∀ (fuel : Nat) (cs : List Value) (x : DataW H × List MemPlace), DataW.trod enc P w base (fun _ => true) held fuel e cs = some x → ∃ o, cs = cells o ∧ Q o x.1)
    (hval : Value.okWide P w r b0 t v) (hd : DataW.Trod enc P w base (fun _ => true) held t v d ps) :
    ∃ L : List α, ReadK cells k w v L ∧ (∀ o ∈ L, ∃ x, Q o x ∧ (∀ n ∈ x.weights P e, n ∈ d.weights P t)) ∧ L.length ≤ maxLen ∧ ∀ p n c, v = .slice p n c → n ≤ c := by
  obtain ⟨a, len, cap, rfl⟩ := okWide_slice ht hval
  obtain ⟨fuel, hf⟩ := hd
  rcases open_slice ht hf with ⟨hcs, _⟩ | ⟨x, l, c, m, n, D, Pl, hcs, _, hl, hm, hmm, hx, hr⟩
  · simp [Value.cells] at hcs
    obtain ⟨rfl, rfl, rfl⟩ := hcs
    exact ⟨[], ⟨none, 0, rfl, .inl rfl⟩, by simp, by simp, fun p n c e => by injection e with _ e2 e3; omega⟩
  · simp [Value.cells] at hcs
    obtain ⟨rfl, rfl, rfl⟩ := hcs
    injection hx with hx1 hx2
    have hlm : len ≤ m := by rw [hmm]; simpa using hl
    obtain ⟨L, hL, hq⟩ := list_of_each (Q := fun i o => w.cells? base (x.add (i * k)) k = some (cells o) ∧ Q o (D i)) len (fun i hi => by
      obtain ⟨cs', hc, htr⟩ := hr i (by omega)
      obtain ⟨o, ho, hQ⟩ := heach _ _ _ htr
      rw [hC] at hc
      exact ⟨o, by rw [← ho]; exact hc, hQ⟩)
    have hrow : RowAt w (.slice (some x) (len * k) cap) (cellsK cells L) := by
      refine row_of_cells _ _ _ _ _ (by rw [cellsK_len hk, hL]) (fun q hq' => ?_)
      rw [cellsK_len hk, hL] at hq'
      have hdm := Nat.div_add_mod q k
      have hmk := Nat.mod_lt q hk0
      have hid : q / k < len := (Nat.div_lt_iff_lt_mul hk0).2 hq'
      obtain ⟨h1, _⟩ := hq (q / k) (by omega)
      obtain ⟨_, hcl, hat⟩ := World.cells?_some h1
      have := hat (i := q % k) hmk
      rw [Go.Deep.add_add, show q / k * k + q % k = q by rw [Nat.mul_comm]; exact hdm] at this
      rw [this, List.getD]
      have hg := cellsK_get hk L (q / k) (q % k) hmk
      rw [show q / k * k + q % k = q by rw [Nat.mul_comm]; exact hdm] at hg
      rw [hg, List.getElem?_eq_getElem (show q / k < L.length by omega)]
      have : q % k < (cells (L[q / k]'(by omega))).length := by rw [hk]; exact hmk
      simp [List.getElem?_eq_getElem this]
    refine ⟨L, ?_, fun o ho => ?_, by omega, fun p n c e => by injection e with _ e2 e3; omega⟩
    · obtain ⟨a', c', e', h⟩ := hrow
      injection e' with e1 e2 e3
      subst e1
      refine ⟨_, cap, by rw [hL], ?_⟩
      rcases h with h | ⟨b, off, h, hb, hc⟩
      · have hz : (cellsK cells L).length = 0 := by rw [h]; rfl
        rw [cellsK_len hk] at hz
        rcases Nat.mul_eq_zero.1 hz with hz | hz
        · exact .inl (List.eq_nil_of_length_eq_zero hz)
        · omega
      · exact .inr ⟨b, off, h, hb, fun j hj => hc j (by rw [cellsK_len hk]; exact hj)⟩
    · obtain ⟨i, hi, rfl⟩ := List.mem_iff_getElem.1 ho
      obtain ⟨_, h2⟩ := hq i hi
      refine ⟨D i, h2, fun n hn => ?_⟩
      subst hx1
      simp only [DataW.weights, ht, List.mem_cons, List.mem_append]
      exact .inr (.inl (all_weights (List.mem_map.2 ⟨i, List.mem_range.2 (by omega), rfl⟩) n hn))
theorem each_weights {ts : List TypeId} {ds : List (DataW H)} {j : Nat} {t : TypeId} {d : DataW H} (ht : ts[j]? = some t) (hd : ds[j]? = some d) : ∀ n ∈ d.weights P t, n ∈ DataW.weightsEach P ts ds := DataW.weights_mem_each ht hd
end
end Go.Proofs.YtphljjgjpkdpmaaGreatDoor
