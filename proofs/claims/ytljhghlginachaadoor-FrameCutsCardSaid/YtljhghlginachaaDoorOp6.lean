/- How an argument that is a slice of strings is opened for a walk, with the capacity. -/
import Derived.Test.YtljhghlginachaaDoorOp
namespace Go.Proofs.YtljhghlginachaaDoor
open Go.RowKit Go.ChangeShapes Go.WideShapes Go.ChangeAt
set_option linter.unusedVariables false
section
variable {H : Type} {enc : TypeId × Value → H} {P : Program} {w : World} {base : Nat} {held : Bool} {sp : Nat → Bool}
theorem open_textsc {r : Reach} {b0 : Nat} {t e : TypeId} {v : Value} {d : DataW H} {ps : List MemPlace} (ht : P.underlying t = some (.slice e)) (he : P.underlying e = some .string) (hc : P.cellsOf e = 1)
    (hval : Value.okWide P w r b0 t v) (hd : DataW.Trod enc P w base sp held t v d ps) :
    ∃ l : List ByteArray, (RowAt w v (l.map Value.string) ∧ ∀ p n c, v = .slice p n c → n ≤ c) ∧ (∀ s ∈ l, s.size ≤ maxLen) ∧ l.length ≤ maxLen := by
  obtain ⟨l, h1, h2, h3⟩ := open_texts ht he hc hval hd
  refine ⟨l, ⟨h1, ?_⟩, h2, h3⟩
  obtain ⟨a, len, cap, rfl⟩ := okWide_slice ht hval
  obtain ⟨fuel, hf⟩ := hd
  rcases open_strings ht he hc hf with ⟨hcs, _⟩ | ⟨x, l, c, ss, hcs, _, hl, hm, hz, _, hcell, hws⟩
  · simp [Value.cells] at hcs
    obtain ⟨rfl, rfl, rfl⟩ := hcs
    intro p n c e; injection e with _ e2 e3; omega
  · simp [Value.cells] at hcs
    obtain ⟨rfl, rfl, rfl⟩ := hcs
    intro p n c e; injection e with _ e2 e3; omega
end
end Go.Proofs.YtljhghlginachaaDoor
