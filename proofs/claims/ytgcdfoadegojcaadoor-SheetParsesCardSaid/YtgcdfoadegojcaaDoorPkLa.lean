/- pack.Read. -/
import Derived.Test.YtgcdfoadegojcaaDoorPkH
import Derived.Test.YtgcdfoadegojcaaDoorPkJa
namespace Go.Proofs.YtgcdfoadegojcaaDoor
open Go.RowKit
set_option linter.unusedVariables false
set_option maxRecDepth 100000 in
theorem Read_any (s : ByteArray) (w : World) :
    Calls Tryd.prog 46 #[.string s] w fun e w' => ∃ b, e = .returned (.pointer (some ⟨b, 0, none⟩)) ∧ Rd w' b s false ∧ w.grownBy w' none ∧ w.heap.size ≤ b := by
  go_enter Tryd.func46, Tryd.ntmps46
  go_wp2
  go_ret
  exact ⟨w.heap.size, rfl, Rd.new _ _, World.grownBy_alloc _ _ _, Nat.le_refl _⟩
end Go.Proofs.YtgcdfoadegojcaaDoor
