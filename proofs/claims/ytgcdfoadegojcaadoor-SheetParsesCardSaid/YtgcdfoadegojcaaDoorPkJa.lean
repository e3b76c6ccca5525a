/- What the package pack's Reader does: what it tells of itself. -/
import Derived.Test.YtgcdfoadegojcaaDoorPkG
namespace Go.Proofs.YtgcdfoadegojcaaDoor
open Go.RowKit
set_option linter.unusedVariables false
def rLeft (s : ByteArray) (bad : Bool) : Nat := if bad then 0 else s.size
def rDone (s : ByteArray) (bad : Bool) : Bool := if bad then false else (s.toList.isEmpty)
set_option maxRecDepth 100000 in
theorem Done_good (b : Nat) (s : ByteArray) (w : World) (h : Rd w b s false) :
    Calls Tryd.prog 50 #[.pointer (some ⟨b, 0, none⟩)] w fun e w' => e = .returned (.bool (s.toList.isEmpty)) ∧ Rd w' b s false ∧ w.grownBy w' (some b) := by
  have hmf : ∀ (fn : Fn) (first cap : Array Value) (w : World), (Instr.makeFunc fn first cap).run Tryd.prog w = .ok (.func fn first cap) w := fun _ _ _ _ => rfl
  have hb := h.lt
  have ha := (h.alloc (.cells #[.pointer (some ⟨b, 0, none⟩)] 72)).alloc (.cells #[.bool false] 4)
  have c0 := ha.c0
  have c1 := ha.c1
  have f1 := ha.fr 1
  go_enter Tryd.func50, Tryd.ntmps50
  go_wp2
  go_ret
  exact ⟨rfl, (h.alloc _).alloc _, grow_alloc _ _ (World.grownBy_alloc _ _ _)⟩
set_option maxRecDepth 100000 in
theorem Done_bad (b : Nat) (s : ByteArray) (w : World) (h : Rd w b s true) :
    Calls Tryd.prog 50 #[.pointer (some ⟨b, 0, none⟩)] w fun e w' => e = .returned (.bool false) ∧ Rd w' b s true ∧ w.grownBy w' (some b) := by
  have hmf : ∀ (fn : Fn) (first cap : Array Value) (w : World), (Instr.makeFunc fn first cap).run Tryd.prog w = .ok (.func fn first cap) w := fun _ _ _ _ => rfl
  have hb := h.lt
  have ha := (h.alloc (.cells #[.pointer (some ⟨b, 0, none⟩)] 72)).alloc (.cells #[.bool false] 4)
  have c0 := ha.c0
  have c1 := ha.c1
  have f1 := ha.fr 1
  go_enter Tryd.func50, Tryd.ntmps50
  go_wp2
  go_ret
  exact ⟨rfl, ha, grow_alloc _ _ (World.grownBy_alloc _ _ _)⟩
set_option maxRecDepth 100000 in
theorem Done_nil (w : World) :
    Calls Tryd.prog 50 #[.pointer none] w fun e w' => e = .returned (.bool false) ∧ w.grownBy w' none := by
  have hmf : ∀ (fn : Fn) (first cap : Array Value) (w : World), (Instr.makeFunc fn first cap).run Tryd.prog w = .ok (.func fn first cap) w := fun _ _ _ _ => rfl
  go_enter Tryd.func50, Tryd.ntmps50
  go_wp2
  go_ret
  exact ⟨rfl, grow_alloc _ _ (World.grownBy_alloc _ _ _)⟩
set_option maxRecDepth 100000 in
theorem Done_any (b : Nat) (s : ByteArray) (bad : Bool) (w : World) (h : Rd w b s bad) :
    Calls Tryd.prog 50 #[.pointer (some ⟨b, 0, none⟩)] w fun e w' => e = .returned (.bool (rDone s bad)) ∧ Rd w' b s bad ∧ w.grownBy w' (some b) := by
  cases bad with
  | true => exact Done_bad b s w h
  | false => exact Done_good b s w h
end Go.Proofs.YtgcdfoadegojcaaDoor
