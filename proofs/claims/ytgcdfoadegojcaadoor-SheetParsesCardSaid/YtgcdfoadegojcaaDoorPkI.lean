/- What the package pack's Reader does: Count, at any reader. -/
import Derived.Test.YtgcdfoadegojcaaDoorPkG
namespace Go.Proofs.YtgcdfoadegojcaaDoor
open Go.RowKit
set_option linter.unusedVariables false
set_option maxRecDepth 100000 in
theorem Count_good (b : Nat) (s : ByteArray) (w : World) (h : Rd w b s false) (hs : s.size ≤ 1000000000000000) :
    Calls Tryd.prog 48 #[.pointer (some ⟨b, 0, none⟩)] w fun e w' => e = .returned (.int .i64 (sizeN s)) ∧ Rd w' b (nextS s) (sizeBad s) ∧ w.grownBy w' (some b) := by
  have hmf : ∀ (fn : Fn) (first cap : Array Value) (w : World), (Instr.makeFunc fn first cap).run Tryd.prog w = .ok (.func fn first cap) w := fun _ _ _ _ => rfl
  have hb := h.lt
  have ha := (h.alloc (.cells #[.pointer (some ⟨b, 0, none⟩)] 72)).alloc (.cells #[.int .i64 0] 3)
  have c1 := ha.c1
  go_enter Tryd.func48, Tryd.ntmps48
  go_wp2_with (first | (go_at_call 69; refine (size_any b s false _ ha hs).mono ?_; rintro e w1 ⟨rfl, h1, hg1⟩; have e1 := hg1.cell (two_cell1 _ _ _ _ _) (by simp; omega); have e2 := grow_fr hg1 (two_fr1 _ _ _ _ _) (by simp) (by simp; omega); have e3 := hg1.size; simp only [World.size_alloc] at e3) | go_in)
  go_ret
  exact ⟨rfl, h1.kept (grow_set _ _ _) (by simp; omega), grow_setnew (grow_alloc _ _ (grow_alloc _ _ hg1)) (by simp) _⟩
set_option maxRecDepth 100000 in
theorem Count_bad (b : Nat) (s : ByteArray) (w : World) (h : Rd w b s true) :
    Calls Tryd.prog 48 #[.pointer (some ⟨b, 0, none⟩)] w fun e w' => e = .returned (.int .i64 0) ∧ Rd w' b s true ∧ w.grownBy w' (some b) := by
  have hmf : ∀ (fn : Fn) (first cap : Array Value) (w : World), (Instr.makeFunc fn first cap).run Tryd.prog w = .ok (.func fn first cap) w := fun _ _ _ _ => rfl
  have hb := h.lt
  have ha := (h.alloc (.cells #[.pointer (some ⟨b, 0, none⟩)] 72)).alloc (.cells #[.int .i64 0] 3)
  have c1 := ha.c1
  go_enter Tryd.func48, Tryd.ntmps48
  go_wp2
  go_ret
  exact ⟨rfl, ha, grow_alloc _ _ (World.grownBy_alloc _ _ _)⟩
set_option maxRecDepth 100000 in
theorem Count_any (b : Nat) (s : ByteArray) (bad : Bool) (w : World) (h : Rd w b s bad) (hs : s.size ≤ 1000000000000000) :
    Calls Tryd.prog 48 #[.pointer (some ⟨b, 0, none⟩)] w fun e w' => e = .returned (.int .i64 (rCount s bad)) ∧ Rd w' b (rNumS s bad) (rCountB s bad) ∧ w.grownBy w' (some b) := by
  cases bad with
  | true => exact Count_bad b s w h
  | false => exact Count_good b s w h hs
set_option maxRecDepth 100000 in
theorem Count_nil (w : World) :
    Calls Tryd.prog 48 #[.pointer none] w fun e w' => e = .returned (.int .i64 0) ∧ w.grownBy w' none := by
  have hmf : ∀ (fn : Fn) (first cap : Array Value) (w : World), (Instr.makeFunc fn first cap).run Tryd.prog w = .ok (.func fn first cap) w := fun _ _ _ _ => rfl
  go_enter Tryd.func48, Tryd.ntmps48
  go_wp2
  go_ret
  exact ⟨rfl, grow_alloc _ _ (World.grownBy_alloc _ _ _)⟩
end Go.Proofs.YtgcdfoadegojcaaDoor
