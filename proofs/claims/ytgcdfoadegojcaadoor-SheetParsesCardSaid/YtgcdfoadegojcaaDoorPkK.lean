/- What the package pack's Reader does: Text. -/
import Derived.Test.YtgcdfoadegojcaaDoorPkG
namespace Go.Proofs.YtgcdfoadegojcaaDoor
open Go.RowKit
set_option linter.unusedVariables false
theorem Rd.other {w : World} {b : Nat} {s : ByteArray} {bad : Bool} (h : Rd w b s bad) {a : Addr} (ha : a.block ≠ b) (v : Value) : Rd (w.setCell a v) b s bad := by
  unfold Rd at h ⊢; rw [Below.heap_setCell _ _ _ _ (fun e => ha e.symm)]; exact h
set_option maxRecDepth 100000 in
theorem TextIn_any (b q p : Nat) (s : ByteArray) (bad : Bool) (w0 w : World) (h : Rd w b s bad) (hs : s.size ≤ 1000000000000000) (hp : w.cell? ⟨p, 0, none⟩ = some (.pointer (some ⟨b, 0, none⟩)))
    (x : Value) (hq : w.cell? ⟨q, 0, none⟩ = some x) (fq : w.frozen? ⟨q, 0, none⟩ = false) (hqb : q ≠ b) (hpb : p ≠ b) (hpq : p ≠ q) (hq0 : w0.heap.size ≤ q) (hg : w0.grownBy w (some b)) :
    Calls Tryd.prog 70 #[.pointer (some ⟨p, 0, none⟩), .pointer (some ⟨q, 0, none⟩)] w fun e w' => e = .returned (.tuple #[]) ∧ Rd w' b ((nextS s).extract (sizeN s) (nextS s).size) (sizeBad s) ∧ w0.grownBy w' (some b) ∧ w'.cell? ⟨q, 0, none⟩ = some (.string ((nextS s).extract 0 (sizeN s))) := by
  have hsz := sizeN_le s
  go_enter Tryd.func70, Tryd.ntmps70
  go_wp2_with fail
  refine (size_any b s bad w h hs).mono ?_
  rintro e w1 ⟨rfl, h1, hg1⟩
  have hqs := World.block_lt_of_cell? w _ hq
  have hps := World.block_lt_of_cell? w _ hp
  have p1 : w1.cell? ⟨p, 0, none⟩ = some (.pointer (some ⟨b, 0, none⟩)) := hg1.cell hp (by simp; omega)
  have q1 : w1.cell? ⟨q, 0, none⟩ = some x := hg1.cell hq (by simp; omega)
  have f1 : w1.frozen? ⟨q, 0, none⟩ = false := grow_fr hg1 fq hqs (by simp; omega)
  have c0 := h1.c0
  have g0 := h1.fr 0
  go_wp2_with fail
  have h2 := h1.other (a := ⟨q, 0, none⟩) hqb (.string ((nextS s).extract 0 (sizeN s)))
  have gg := grow_setnew (grow_same hg hg1) (a := ⟨q, 0, none⟩) hq0 (.string ((nextS s).extract 0 (sizeN s)))
  have p2 : (w1.setCell ⟨q, 0, none⟩ (.string ((nextS s).extract 0 (sizeN s)))).cell? ⟨p, 0, none⟩ = some (.pointer (some ⟨b, 0, none⟩)) := by
    rw [World.cell?_of_block (w := w1) (Below.heap_setCell _ _ _ _ hpq)]; exact p1
  have q2 : (w1.setCell ⟨q, 0, none⟩ (.string ((nextS s).extract 0 (sizeN s)))).cell? ⟨q, 0, none⟩ = some (.string ((nextS s).extract 0 (sizeN s))) := by
    simp [go_sem, q1]
  clear p1 q1 f1 c0 g0 hg1 h1
  generalize (w1.setCell ⟨q, 0, none⟩ (.string ((nextS s).extract 0 (sizeN s)))) = w2 at *
  have c0 := h2.c0
  have g0 := h2.fr 0
  go_region
  all_goals (go_end0)
  all_goals (refine ⟨rfl, ?_, ?_, ?_⟩)
  all_goals (first | (exact h2.set0 _) | (exact grow_drawn (grow_same gg (grow_set _ _ _))) | (exact (World.cell?_of_block (w := w2) (Below.heap_setCell _ _ _ _ hqb)).trans q2))
set_option maxRecDepth 100000 in
theorem Text_good (b : Nat) (s : ByteArray) (w : World) (h : Rd w b s false) (hs : s.size ≤ 1000000000000000) :
    Calls Tryd.prog 49 #[.pointer (some ⟨b, 0, none⟩)] w fun e w' => e = .returned (.string ((nextS s).extract 0 (sizeN s))) ∧ Rd w' b ((nextS s).extract (sizeN s) (nextS s).size) (sizeBad s) ∧ w.grownBy w' (some b) := by
  have hmf : ∀ (fn : Fn) (first cap : Array Value) (w : World), (Instr.makeFunc fn first cap).run Tryd.prog w = .ok (.func fn first cap) w := fun _ _ _ _ => rfl
  have hb := h.lt
  have ha := (h.alloc (.cells #[.pointer (some ⟨b, 0, none⟩)] 72)).alloc (.cells #[.string ⟨#[]⟩] 9)
  have c1 := ha.c1
  have T := TextIn_any b (w.heap.size + 1) w.heap.size s false w _ ha hs (two_cell0 _ _ _ _ _) _ (two_cell1 _ _ _ _ _) (two_fr1 _ _ _ _ _) (by omega) (by omega) (by omega) (by omega) (grow_alloc _ _ (World.grownBy_alloc _ _ _))
  have HT := Lib.hid T
  clear T
  go_enter Tryd.func49, Tryd.ntmps49
  go_wp2_with (first | (go_at_call 70; refine HT.out.mono ?_; rintro e w1 ⟨rfl, h1, hg1, q1⟩) | go_in)
  go_ret
  exact ⟨rfl, h1, hg1⟩
set_option maxRecDepth 100000 in
theorem Text_bad (b : Nat) (s : ByteArray) (w : World) (h : Rd w b s true) :
    Calls Tryd.prog 49 #[.pointer (some ⟨b, 0, none⟩)] w fun e w' => e = .returned (.string ⟨#[]⟩) ∧ Rd w' b s true ∧ w.grownBy w' (some b) := by
  have hmf : ∀ (fn : Fn) (first cap : Array Value) (w : World), (Instr.makeFunc fn first cap).run Tryd.prog w = .ok (.func fn first cap) w := fun _ _ _ _ => rfl
  have hb := h.lt
  have ha := (h.alloc (.cells #[.pointer (some ⟨b, 0, none⟩)] 72)).alloc (.cells #[.string ⟨#[]⟩] 9)
  have c1 := ha.c1
  go_enter Tryd.func49, Tryd.ntmps49
  go_wp2
  go_ret
  exact ⟨rfl, ha, grow_alloc _ _ (World.grownBy_alloc _ _ _)⟩
set_option maxRecDepth 100000 in
theorem Text_nil (w : World) :
    Calls Tryd.prog 49 #[.pointer none] w fun e w' => e = .returned (.string ⟨#[]⟩) ∧ w.grownBy w' none := by
  have hmf : ∀ (fn : Fn) (first cap : Array Value) (w : World), (Instr.makeFunc fn first cap).run Tryd.prog w = .ok (.func fn first cap) w := fun _ _ _ _ => rfl
  go_enter Tryd.func49, Tryd.ntmps49
  go_wp2
  go_ret
  exact ⟨rfl, grow_alloc _ _ (World.grownBy_alloc _ _ _)⟩
set_option maxRecDepth 100000 in
theorem Text_any2 (b : Nat) (s : ByteArray) (bad : Bool) (w : World) (h : Rd w b s bad) (hs : s.size ≤ 1000000000000000) :
    Calls Tryd.prog 49 #[.pointer (some ⟨b, 0, none⟩)] w fun e w' => e = .returned (.string (rText s bad)) ∧ Rd w' b (rTextS s bad) (rCountB s bad) ∧ w.grownBy w' (some b) := by
  cases bad with
  | true => exact Text_bad b s w h
  | false => exact Text_good b s w h hs
end Go.Proofs.YtgcdfoadegojcaaDoor
