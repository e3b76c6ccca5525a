/- What the package pack's Reader does: its parts that need a good reader. -/
import Derived.Test.YtgcdfoadegojcaaDoorPkF
namespace Go.Proofs.YtgcdfoadegojcaaDoor
open Go.RowKit
set_option linter.unusedVariables false
/-- Block b is a reader. -/
def Rd (w : World) (b : Nat) (s : ByteArray) (bad : Bool) : Prop := w.heap[b]? = some (.cells #[.string s, .bool bad] 95 (0, 0))
theorem Rd.c0 {w : World} {b : Nat} {s : ByteArray} {bad : Bool} (h : Rd w b s bad) : w.cell? ⟨b, 0, none⟩ = some (.string s) := by unfold Rd at h; simp [World.cell?, h]
theorem Rd.c1 {w : World} {b : Nat} {s : ByteArray} {bad : Bool} (h : Rd w b s bad) : w.cell? ⟨b, 1, none⟩ = some (.bool bad) := by unfold Rd at h; simp [World.cell?, h]
theorem Rd.fr {w : World} {b : Nat} {s : ByteArray} {bad : Bool} (h : Rd w b s bad) (o : Nat) : w.frozen? ⟨b, o, none⟩ = false := by unfold Rd at h; simp [World.frozen?, h]
theorem Rd.lt {w : World} {b : Nat} {s : ByteArray} {bad : Bool} (h : Rd w b s bad) : b < w.heap.size := (Array.getElem?_eq_some_iff.1 h).1
theorem Rd.set0 {w : World} {b : Nat} {s : ByteArray} {bad : Bool} (h : Rd w b s bad) (s' : ByteArray) : Rd (w.setCell ⟨b, 0, none⟩ (.string s')) b s' bad := by
  unfold Rd at h ⊢; simp [World.setCell, Array.getElem?_modify, h]
theorem Rd.set1 {w : World} {b : Nat} {s : ByteArray} {bad : Bool} (h : Rd w b s bad) (bad' : Bool) : Rd (w.setCell ⟨b, 1, none⟩ (.bool bad')) b s bad' := by
  unfold Rd at h ⊢; simp [World.setCell, Array.getElem?_modify, h]
theorem Rd.kept {w w' : World} {b : Nat} {s : ByteArray} {bad : Bool} (h : Rd w b s bad) {r : Option Nat} (g : w.grownBy w' r) (hr : r ≠ some b) : Rd w' b s bad := by
  unfold Rd at h ⊢; rw [g.block b (Array.getElem?_eq_some_iff.1 h).1 (fun e => hr e.symm)]; exact h
theorem Rd.alloc {w : World} {b : Nat} {s : ByteArray} {bad : Bool} (h : Rd w b s bad) (o : Obj) : Rd (w.alloc o) b s bad := h.kept (World.grownBy_alloc w o none) (by simp)
theorem Rd.new (w : World) (s : ByteArray) : Rd (w.alloc (.cells #[.string s, .bool false] 95)) w.heap.size s false := heap_alloc_new w _
/-- What is left behind the next number. -/
def nextS (s : ByteArray) : ByteArray := s.extract (getN s).2 s.size
def nextBad (s : ByteArray) : Bool := ((getN s).2 : Int) == 0
def sizeN (s : ByteArray) : Nat := if (getN s).1 < 0 ∨ (nextS s).size < (getN s).1 then 0 else (getN s).1.toNat
def sizeBad (s : ByteArray) : Bool := decide ((getN s).1 < 0) || decide (((nextS s).size : Int) < (getN s).1) || nextBad s
/-- What the methods tell of a reader, and what they leave of it. -/
def rNum (s : ByteArray) (bad : Bool) : Int := if bad then 0 else (getN s).1
def rNumS (s : ByteArray) (bad : Bool) : ByteArray := if bad then s else nextS s
def rNumB (s : ByteArray) (bad : Bool) : Bool := bad || nextBad s
def rCount (s : ByteArray) (bad : Bool) : Nat := if bad then 0 else sizeN s
def rCountB (s : ByteArray) (bad : Bool) : Bool := bad || sizeBad s
def rText (s : ByteArray) (bad : Bool) : ByteArray := if bad then ByteArray.empty else (nextS s).extract 0 (sizeN s)
def rTextS (s : ByteArray) (bad : Bool) : ByteArray := if bad then s else (nextS s).extract (sizeN s) (nextS s).size
theorem sizeN_le (s : ByteArray) : sizeN s ≤ (nextS s).size := by unfold sizeN; split <;> omega
set_option maxRecDepth 100000 in
theorem next_any (b : Nat) (s : ByteArray) (bad : Bool) (w : World) (h : Rd w b s bad) (hs : s.size ≤ 1000000000000000) :
    Calls Tryd.prog 67 #[.pointer (some ⟨b, 0, none⟩)] w fun e w' => e = .returned (.int .i64 (getN s).1) ∧ Rd w' b (nextS s) (nextBad s) ∧ w.grownBy w' (some b) := by
  have h0 := h.c0
  have h1 := h.c1
  have f0 := h.fr 0
  have f1 := h.fr 1
  have hu := getN_used s
  go_enter Tryd.func67, Tryd.ntmps67
  go_wp2_with (go_at_call 76; refine (getNum_any _ _ hs).mono ?_; rintro e w' ⟨rfl, rfl⟩)
  go_ret
  exact ⟨rfl, (h.set0 _).set1 _, grow_same (grow_set _ _ _) (grow_set _ _ _)⟩
set_option maxRecDepth 100000 in
theorem size_any (b : Nat) (s : ByteArray) (bad : Bool) (w : World) (h : Rd w b s bad) (hs : s.size ≤ 1000000000000000) :
    Calls Tryd.prog 69 #[.pointer (some ⟨b, 0, none⟩)] w fun e w' => e = .returned (.int .i64 (sizeN s)) ∧ Rd w' b (nextS s) (sizeBad s) ∧ w.grownBy w' (some b) := by
  go_enter Tryd.func69, Tryd.ntmps69
  go_wp2_with fail
  refine (next_any b s bad w h hs).mono ?_
  rintro e w1 ⟨rfl, h1, hg⟩
  have c0 := h1.c0
  have c1 := h1.c1
  have f1 := h1.fr 1
  by_cases hneg : (getN s).1 < 0
  · have en : sizeN s = 0 := by rw [sizeN, if_pos (.inl hneg)]
    have eb : sizeBad s = true := by simp [sizeBad, hneg]
    go_wp2
    go_ret
    rw [en, eb]
    exact ⟨rfl, h1.set1 _, grow_same hg (grow_set _ _ _)⟩
  · by_cases hbig : ((nextS s).size : Int) < (getN s).1
    · have en : sizeN s = 0 := by rw [sizeN, if_pos (.inr hbig)]
      have eb : sizeBad s = true := by simp [sizeBad, hbig]
      go_wp2
      go_ret
      rw [en, eb]
      exact ⟨rfl, h1.set1 _, grow_same hg (grow_set _ _ _)⟩
    · have en : (sizeN s : Int) = (getN s).1 := by rw [sizeN, if_neg (by omega)]; omega
      have eb : sizeBad s = nextBad s := by simp [sizeBad, hneg, hbig]
      have EN := Lib.hid en
      have EB := Lib.hid eb
      clear en eb
      go_wp2
      go_ret
      rw [EN.out, EB.out]
      exact ⟨rfl, h1, hg⟩
end Go.Proofs.YtgcdfoadegojcaaDoor
