/- Stage 5: what a file has. -/
import Derived.Test.YtgfmmchmkfboaaaDkA
namespace Go.Proofs.Ytgfmmchmkfboaaa
open Go.RowKit
set_option linter.unusedVariables false
/-- A file: what lasts, what waits; is it firm? -/
structure Ent where
  l : ByteArray
  w : ByteArray
  s : Bool
def FB (w : World) (g : Nat) (e : Ent) : Prop := Blk w g 72 [.string e.l, .string e.w, .bool e.s]
def Ent.sz (e : Ent) : Nat := e.l.size + e.w.size
theorem FB.c0 {w : World} {g : Nat} {e : Ent} (h : FB w g e) : w.cell? ⟨g, 0, none⟩ = some (.string e.l) := Blk.cell h 0 (by simp)
theorem FB.c1 {w : World} {g : Nat} {e : Ent} (h : FB w g e) : w.cell? ⟨g, 1, none⟩ = some (.string e.w) := Blk.cell h 1 (by simp)
theorem FB.c2 {w : World} {g : Nat} {e : Ent} (h : FB w g e) : w.cell? ⟨g, 2, none⟩ = some (.bool e.s) := Blk.cell h 2 (by simp)
theorem FB.fr {w : World} {g : Nat} {e : Ent} (h : FB w g e) (i : Nat) : w.frozen? ⟨g, i, none⟩ = false := Blk.frozen h i
theorem FB.set1 {w : World} {g : Nat} {e : Ent} (h : FB w g e) (x : ByteArray) : FB (w.setCell ⟨g, 1, none⟩ (.string x)) g ⟨e.l, x, e.s⟩ := Blk.set_ h 1 _
theorem FB.set0 {w : World} {g : Nat} {e : Ent} (h : FB w g e) (x : ByteArray) : FB (w.setCell ⟨g, 0, none⟩ (.string x)) g ⟨x, e.w, e.s⟩ := Blk.set_ h 0 _
theorem FB.set2 {w : World} {g : Nat} {e : Ent} (h : FB w g e) (x : Bool) : FB (w.setCell ⟨g, 2, none⟩ (.bool x)) g ⟨e.l, e.w, x⟩ := Blk.set_ h 2 _
set_option maxRecDepth 100000 in
theorem has_any (g : Nat) (e : Ent) (w : World) (h : FB w g e) (hs : e.sz ≤ 1048576) :
    Calls Try.prog 39 #[.pointer (some ⟨g, 0, none⟩)] w fun en w' => en = .returned (.string (e.l ++ e.w)) ∧ w.grownBy w' none := by
  have c0 := h.c0
  have c1 := h.c1
  have hb : ¬ 9223372036854775807 < e.l.size + e.w.size := by unfold Ent.sz at hs; omega
  clear hs
  go_enter Try.func39, Try.ntmps39
  go_wp2
  go_quiet (fail)
  go_wp2
  go_ret
  exact ⟨rfl, grow_drawnN _ (grow_refl _ _)⟩
set_option maxRecDepth 100000 in
theorem size_any (g : Nat) (e : Ent) (w : World) (h : FB w g e) (hs : e.sz ≤ 1048576) :
    Calls Try.prog 43 #[.pointer (some ⟨g, 0, none⟩)] w fun en w' => en = .returned (.int .i64 e.sz) ∧ w.grownBy w' none := by
  have c0 := h.c0
  have c1 := h.c1
  obtain ⟨a, ha⟩ : ∃ a, a = e.l.size := ⟨_, rfl⟩
  have hz : (e.sz : Int) = (e.l.size : Int) + (e.w.size : Int) := by unfold Ent.sz; omega
  have h1 : (e.l.size : Int) ≤ 1048576 := by unfold Ent.sz at hs; omega
  have h2 : (e.w.size : Int) ≤ 1048576 := by unfold Ent.sz at hs; omega
  have hw : IntKind.i64.wrap ((e.l.size : Int) + (e.w.size : Int)) = (e.l.size : Int) + (e.w.size : Int) := by rw [IntKind.wrap_i64]; omega
  have HZ := Lib.hid hz
  clear hs hz ha
  go_enter Try.func43, Try.ntmps43
  go_wp2
  go_quiet (fail)
  go_wp2
  go_ret
  exact ⟨by rw [HZ.out]; rfl, grow_drawnN _ (grow_refl _ _)⟩
set_option maxRecDepth 100000 in
theorem put_any (g : Nat) (e : Ent) (x : ByteArray) (w : World) (h : FB w g e) (hs : e.sz + x.size ≤ 1048576) :
    Calls Try.prog 45 #[.pointer (some ⟨g, 0, none⟩), .string x] w fun en w' => en = .returned (.tuple #[]) ∧ FB w' g ⟨e.l, e.w ++ x, e.s⟩ ∧ w.grownBy w' (some g) := by
  have c1 := h.c1
  have f1 := h.fr 1
  have hb : ¬ 9223372036854775807 < e.w.size + x.size := by unfold Ent.sz at hs; omega
  clear hs
  go_enter Try.func45, Try.ntmps45
  go_wp2
  go_end0
  exact ⟨rfl, h.set1 _, grow_set _ _ _⟩
theorem ext_all (x : ByteArray) (k : Nat) (h : k = x.size) : x.extract 0 k = x := by
  subst h
  apply ByteArray.ext
  simp
theorem ext_none (x : ByteArray) (k : Nat) (h : k = 0) : x.extract 0 k = ByteArray.empty := by
  subst h
  apply ByteArray.ext
  simp
theorem app_none (x : ByteArray) : x ++ ByteArray.empty = x := by
  apply ByteArray.ext
  simp
/-- The first n bytes that wait last. -/
def settleE (e : Ent) (n : Int) : Ent := ⟨e.l ++ e.w.extract 0 (max 0 (min n (e.w.size : Int))).toNat, ⟨#[]⟩, e.s⟩
set_option maxRecDepth 100000 in
set_option maxHeartbeats 1000000 in
theorem settle_any (g : Nat) (e : Ent) (n : Int) (w : World) (h : FB w g e) (hs : e.sz ≤ 1048576) :
    Calls Try.prog 41 #[.pointer (some ⟨g, 0, none⟩), .int .i64 n] w fun en w' => en = .returned (.tuple #[]) ∧ FB w' g (settleE e n) ∧ w.grownBy w' (some g) := by
  have h0 := h
  have c0 := h.c0
  have c1 := h.c1
  have f0 := h.fr 0
  have f1 := h.fr 1
  obtain ⟨k, hk⟩ : ∃ k : Nat, k = (max 0 (min n (e.w.size : Int))).toNat := ⟨_, rfl⟩
  have hkI : max 0 (min n (e.w.size : Int)) = (k : Int) := by omega
  have hkw : k ≤ e.w.size := by omega
  have HSE : Hid (settleE e n = ⟨e.l ++ e.w.extract 0 k, ⟨#[]⟩, e.s⟩) := by show _ = _; unfold settleE; rw [← hk]
  have hki : (k : Int) ≤ e.w.size := by omega
  have hsz : (e.w.extract 0 k).size = k := by rw [ByteArray.size_extract]; omega
  have hb : ¬ 9223372036854775807 < e.l.size + (e.w.extract 0 k).size := by rw [hsz]; unfold Ent.sz at hs; omega
  have hb2 : ¬ 9223372036854775807 < e.l.size + k := by unfold Ent.sz at hs; omega
  clear hs hk
  go_enter Try.func41, Try.ntmps41
  go_wp2
  go_region
  all_goals
    go_wp2
  all_goals
    go_end0
    first
      | exact ⟨rfl, by rw [HSE.out, ext_none e.w k (by omega), app_none]; exact (h0.set0 _).set1 _, grow_drawn (grow_same (grow_set _ _ _) (grow_set _ ⟨g, 1, none⟩ _))⟩
      | exact ⟨rfl, by rw [HSE.out, ext_all e.w k (by omega)]; exact (h0.set0 _).set1 _, grow_drawn (grow_same (grow_set _ _ _) (grow_set _ ⟨g, 1, none⟩ _))⟩
      | exact ⟨rfl, by rw [HSE.out, show k = n.toNat by omega]; exact (h0.set0 _).set1 _, grow_drawn (grow_same (grow_set _ _ _) (grow_set _ ⟨g, 1, none⟩ _))⟩
end Go.Proofs.Ytgfmmchmkfboaaa
