/- Stage 5: a call of a drive that is none. -/
import Derived.Test.YtgfmmchmkfboaaaDkL
namespace Go.Proofs.Ytgfmmchmkfboaaa
open Go.RowKit
set_option linter.unusedVariables false
theorem info_int05 : (Try.prog.info? 3).map (fun i => (i.zero, i.size, i.bytes)) = some (some (.int .i64 0), 1, 8) := by kernel_rfl
theorem ones_int05 (l : List Int) : ∀ u ∈ l.map (Value.int .i64), u.oneCell' = true := by
  intro u hu
  obtain ⟨x, _, rfl⟩ := List.mem_map.1 hu
  rfl
def nilC (k : Int) : Int := if k = 1 ∨ k = 2 ∨ k = 3 ∨ k = 6 then 2 else 0
set_option maxRecDepth 100000 in
set_option maxHeartbeats 2000000 in
theorem did_nil (o : Oc) (ks : List Int) (w : World) (hok : OcOk w o ks) (hsm : ks.length ≤ 8192) :
    Calls Try.prog 13 #[.pointer none, o.val] w fun e w' => e = .returned (.tuple #[.pointer none, .int .i64 (nilC o.kind)]) ∧ w.grownBy w' none := by
  obtain ⟨kd, nme, dta, num, kp⟩ := o
  obtain ⟨an, cn, en⟩ := rowAt_len hok.row
  rw [List.length_map] at en
  dsimp only at en
  subst en
  have HOK := Lib.hid hok
  have hnl := hok.ksl
  have HNL := Lib.hid hnl
  have HSM := Lib.hid hsm
  clear hok hnl hsm
  obtain ⟨i0, hi, hz0, hz1, hz2⟩ := info_parts info_int05
  unfold Oc.val
  by_cases h1 : kd = 1
  · subst h1
    go_enter Try.func13, Try.ntmps13
    go_wp2_with fail
    refine (Append_nil nme dta _).mono ?_
    rintro e w1 ⟨rfl, rfl⟩
    have GX : w.grownBy (w.alloc (.cells #[.int .i64 1, .string nme, .string dta, .int .i64 num, .slice an ks.length cn] 31)) none := World.grownBy_alloc _ _ _
    go_wp2_with fail
    go_ret2
    exact ⟨rfl, GX⟩
  by_cases h2 : kd = 2
  · subst h2
    go_enter Try.func13, Try.ntmps13
    go_wp2_with fail
    refine (Sync_nil nme _).mono ?_
    rintro e w1 ⟨rfl, rfl⟩
    have GX : w.grownBy (w.alloc (.cells #[.int .i64 2, .string nme, .string dta, .int .i64 num, .slice an ks.length cn] 31)) none := World.grownBy_alloc _ _ _
    go_wp2_with fail
    go_ret2
    exact ⟨rfl, GX⟩
  by_cases h3 : kd = 3
  · subst h3
    go_enter Try.func13, Try.ntmps13
    go_wp2_with fail
    refine (Remove_nil nme _).mono ?_
    rintro e w1 ⟨rfl, rfl⟩
    have GX : w.grownBy (w.alloc (.cells #[.int .i64 3, .string nme, .string dta, .int .i64 num, .slice an ks.length cn] 31)) none := World.grownBy_alloc _ _ _
    go_wp2_with fail
    go_ret2
    exact ⟨rfl, GX⟩
  by_cases h4 : kd = 4
  · subst h4
    go_enter Try.func13, Try.ntmps13
    go_wp2_with fail
    refine (Fuse_nil num _).mono ?_
    rintro e w1 ⟨rfl, rfl⟩
    have GX : w.grownBy (w.alloc (.cells #[.int .i64 4, .string nme, .string dta, .int .i64 num, .slice an ks.length cn] 31)) none := World.grownBy_alloc _ _ _
    go_wp2_with fail
    go_ret2
    exact ⟨rfl, GX⟩
  by_cases h5 : kd = 5
  · subst h5
    go_enter Try.func13, Try.ntmps13
    have r6 := HOK.out.row.kept (World.grownBy_alloc w (.cells #[.int .i64 5, .string nme, .string dta, .int .i64 num, .slice an ks.length cn] 31) none)
    have r7 := r6.kept (World.grownBy_alloc (w.alloc (.cells #[.int .i64 5, .string nme, .string dta, .int .i64 num, .slice an ks.length cn] 31)) (.cells #[] 3) none)
    have oE : ((w.alloc (.cells #[.int .i64 5, .string nme, .string dta, .int .i64 num, .slice an ks.length cn] 31)).alloc (.cells #[] 3)).ownsRow 0 3 1 (.slice (some ⟨w.heap.size + 1, 0, none⟩) 0 0) 0 [] := by
      have := own_empty (w.alloc (.cells #[.int .i64 5, .string nme, .string dta, .int .i64 num, .slice an ks.length cn] 31)) 3 1
      simpa using this
    go_wp2_with (at_builtin; refine wpList_append_row _ rfl _ _ 29 rfl 3 i0 (.int .i64 0) 8 Try.underlying29 hi hz0 hz1 hz2 rfl (.slice (some ⟨w.heap.size + 1, 0, none⟩) 0 0) 0 [] rfl oE _ (ks.map (Value.int .i64)) rfl r7 (ones_int05 ks) (by rw [List.length_map]; have := HNL.out; show _ ≤ 2^63-1; omega) (by rw [List.length_map]; have := HOK.out.ksl; have := HSM.out; omega) ?_)
    intro v8 w8 o8 g8 m8
    have GX := grow_alloc w _ (grow_newblk (World.grownBy_alloc (w.alloc (.cells #[.int .i64 5, .string nme, .string dta, .int .i64 num, .slice an ks.length cn] 31)) (.cells #[] 3) none) (newblk_at _ (w.heap.size + 1) 0 0 (by simp) 0) g8)
    clear r6 r7 oE o8 g8 m8
    go_wp2_with fail
    refine (Crash_nil _ _).mono ?_
    rintro e w1 ⟨rfl, rfl⟩
    go_wp2_with fail
    go_ret2
    exact ⟨rfl, GX⟩
  by_cases h6 : kd = 6
  · subst h6
    go_enter Try.func13, Try.ntmps13
    go_wp2_with fail
    refine (Flip_nil nme num _).mono ?_
    rintro e w1 ⟨rfl, rfl⟩
    have GX : w.grownBy (w.alloc (.cells #[.int .i64 6, .string nme, .string dta, .int .i64 num, .slice an ks.length cn] 31)) none := World.grownBy_alloc _ _ _
    go_wp2_with fail
    go_ret2
    exact ⟨rfl, GX⟩
  by_cases h7 : kd = 7
  · subst h7
    go_enter Try.func13, Try.ntmps13
    go_wp2_with fail
    refine (Copy_nil _).mono ?_
    rintro e w1 ⟨rfl, rfl⟩
    have GX : w.grownBy (w.alloc (.cells #[.int .i64 7, .string nme, .string dta, .int .i64 num, .slice an ks.length cn] 31)) none := World.grownBy_alloc _ _ _
    go_wp2_with fail
    go_ret2
    exact ⟨rfl, GX⟩
  have HC : Hid (nilC kd = 0) := by show _ = _; unfold nilC; rw [if_neg (by omega)]
  have e1 : (kd == 1) = false := by rw [beq_eq_false_iff_ne]; exact h1
  have e2 : (kd == 2) = false := by rw [beq_eq_false_iff_ne]; exact h2
  have e3 : (kd == 3) = false := by rw [beq_eq_false_iff_ne]; exact h3
  have e4 : (kd == 4) = false := by rw [beq_eq_false_iff_ne]; exact h4
  have e5 : (kd == 5) = false := by rw [beq_eq_false_iff_ne]; exact h5
  have e6 : (kd == 6) = false := by rw [beq_eq_false_iff_ne]; exact h6
  have e7 : (kd == 7) = false := by rw [beq_eq_false_iff_ne]; exact h7
  go_enter Try.func13, Try.ntmps13
  go_wp2_with fail
  go_ret2
  exact ⟨by rw [HC.out]; rfl, World.grownBy_alloc _ _ _⟩
end Go.Proofs.Ytgfmmchmkfboaaa
