/- The law DiskNil: its walk. -/
import Derived.Test.YtgfmmchmkfboaaaDkM
import Derived.Test.YtgfmmchmkfboaaaStB
namespace Go.Proofs.Ytgfmmchmkfboaaa
open Go.RowKit
set_option linter.unusedVariables false
set_option maxRecDepth 100000 in
set_option maxHeartbeats 4000000 in
theorem law_DiskNil (o : Oc) (ks : List Int) {w : World} (hok : OcOk w o ks) (p : ByteArray) (hp : p.size ≤ maxLen) :
    Calls Try.prog 8 #[o.val, .string p] w fun e w' => e = .returned (.bool true) ∧ Below w.heap.size w w' := by
  obtain ⟨kd, nme, dta, num, kp⟩ := o
  obtain ⟨an, cn, en⟩ := rowAt_len hok.row
  rw [List.length_map] at en
  dsimp only at en
  subst en
  have HOK := Lib.hid hok
  clear hok hp
  unfold Oc.val
  go_enter Try.func8, Try.ntmps8
  go_wp2_with fail
  refine (awake_any _).mono ?_
  rintro e w1 ⟨rfl, g1⟩
  have B1 := (Blk.new w 31 [.int .i64 kd, .string nme, .string dta, .int .i64 num, .slice an ks.length cn]).keep g1
  have hb1 := B1.lt
  have q0 := B1.cell 0 (by simp)
  have q1 := B1.cell 1 (by simp)
  have q2 := B1.cell 2 (by simp)
  have q3 := B1.cell 3 (by simp)
  have q4 := B1.cell 4 (by simp)
  have G1 := Lib.hid (grow_none (World.grownBy_alloc w (.cells #[.int .i64 kd, .string nme, .string dta, .int .i64 num, .slice an ks.length cn] 31) none) g1)
  have HB1 := Lib.hid B1
  have g2 : w1.grownBy (w1.alloc (.cells #[.int .i64 kd, .string nme, .string dta, .int .i64 num, .slice an ks.length cn] 31)) none := World.grownBy_alloc _ _ _
  have HR := Lib.hid (show ReadK Oc.cells 5 (w1.alloc (.cells #[.int .i64 kd, .string nme, .string dta, .int .i64 num, .slice an ks.length cn] 31)) (.slice (some ⟨w1.heap.size, 0, none⟩) 1 1) [⟨kd, nme, dta, num, .slice an ks.length cn⟩] from ReadK.one Oc.len w1 ⟨kd, nme, dta, num, .slice an ks.length cn⟩ 31 1 #[.int .i64 kd, .string nme, .string dta, .int .i64 num, .slice an ks.length cn] rfl)
  have OK2 := Lib.hid (HOK.out.keep (grow_none G1.out g2))
  have B2 := Lib.hid (B1.keep g2)
  have G2 := Lib.hid (grow_none G1.out g2)
  clear B1 g1 g2
  go_wp2_with fail
  refine (great_any _ [⟨kd, nme, dta, num, .slice an ks.length cn⟩] _ HR.out (by show 1 ≤ 2^63-1; decide) (fun o ho => ⟨ks, by rw [List.mem_singleton.1 ho]; exact OK2.out⟩)).mono ?_
  rintro e w3 ⟨hg, g3⟩
  have G3 := Lib.hid (grow_none G2.out g3)
  rcases hg with rfl | ⟨rfl, _, hn⟩
  · clear g3
    go_wp2_with fail
    refine (awake_any _).mono ?_
    rintro e w4 ⟨rfl, g4⟩
    have G4 := Lib.hid (grow_none G3.out g4)
    clear g4
    go_wp2_with fail
    go_ret
    exact ⟨rfl, below_of_none G4.out⟩
  · have hks := Lib.hid (hn _ (List.mem_singleton.2 rfl) ks OK2.out).2.2
    have B3 := Lib.hid (B2.out.keep g3)
    have OK3 := Lib.hid (OK2.out.keep g3)
    have hb3 := B3.out.lt
    clear q0 q1 q2 q3 q4 hn g3 HR G1 G2 OK2 B2 HB1
    have q0 := B3.out.cell 0 (by simp)
    have q1 := B3.out.cell 1 (by simp)
    have q2 := B3.out.cell 2 (by simp)
    have q3 := B3.out.cell 3 (by simp)
    have q4 := B3.out.cell 4 (by simp)
    go_wp2_with fail
    refine (did_nil ⟨kd, nme, dta, num, .slice an ks.length cn⟩ ks _ OK3.out hks.out).mono ?_
    rintro e w4 ⟨rfl, g4⟩
    have B4 := B3.out.keep g4
    have G4 := Lib.hid (grow_none G3.out g4)
    clear q0 q1 q2 q3 q4 g4
    have q0 := B4.cell 0 (by simp)
    have q1 := B4.cell 1 (by simp)
    clear B4
    go_wp2_with fail
    refine (Read_nil nme _).mono ?_
    rintro e w5 ⟨rfl, rfl⟩
    obtain ⟨nc, hnc⟩ : ∃ nc, nc = nilC kd := ⟨_, rfl⟩
    rw [← hnc]
    have HN := Lib.hid hnc
    clear hnc
    have key : ((1 ≤ kd ∧ kd ≤ 3) ∧ nc = 2) ∨ (kd = 6 ∧ nc = 2) ∨ (kd < 1 ∧ nc = 0) ∨ ((3 < kd ∧ kd ≠ 6) ∧ nc = 0) := by
      have := HN.out
      unfold nilC at this
      split at this <;> omega
    rcases key with ⟨⟨h1, h3⟩, hc⟩ | ⟨hc6, hc⟩ | ⟨h1, hc⟩ | ⟨⟨h3, h6⟩, hc⟩
    · subst hc
      have d1 : decide (1 ≤ kd) = true := decide_eq_true h1
      have d3 : decide (kd ≤ 3) = true := decide_eq_true h3
      go_wp2_with fail
      refine (Names_nil p _).mono ?_
      rintro e w6 ⟨rfl, rfl⟩
      go_wp2_with fail
      refine (Down_nil _).mono ?_
      rintro e w6 ⟨rfl, rfl⟩
      go_wp2_with fail
      refine (Steps_nil _).mono ?_
      rintro e w6 ⟨rfl, rfl⟩
      go_wp2_with fail
      refine (Copy_nil _).mono ?_
      rintro e w6 ⟨rfl, rfl⟩
      go_wp2_with fail
      go_ret
      exact ⟨rfl, below_of_none G4.out⟩
    · subst hc hc6
      go_wp2_with fail
      refine (Names_nil p _).mono ?_
      rintro e w6 ⟨rfl, rfl⟩
      go_wp2_with fail
      refine (Down_nil _).mono ?_
      rintro e w6 ⟨rfl, rfl⟩
      go_wp2_with fail
      refine (Steps_nil _).mono ?_
      rintro e w6 ⟨rfl, rfl⟩
      go_wp2_with fail
      refine (Copy_nil _).mono ?_
      rintro e w6 ⟨rfl, rfl⟩
      go_wp2_with fail
      go_ret
      exact ⟨rfl, below_of_none G4.out⟩
    · subst hc
      have d1 : decide (1 ≤ kd) = false := decide_eq_false (by omega)
      have d6 : (kd == 6) = false := by rw [beq_eq_false_iff_ne]; omega
      go_wp2_with fail
      refine (Names_nil p _).mono ?_
      rintro e w6 ⟨rfl, rfl⟩
      go_wp2_with fail
      refine (Down_nil _).mono ?_
      rintro e w6 ⟨rfl, rfl⟩
      go_wp2_with fail
      refine (Steps_nil _).mono ?_
      rintro e w6 ⟨rfl, rfl⟩
      go_wp2_with fail
      refine (Copy_nil _).mono ?_
      rintro e w6 ⟨rfl, rfl⟩
      go_wp2_with fail
      go_ret
      exact ⟨rfl, below_of_none G4.out⟩
    · subst hc
      have d1 : decide (1 ≤ kd) = true := decide_eq_true (by omega)
      have d3 : decide (kd ≤ 3) = false := decide_eq_false (by omega)
      have d6 : (kd == 6) = false := by rw [beq_eq_false_iff_ne]; exact h6
      go_wp2_with fail
      refine (Names_nil p _).mono ?_
      rintro e w6 ⟨rfl, rfl⟩
      go_wp2_with fail
      refine (Down_nil _).mono ?_
      rintro e w6 ⟨rfl, rfl⟩
      go_wp2_with fail
      refine (Steps_nil _).mono ?_
      rintro e w6 ⟨rfl, rfl⟩
      go_wp2_with fail
      refine (Copy_nil _).mono ?_
      rintro e w6 ⟨rfl, rfl⟩
      go_wp2_with fail
      go_ret
      exact ⟨rfl, below_of_none G4.out⟩
end Go.Proofs.Ytgfmmchmkfboaaa
