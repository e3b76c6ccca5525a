/- The law FrameOpens: its walk. -/
import Derived.Test.YtljhghlginachaaDoorFrJ
namespace Go.Proofs.YtljhghlginachaaDoor
open Go.RowKit
set_option linter.unusedVariables false
set_option maxRecDepth 100000 in
set_option maxHeartbeats 2000000 in
theorem law_FrameOpens (s : ByteArray) (hs : s.size ≤ maxLen) {w : World} (hm : Mv w) :
    Calls Tryd.prog 4 #[.string s] w fun e w' => e = .returned (.bool true) ∧ Below w.heap.size w w' := by
  have hsi : (s.size : Int) ≤ 9223372036854775807 := by unfold maxLen at hs; omega
  clear hs
  by_cases h2 : 8192 < s.size
  · have h2' : decide ((8192 : Int) < s.size) = true := decide_eq_true (by omega)
    go_enter Tryd.func4, Tryd.ntmps4
    go_wp2_with fail
    refine (awake04_any _ hm).mono ?_
    rintro e w2 ⟨rfl, g2⟩
    have m2 := hm.kept g2
    go_wp2_with fail
    refine (awake04_any _ m2).mono ?_
    rintro e w3 ⟨rfl, g3⟩
    have G3 := grow_none g2 g3
    clear g2 g3
    go_wp2
    go_ret
    exact ⟨rfl, below_of_none G3⟩
  · have h2' : decide ((8192 : Int) < s.size) = false := decide_eq_false (by omega)
    have hs1 : s.size ≤ 1000000000 := by omega
    have hs2 : (s.size : Int) ≤ 8192 := by omega
    have HS := Lib.hid hs1
    clear hs1 h2
    rcases Bool.eq_false_or_eq_true (opB s) with hop | hop
    all_goals
      have HOP := Lib.hid hop
      clear hop
      go_enter Tryd.func4, Tryd.ntmps4
      go_wp2_with fail
      refine (awake04_any _ hm).mono ?_
      rintro e w2 ⟨rfl, g2⟩
      have m2 := hm.kept g2
      go_wp2_with fail
      first | refine (Open_yes s _ m2 HS.out HOP.out).mono ?_ | refine (Open_not s _ m2 HS.out HOP.out).mono ?_
      rintro e w3 ⟨rfl, g3⟩
      have G3 := grow_none g2 g3
      clear g2 g3 m2
      go_wp2_with fail
      first | refine (refOpen_yes s _ HS.out HOP.out).mono ?_ | refine (refOpen_not s _ HS.out HOP.out).mono ?_
      rintro e w4 ⟨rfl, g4⟩
      have G4 := grow_none G3 g4
      have m4 := hm.kept G4
      clear G3 g4
      go_wp2_with fail
      refine (Scan_any s _ m4 HS.out).mono ?_
      rintro e w5 ⟨p5, q5, l5, c5, k5, z5, y5, rfl, r5, g5⟩
      have G5 := grow_none G4 g5
      have K5 := Lib.hid k5
      clear G4 g5 k5 m4
      go_wp2_with fail
      refine (refScan_any s _ HS.out).mono ?_
      rintro e w6 ⟨p6, q6, l6, c6, k6, z6, y6, rfl, r6, g6⟩
      have G6 := grow_none G5 g6
      have r5' := r5.kept g6
      obtain ⟨rfl, rfl⟩ := K5.out.same k6
      have hml : l5.length ≤ maxLen := by unfold maxLen; have := HS.out; omega
      have HML := Lib.hid hml
      have hcs : (c5.size : Int) ≤ s.size := by omega
      clear G5 g6 k6 r5 hml z5 z6
      go_wp2_with fail
      refine (Same_any _ _ _ _ _ r5' r6 HML.out HML.out).mono ?_
      rintro e w7 ⟨rfl, g7⟩
      rw [decide_eq_true rfl]
      have G7 := grow_none G6 g7
      clear G6 g7 r5' r6
      go_wp2
      go_ret
      exact ⟨rfl, below_of_none G7⟩
end Go.Proofs.YtljhghlginachaaDoor
