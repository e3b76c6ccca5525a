/- The law ShaNames: its walk. -/
import Derived.Test.YtednbfhjkanllaaDoorShL
namespace Go.Proofs.YtednbfhjkanllaaDoor
open Go.RowKit
set_option linter.unusedVariables false
set_option maxRecDepth 100000 in
set_option maxHeartbeats 2000000 in
theorem law_ShaNames (h : ByteArray) (hh : h.size ≤ maxLen) (n : ByteArray) (hn : n.size ≤ maxLen) {w : World} (hm : Tb w) :
    Calls Tryd.prog 5 #[.string h, .string n] w fun e w' => e = .returned (.bool true) ∧ Below w.heap.size w w' := by
  have hhi : (h.size : Int) ≤ 9223372036854775807 := by unfold maxLen at hh; omega
  have hni : (n.size : Int) ≤ 9223372036854775807 := by unfold maxLen at hn; omega
  clear hh hn
  by_cases h1 : 4096 < h.size ∨ 4096 < n.size
  · have hor : decide ((4096 : Int) < h.size) = true ∨ decide ((4096 : Int) < h.size) = false ∧ decide ((4096 : Int) < n.size) = true := by
      simp only [decide_eq_true_eq, decide_eq_false_iff_not]
      omega
    clear h1
    rcases hor with e1 | ⟨e1, e2⟩
    all_goals
      go_enter Tryd.func5, Tryd.ntmps5
      go_wp2_with fail
      refine (awake03_any _ hm).mono ?_
      rintro e w2 ⟨rfl, g2⟩
      have m2 := hm.kept g2
      go_wp2_with fail
      refine (awake03_any _ m2).mono ?_
      rintro e w3 ⟨rfl, g3⟩
      have G3 := grow_none g2 g3
      clear g2 g3
      go_wp2
      go_ret
      exact ⟨rfl, below_of_none G3⟩
  · have e1 : decide ((4096 : Int) < h.size) = false := decide_eq_false (by omega)
    have e2 : decide ((4096 : Int) < n.size) = false := decide_eq_false (by omega)
    have hs : h.size ≤ 1000000 := by omega
    have ns : n.size ≤ 1000000 := by omega
    have HS := Lib.hid hs
    have NS := Lib.hid ns
    obtain ⟨X, hX⟩ : ∃ X : ByteArray, X = ⟨(hexB h.data.toList).toArray⟩ := ⟨_, rfl⟩
    have hV : ∃ (Y : ByteArray) (q : Bool), hashV n = .tuple #[.string Y, .bool q] := by
      unfold hashV
      split
      · exact ⟨_, _, rfl⟩
      · exact ⟨_, _, rfl⟩
    obtain ⟨Y, q, hV⟩ := hV
    have HX := Lib.hid hX
    have HV := Lib.hid hV
    clear h1 hs ns hX hV
    go_enter Tryd.func5, Tryd.ntmps5
    go_wp2_with fail
    refine (awake03_any _ hm).mono ?_
    rintro e w2 ⟨rfl, g2⟩
    go_wp2_with fail
    refine (Hash_any n _ NS.out).mono ?_
    rintro e w3 ⟨rfl, g3⟩
    rw [HV.out]
    have G3 := grow_none g2 g3
    go_wp2_with fail
    refine (refHash_any n _ NS.out).mono ?_
    rintro e w4 ⟨rfl, g4⟩
    rw [HV.out]
    have G4 := grow_none G3 g4
    go_wp2_with fail
    refine (Name_any h _ HS.out).mono ?_
    rintro e w5 ⟨rfl, g5⟩
    have G5 := grow_none G4 g5
    go_wp2_with fail
    refine (refName_any h _ HS.out).mono ?_
    rintro e w6 ⟨rfl, g6⟩
    have G6 := grow_none G5 g6
    rw [← HX.out]
    clear g2 g3 g4 g5 g6 G3 G4 G5
    go_wp2
    go_ret
    exact ⟨rfl, below_of_none G6⟩
end Go.Proofs.YtednbfhjkanllaaDoor
