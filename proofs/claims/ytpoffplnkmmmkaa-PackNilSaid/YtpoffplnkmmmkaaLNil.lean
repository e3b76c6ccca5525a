/- The law PackNil: its walk. -/
import Derived.Test.YtpoffplnkmmmkaaPkL
namespace Go.Proofs.Ytpoffplnkmmmkaa
open Go.RowKit
set_option linter.unusedVariables false
set_option maxRecDepth 100000 in
theorem law_PackNil (w : World) : Calls Try.prog 10 #[] w fun e w' => e = .returned (.bool true) ∧ Below w.heap.size w w' := by
  go_enter Try.func10, Try.ntmps10
  go_wp2_with fail
  refine (Spoil_nil _).mono ?_
  rintro e w1 ⟨rfl, g1⟩
  go_wp2_with fail
  refine (awake_any _).mono ?_
  rintro e w2 ⟨rfl, g2⟩
  have G2 := grow_none g1 g2
  clear g1 g2
  go_wp2_with fail
  refine (Num_nil _).mono ?_
  rintro e w3 ⟨rfl, g3⟩
  have G3 := grow_none G2 g3
  clear G2 g3
  go_wp2_with fail
  refine (Text_nil _).mono ?_
  rintro e w4 ⟨rfl, g4⟩
  have G4 := grow_none G3 g4
  clear G3 g4
  go_wp2_with fail
  refine (Count_nil _).mono ?_
  rintro e w5 ⟨rfl, g5⟩
  have G5 := grow_none G4 g5
  clear G4 g5
  go_wp2_with fail
  refine (Left_nil _).mono ?_
  rintro e w6 ⟨rfl, g6⟩
  have G6 := grow_none G5 g6
  clear G5 g6
  go_wp2_with fail
  refine (Good_nil _).mono ?_
  rintro e w7 ⟨rfl, g7⟩
  have G7 := grow_none G6 g7
  clear G6 g7
  go_wp2_with fail
  refine (Done_nil _).mono ?_
  rintro e w8 ⟨rfl, g8⟩
  have G8 := grow_none G7 g8
  clear G7 g8
  go_wp2
  go_ret
  exact ⟨rfl, below_of_none G8⟩
end Go.Proofs.Ytpoffplnkmmmkaa
