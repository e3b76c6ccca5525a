/- Several texts in one: CrT. -/
import Derived.Test.YtphljjgjpkdpmaaGreatDoorRows
import Derived.Test.YtphljjgjpkdpmaaGreatDoorK8
import Derived.Lib.LaidTab
/- What the row's list gives: the table's cells. -/
namespace Go.Proofs.YtphljjgjpkdpmaaGreatDoor
open Go.RowKit
theorem gMoved : Tryz.prog.globalNamed "redoubt/crc.moved" = some 3 := by kernel_rfl
theorem gMovedType : (Tryz.prog.globals[3]?).map (·.type) = some 195 := by kernel_rfl
theorem cellsMoved : Tryz.prog.cellsOf 195 = 16 := by kernel_rfl
theorem cellsU32 : Tryz.prog.cellsOf 121 = 1 := by kernel_rfl
theorem mv_of_laid {W : World} (h : laidMetH Tryz.prog [("redoubt/crc.moved", Rows.laid_redoubt_crc_moved)] W) : Mv W := by
  have ht : Lib.TabIs Tryz.prog W "redoubt/crc.moved" .u32 [0, 498536548, 997073096, 651767980, 1994146192, 1802195444, 1303535960, 1342533948, 3988292384, 4027552580, 3604390888, 3412177804, 2607071920, 2262029012, 2685067896, 3183342108] :=
    Lib.tabIs_of_head (rest := []) gMoved gMovedType Tryz.underlying195 Tryz.underlying121 cellsU32 cellsMoved h
  intro j hj
  have hc := ht.cell gMoved j hj
  rw [hc]
  have : ∀ i, i < 16 → ([0, 498536548, 997073096, 651767980, 1994146192, 1802195444, 1303535960, 1342533948, 3988292384, 4027552580, 3604390888, 3412177804, 2607071920, 2262029012, 2685067896, 3183342108] : List Int).getD i 0 = (tabN i : Nat) := by decide +kernel
  rw [this j hj]
end Go.Proofs.YtphljjgjpkdpmaaGreatDoor
