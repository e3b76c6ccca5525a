/- The law PackNums: its walk. -/
import Derived.Test.YtpoffplnkmmmkaaPkL
import Derived.Test.YtpoffplnkmmmkaaRfB
namespace Go.Proofs.Ytpoffplnkmmmkaa
open Go.RowKit
set_option linter.unusedVariables false
theorem Try.info3 : (Try.prog.info? 3).map (fun i => (i.zero, i.size, i.bytes)) = some (some (.int .i64 0), 1, 8) := by kernel_rfl
set_option maxRecDepth 100000 in
set_option maxHeartbeats 1000000 in
theorem law_PackNums (v : Value) (l : List Int) {w : World} (hr : RowAt w v (l.map (Value.int .i64))) (hw : ∀ n ∈ l, -9223372036854775808 ≤ n ∧ n ≤ 9223372036854775807) (hm : l.length ≤ maxLen) (_ : World) :
    Calls Try.prog 3 #[v] w fun e w' => e = .returned (.bool true) ∧ Below w.heap.size w w' := by
  obtain ⟨i0, hi, hz0, hz1, hz2⟩ := info_parts Try.info3
  obtain ⟨av, cv, rfl⟩ := hr.len
  rw [List.length_map] at hr ⊢
  unfold maxLen at hm
  by_cases hlong : 4096 < l.length
  · have hl' : (4096 : Int) < l.length := by omega
    go_enter Try.func3, Try.ntmps3
    go_wp2_with fail
    refine (awake_any _).mono ?_
    rintro e w1 ⟨rfl, g1⟩
    go_wp2_with fail
    refine (awake_any _).mono ?_
    rintro e w2 ⟨rfl, g2⟩
    have G2 := grow_none g1 g2
    clear g1 g2
    go_wp2
    go_ret
    exact ⟨rfl, below_of_none G2⟩
  · have hl' : (l.length : Int) ≤ 4096 := by omega
    have hl'' : decide ((4096 : Int) < l.length) = false := by simp; omega
    go_enter Try.func3, Try.ntmps3
    go_wp2_with fail
    refine (awake_any _).mono ?_
    rintro e w1 ⟨rfl, g1⟩
    have r1 := (hr.kept g1).kept (World.grownBy_alloc w1 (.cells #[] 3) none)
    go_wp2_with (at_builtin; refine wpList_append_row _ rfl _ _ 22 rfl 3 i0 (.int .i64 0) 8 Try.underlying22 hi hz0 hz1 hz2 rfl _ _ _ rfl (own_empty _ _ _) _ (l.map (Value.int .i64)) rfl r1 (ones_i64 l) (by rw [List.length_map]; show _ ≤ 2^63-1; omega) (by rw [List.length_map]; omega) ?_)
    intro v2 w2 o2 g2 m2
    have G2 := grow_newblk (grow_none g1 (World.grownBy_alloc w1 (.cells #[] 3) none)) (newblk_at w w1.heap.size 0 0 g1.size 0) g2
    clear g1 g2 r1
    go_wp2_with fail
    refine (Nums_any v2 l _ (RowAt.of_own o2) hw (by omega)).mono ?_
    rintro e w3 ⟨rfl, g3⟩
    have G3 := grow_none G2 g3
    have r3 := hr.kept G3
    clear g3 G2
    go_wp2_with fail
    refine (refNums_any _ l _ r3 hw (by omega)).mono ?_
    rintro e w4 ⟨rfl, g4⟩
    have G4 := grow_none G3 g4
    go_wp2
    go_ret
    exact ⟨rfl, below_of_none G4⟩
end Go.Proofs.Ytpoffplnkmmmkaa
