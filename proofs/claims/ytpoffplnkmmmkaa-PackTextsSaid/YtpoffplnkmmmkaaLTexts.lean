/- The law PackTexts: its walk. -/
import Derived.Test.YtpoffplnkmmmkaaPkL
import Derived.Test.YtpoffplnkmmmkaaRfC
import Derived.Test.YtpoffplnkmmmkaaLLong
namespace Go.Proofs.Ytpoffplnkmmmkaa
open Go.RowKit
set_option linter.unusedVariables false
theorem Try.info9 : (Try.prog.info? 9).map (fun i => (i.zero, i.size, i.bytes)) = some (some (.string ⟨#[]⟩), 1, 16) := by kernel_rfl
set_option maxRecDepth 100000 in
set_option maxHeartbeats 1000000 in
theorem law_PackTexts (v : Value) (l : List ByteArray) {w : World} (hr : RowAt w v (l.map Value.string)) (hw : ∀ s ∈ l, s.size ≤ maxLen) (hm : l.length ≤ maxLen) (_ : World) :
    Calls Try.prog 4 #[v] w fun e w' => e = .returned (.bool true) ∧ Below w.heap.size w w' := by
  obtain ⟨i0, hi, hz0, hz1, hz2⟩ := info_parts Try.info9
  obtain ⟨av, cv, rfl⟩ := hr.len
  rw [List.length_map] at hr ⊢
  cases hl : longG l 0 with
  | true =>
    go_enter Try.func4, Try.ntmps4
    go_wp2_with fail
    refine (awake_any _).mono ?_
    rintro e w1 ⟨rfl, g1⟩
    go_wp2_with fail
    refine (long_any _ l hw _ (hr.kept g1) hm).mono ?_
    rintro e w2 ⟨rfl, rfl⟩
    rw [hl]
    go_wp2_with fail
    refine (awake_any _).mono ?_
    rintro e w3 ⟨rfl, g3⟩
    have G3 := grow_none g1 g3
    clear g1 g3
    go_wp2
    go_ret
    exact ⟨rfl, below_of_none G3⟩
  | false =>
    obtain ⟨hroom, hll, hsz⟩ := room_of_short hl
    go_enter Try.func4, Try.ntmps4
    go_wp2_with fail
    refine (awake_any _).mono ?_
    rintro e w1 ⟨rfl, g1⟩
    go_wp2_with fail
    refine (long_any _ l hw _ (hr.kept g1) hm).mono ?_
    rintro e w2 ⟨rfl, rfl⟩
    rw [hl]
    have HL := Lib.hid hl
    clear hl
    have r1 := (hr.kept g1).kept (World.grownBy_alloc w1 (.cells #[] 9) none)
    go_wp2_with (at_builtin; refine wpList_append_row _ rfl _ _ 27 rfl 9 i0 (.string ⟨#[]⟩) 16 Try.underlying27 hi hz0 hz1 hz2 rfl _ _ _ rfl (own_empty _ _ _) _ (l.map Value.string) rfl r1 (ones_str l) (by rw [List.length_map]; show _ ≤ 2^63-1; omega) (by rw [List.length_map]; omega) ?_)
    intro v2 w2 o2 g2 m2
    have G2 := grow_newblk (grow_none g1 (World.grownBy_alloc w1 (.cells #[] 9) none)) (newblk_at w w1.heap.size 0 0 g1.size 0) g2
    clear g1 g2 r1
    go_wp2_with fail
    refine (Text_any v2 l _ (RowAt.of_own o2) (by omega)).mono ?_
    rintro e w3 ⟨rfl, g3⟩
    have G3 := grow_none G2 g3
    have r3 := hr.kept G3
    clear g3 G2
    go_wp2_with fail
    refine (refTexts_any _ l _ r3 (by omega)).mono ?_
    rintro e w4 ⟨rfl, g4⟩
    have G4 := grow_none G3 g4
    go_wp2
    go_ret
    exact ⟨rfl, below_of_none G4⟩
end Go.Proofs.Ytpoffplnkmmmkaa
