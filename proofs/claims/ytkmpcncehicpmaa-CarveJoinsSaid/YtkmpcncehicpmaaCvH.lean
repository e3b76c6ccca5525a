/- The laws CarveBack and CarveJoins: their walks. -/
import Derived.Test.YtkmpcncehicpmaaCvG
import Derived.Test.YtkmpcncehicpmaaCvM
namespace Go.Proofs.Ytkmpcncehicpmaa
open Go.RowKit
set_option linter.unusedVariables false
theorem str_eq_self (b : ByteArray) : (b.toList == b.toList) = true := by simp
set_option maxRecDepth 100000 in
set_option maxHeartbeats 1000000 in
theorem law_CarveBack (s : ByteArray) (hs : s.size ≤ maxLen) (w : World) :
    Calls Try.prog 15 #[.string s] w fun e w' => e = .returned (.bool true) ∧ Below w.heap.size w w' := by
  have hsi : (s.size : Int) ≤ 9223372036854775807 := by unfold maxLen at hs; omega
  clear hs
  by_cases h2 : 8192 < s.size
  · have h2' : decide ((8192 : Int) < s.size) = true := decide_eq_true (by omega)
    go_enter Try.func15, Try.ntmps15
    go_wp2_with fail
    refine (awake07_any _).mono ?_
    rintro e w2 ⟨rfl, g2⟩
    go_wp2_with fail
    refine (awake07_any _).mono ?_
    rintro e w3 ⟨rfl, g3⟩
    have G3 := grow_none g2 g3
    clear g2 g3
    go_wp2
    go_ret
    exact ⟨rfl, below_of_none G3⟩
  · have h2' : decide ((8192 : Int) < s.size) = false := decide_eq_false (by omega)
    have hs1 : s.size ≤ 8192 := by omega
    have HL : Hid (s.data.toList.length = s.size) := by show _ = _; rw [Array.length_toList]; rfl
    have HJ : Hid ((⟨(allB (chunks s.data.toList)).toArray⟩ : ByteArray) = s) := by show _ = _; rw [join_cut _ _ (Nat.le_refl _), mk_data]
    have HJL : Hid ((allB (chunks s.data.toList)).length = s.size) := by show _ = _; rw [join_cut _ _ (Nat.le_refl _), HL.out]
    go_enter Try.func15, Try.ntmps15
    go_wp2_with fail
    refine (awake07_any _).mono ?_
    rintro e w2 ⟨rfl, g2⟩
    go_wp2_with fail
    refine (Cut_any s _ (by omega)).mono ?_
    rintro e w3 ⟨v3, rfl, r3, _, g3, hcap⟩
    have G3 := grow_none g2 g3
    have hml : (chunks s.data.toList).length ≤ 1000000 := by rw [chunks_len, HL.out]; unfold cntN; omega
    have hmm : (chunks s.data.toList).length ≤ maxLen := by unfold maxLen; omega
    have hpz : ∀ t ∈ chunks s.data.toList, t.size ≤ maxLen := by
      intro t ht
      unfold chunks at ht
      obtain ⟨j, _, rfl⟩ := List.mem_map.1 ht
      unfold chS maxLen
      show (List.take 64 (List.drop (64 * j) s.data.toList)).toArray.size ≤ _
      rw [List.size_toArray]
      have := List.length_take_le 64 (List.drop (64 * j) s.data.toList)
      omega
    clear g2 g3
    go_wp2_with fail
    refine (Fits_any _ _ _ r3 hmm hpz).mono ?_
    rintro e w4 ⟨rfl, rfl⟩
    rw [fits_cut]
    go_wp2_with fail
    refine (Join_any _ _ _ r3 hcap hml (by rw [HJL.out]; omega)).mono ?_
    rintro e w5 ⟨rfl, g5⟩
    rw [HJ.out]
    have G5 := grow_none G3 g5
    have hself := str_eq_self s
    clear G3 g5 r3 hcap hpz
    go_wp2
    go_ret
    exact ⟨rfl, below_of_none G5⟩
set_option maxRecDepth 100000 in
set_option maxHeartbeats 1000000 in
theorem law_CarveJoins (v : Value) (l : List ByteArray) {w : World} (hr : RowAt w v (l.map Value.string)) (hs : ∀ s ∈ l, s.size ≤ maxLen) (hl : l.length ≤ maxLen) (_ : World) :
    Calls Try.prog 14 #[v] w fun e w' => e = .returned (.bool true) ∧ Below w.heap.size w w' := by
  obtain ⟨i0, hi, hz0, hz1, hz2⟩ := info_parts Try.info07_string
  have HSZ := Lib.hid hs
  have HLL := Lib.hid hl
  have hself := str_eq_self ⟨(allB l).toArray⟩
  clear hs hl
  go_enter Try.func14, Try.ntmps14
  go_wp2_with fail
  refine (awake07_any _).mono ?_
  rintro e w2 ⟨rfl, g2⟩
  have r2 := hr.kept g2
  go_wp2_with fail
  refine (many07_any v l _ r2 HLL.out HSZ.out).mono ?_
  rintro e w3 ⟨rfl | ⟨rfl, hbd⟩, rfl⟩
  · go_wp2_with fail
    refine (awake07_any _).mono ?_
    rintro e w3 ⟨rfl, g3⟩
    have G3 := grow_none g2 g3
    clear g2 g3
    go_wp2
    go_ret
    exact ⟨rfl, below_of_none G3⟩
  · have hln : l.length ≤ 8192 := by omega
    have hbn : (allB l).length ≤ 8192 := by omega
    have HB : Hid (l.length + (allB l).length ≤ 8192) := hbd
    have gA := World.grownBy_alloc w2 (.cells #[] 9) none
    have rA := r2.kept gA
    have oA := own_empty w2 9 1
    have GA := grow_none g2 gA
    clear hbd
    go_wp2_with (at_builtin; refine wpList_append_row _ rfl _ _ 38 rfl 9 i0 (.string ⟨#[]⟩) 16 Try.underlying38 hi hz0 hz1 hz2 rfl _ _ _ rfl oA _ (l.map Value.string) rfl rA (ones_str l) (by rw [List.length_map]; show 0 + l.length ≤ 2^63-1; omega) (by rw [List.length_map]; show (0 + l.length) * 16 ≤ _; omega) ?_)
    intro v3 w3 o3 g3 mv3
    have G3 := grow_newblk GA (newblk_at w w2.heap.size 0 0 g2.size 0) g3
    have r3 := RowAt.of_own o3
    have c3 := own_cap o3
    clear gA rA oA GA g2 r2 g3 mv3 o3
    go_wp2_with fail
    refine (Join_any v3 l _ r3 c3 (by omega) (by omega)).mono ?_
    rintro e w4 ⟨rfl, g4⟩
    have G4 := grow_none G3 g4
    have gA := World.grownBy_alloc w4 (.cells #[] 9) none
    have rA := hr.kept (grow_none G4 gA)
    have oA := own_empty w4 9 1
    have GA := grow_none G4 gA
    clear r3 c3 g4 G3
    go_wp2_with (at_builtin; refine wpList_append_row _ rfl _ _ 38 rfl 9 i0 (.string ⟨#[]⟩) 16 Try.underlying38 hi hz0 hz1 hz2 rfl _ _ _ rfl oA _ (l.map Value.string) rfl rA (ones_str l) (by rw [List.length_map]; show 0 + l.length ≤ 2^63-1; omega) (by rw [List.length_map]; show (0 + l.length) * 16 ≤ _; omega) ?_)
    intro v5 w5 o5 g5 mv5
    have G5 := grow_newblk GA (newblk_at w w4.heap.size 0 0 G4.size 0) g5
    have r5 := RowAt.of_own o5
    have c5 := own_cap o5
    clear gA rA oA GA G4 g5 mv5 o5
    go_wp2_with fail
    refine (Fits_any v5 l _ r5 HLL.out HSZ.out).mono ?_
    rintro e w6 ⟨rfl, rfl⟩
    have r6 := hr.kept G5
    clear r5 c5
    go_wp2_with fail
    refine (refJoin_any v l _ r6 (by omega) (by omega)).mono ?_
    rintro e w6 ⟨rfl, g6⟩
    have G6 := grow_none G5 g6
    have r7 := hr.kept G6
    clear G5 g6 r6
    go_wp2_with fail
    refine (refFits_any v l _ r7 HLL.out HSZ.out).mono ?_
    rintro e w7 ⟨rfl, rfl⟩
    go_wp2_with fail
    refine (Cut_any ⟨(allB l).toArray⟩ _ (by show (allB l).toArray.size ≤ _; rw [List.size_toArray]; omega)).mono ?_
    rintro e w8 ⟨v8, rfl, r8, _, g8, _⟩
    have G8 := grow_none G6 g8
    have r9 := hr.kept G8
    have hch : chunks (⟨(allB l).toArray⟩ : ByteArray).data.toList = chunks (allB l) := rfl
    rw [hch] at r8
    clear G6 g8 r7 hch
    go_wp2_with fail
    refine (Same_any _ _ _ _ _ r8 r9 (by rw [chunks_len]; unfold cntN maxLen; omega) HLL.out).mono ?_
    rintro e w10 ⟨rfl, g10⟩
    have G10 := grow_none G8 g10
    rw [← fits_eq]
    clear G8 g10 r8 r9
    go_wp2
    go_ret
    exact ⟨rfl, below_of_none G10⟩
end Go.Proofs.Ytkmpcncehicpmaa
