/- The law CrcSums: its walk. -/
import Derived.Test.YtpoffplnkmmmkaaDoorCrD
import Derived.Test.YtpoffplnkmmmkaaDoorCrT
namespace Go.Proofs.YtpoffplnkmmmkaaDoor
open Go.RowKit
set_option linter.unusedVariables false
theorem Tryd.info9 : (Tryd.prog.info? 9).map (fun i => (i.zero, i.size, i.bytes)) = some (some (.string ⟨#[]⟩), 1, 16) := by kernel_rfl
theorem bv_of {n : Int} (h : 0 ≤ n ∧ n ≤ 4294967295) : ∃ x : BitVec 32, n = (x.toNat : Int) :=
  ⟨BitVec.ofNat 32 n.toNat, by rw [BitVec.toNat_ofNat]; omega⟩
theorem str_len (l : List UInt8) (h : l.length ≤ 20000) : (⟨l.toArray⟩ : ByteArray).size ≤ maxLen := by
  show l.toArray.size ≤ 2 ^ 63 - 1
  rw [List.size_toArray]; omega
theorem str_data (l : List UInt8) : (⟨l.toArray⟩ : ByteArray).data.toList = l := rfl
set_option maxRecDepth 100000 in
set_option maxHeartbeats 1000000 in
theorem law_CrcSums (n : Int) (hn : 0 ≤ n ∧ n ≤ 4294967295) (v : Value) (l : List ByteArray) {w : World} (hr : RowAt w v (l.map Value.string)) (hs : ∀ s ∈ l, s.size ≤ maxLen) (hl : l.length ≤ maxLen) (hm : Mv w) :
    Calls Tryd.prog 3 #[.int .u32 n, v] w fun e w' => e = .returned (.bool true) ∧ Below w.heap.size w w' := by
  obtain ⟨x, rfl⟩ := bv_of hn
  obtain ⟨i0, hi, hz0, hz1, hz2⟩ := info_parts Tryd.info9
  obtain ⟨av, cv, rfl⟩ := hr.len
  rw [List.length_map] at hr ⊢
  have bx := u32_lt x
  have HL := Lib.hid hl
  have HS := Lib.hid hs
  have hj := joined_any _ l w hr hs hl
  have HJ := Lib.hid hj
  clear hl hs hj hn
  go_enter Tryd.func3, Tryd.ntmps3
  go_wp2_with fail
  refine HJ.out.mono ?_
  rintro e w1 ⟨t, ok, rfl, rfl, hok⟩
  have HOK := Lib.hid hok
  clear hok
  go_wp2_with fail
  refine (awake_any _ hm).mono ?_
  rintro e w2 ⟨rfl, g2⟩
  have m2 := hm.kept g2
  cases ok with
  | false =>
    go_wp2_with fail
    refine (awake_any _ m2).mono ?_
    rintro e w3 ⟨rfl, g3⟩
    have G3 := grow_none g2 g3
    clear g2 g3
    go_wp2
    go_ret
    exact ⟨rfl, below_of_none G3⟩
  | true =>
    obtain ⟨rfl, hl3, hb⟩ := HOK.out rfl
    have r2 := (hr.kept g2).kept (World.grownBy_alloc w2 (.cells #[] 9) none)
    go_wp2_with (at_builtin; refine wpList_append_row _ rfl _ _ 23 rfl 9 i0 (.string ⟨#[]⟩) 16 Tryd.underlying23 hi hz0 hz1 hz2 rfl _ _ _ rfl (own_empty _ _ _) _ (l.map Value.string) rfl r2 (ones_str l) (by rw [List.length_map]; show _ ≤ 2^63-1; omega) (by rw [List.length_map]; omega) ?_)
    intro v3 w3 o3 g3 mv3
    have X3 := grow_newblk (World.grownBy_alloc w2 (.cells #[] 9) none) (newblk_at w2 w2.heap.size 0 0 (Nat.le_refl _) 0) g3
    have m3 := m2.kept X3
    have G3 := grow_none g2 X3
    have r3 := RowAt.of_own o3
    clear g2 g3 X3 r2 m2 mv3 o3
    go_wp2_with fail
    refine (Sum_any v3 l _ m3 (by simpa using r3) HS.out HL.out).mono ?_
    rintro e w4 ⟨rfl, rfl⟩
    go_wp2_with fail
    refine (refSum_any _ _ (str_len _ hb)).mono ?_
    rintro e w4 ⟨rfl, rfl⟩
    rw [str_data]
    go_wp2_with fail
    refine (More_any x v3 l _ m3 (by simpa using r3) HS.out HL.out).mono ?_
    rintro e w4 ⟨rfl, rfl⟩
    go_wp2_with fail
    refine (refMore_any x _ _ (str_len _ hb)).mono ?_
    rintro e w4 ⟨rfl, rfl⟩
    rw [str_data]
    go_wp2
    go_ret
    exact ⟨rfl, below_of_none G3⟩
end Go.Proofs.YtpoffplnkmmmkaaDoor
