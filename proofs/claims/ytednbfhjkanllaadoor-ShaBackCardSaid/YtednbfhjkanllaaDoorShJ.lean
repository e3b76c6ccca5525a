/- Stage 3: Hash. -/
import Derived.Test.YtednbfhjkanllaaDoorShI
namespace Go.Proofs.YtednbfhjkanllaaDoor
open Go.RowKit
set_option linter.unusedVariables false
theorem byte_of16 (n : Nat) (h : n < 256) : ((UInt8.ofNat n).toNat : Int) = (n : Int) := by
  rw [UInt8.toNat_ofNat']; omega
theorem hash_odd {s : ByteArray} (h : s.size % 2 ≠ 0) : hashV s = .tuple #[.string ⟨#[]⟩, .bool false] := by
  unfold hashV hashS; rw [if_neg h]
theorem hash_stop {s : ByteArray} (k : Nat) (hk : k < s.size / 2) (h : pairAt s k = none) : hashV s = .tuple #[.string ⟨#[]⟩, .bool false] := by
  unfold hashV hashS
  split
  · rename_i l hl
    split at hl
    · rw [preH_stop s k _ hk h] at hl; cases hl
    · cases hl
  · rfl
theorem hash_all {s : ByteArray} {l : List UInt8} (h : s.size % 2 = 0) (hl : preH s (s.size / 2) = some l) : hashV s = .tuple #[.string ⟨l.toArray⟩, .bool true] := by
  unfold hashV hashS; rw [if_pos h, hl]
set_option maxRecDepth 100000 in
set_option maxHeartbeats 2000000 in
theorem Hash_any (s : ByteArray) (w : World) (hs : s.size ≤ 1000000) :
    Calls Tryd.prog 11 #[.string s] w fun e w' => e = .returned (hashV s) ∧ w.grownBy w' none := by
  obtain ⟨i0, hi, hz0, hz1, hz2⟩ := info_parts Tryd.info03_uint8
  have hsi : (s.size : Int) ≤ 1000000 := by omega
  by_cases hodd : s.size % 2 ≠ 0
  · have h1 : ((s.size : Int) % 2 != 0) = true := by rw [bne_iff_ne]; omega
    have HV := Lib.hid (hash_odd hodd)
    clear hodd
    go_enter Tryd.func11, Tryd.ntmps11
    go_wp2
    go_ret2
    exact ⟨by rw [HV.out]; rfl, grow_refl _ _⟩
  · have heven : s.size % 2 = 0 := by omega
    have h1 : ((s.size : Int) % 2 != 0) = false := by rw [bne_eq_false_iff_eq]; omega
    obtain ⟨T, hT⟩ : ∃ T, T = s.size / 2 := ⟨_, rfl⟩
    have h2 : (s.size : Int) / 2 = (T : Int) := by omega
    have hT2 : T ≤ 1000000 := by omega
    have hTs : 2 * T = s.size := by omega
    have HTS := Lib.hid hTs
    have HT := Lib.hid hT
    have HEV := Lib.hid heven
    clear hodd heven hTs hT
    go_enter Tryd.func11, Tryd.ntmps11
    go_wp2_with (at_make; refine wpList_make_own _ rfl _ _ 44 rfl 0 5 i0 (.int .u8 0) 1 Tryd.underlying44 hi hz0 hz1 _ _ _ T rfl rfl rfl (by rw [hz2]; omega) (by show _ ≤ 2^63-1; omega) (Nat.zero_le _) ?_)
    intro w1 ho1 hg1
    go_wp2
    go_loopw [4, 5] (fun v i wr => ∃ (k A : Nat) (l : List UInt8), A = 2 * k ∧ k ≤ T ∧ i = .int .i64 A ∧ preH s k = some l ∧ wr.ownsRow 0 5 1 v k (l.map c8) ∧ w.grownBy wr none ∧ NewBlk w v) (fun _ i _ => s.size - (intOf i).toNat)
    case atStart => exact ⟨0, 0, [], rfl, Nat.zero_le _, rfl, rfl, ho1, hg1, newblk_at _ _ _ _ (Nat.le_refl _) _⟩
    case round =>
      obtain ⟨k, A, l, hA, hk, rfl, hp, ho, hg, hn⟩ := hrel
      have hll := preH_len s k l hp
      have HP := Lib.hid hp
      clear ho1 hg1 hp
      have hts := HTS.out
      by_cases hlt : k < T
      · have hAi : (A : Int) < s.size := by omega
        have hA1 : (A : Int) + 1 < s.size := by omega
        have hA2 : (0 : Int) ≤ (A : Int) + 1 := by omega
        have hA3 : ((A : Int) + 1).toNat = A + 1 := by omega
        have hx1 : A < s.size := by omega
        have hx2 : A + 1 < s.size := by omega
        obtain ⟨a, ha⟩ : ∃ a, a = s[A] := ⟨_, rfl⟩
        obtain ⟨b, hb⟩ : ∃ b, b = s[A + 1] := ⟨_, rfl⟩
        have ga : s.data.toList.getD (2 * k) 0 = a := by rw [← hA, ha]; exact byte_get s A hx1
        have gb : s.data.toList.getD (2 * k + 1) 0 = b := by rw [← hA, hb]; exact byte_get s (A + 1) hx2
        have hia : ∀ W, (Instr.index 9 (.string s) (.int .i64 (A : Int))).run Tryd.prog W = .ok (.int .u8 (a.toNat : Int)) W := fun W => by
          rw [run_index_string (P := Tryd.prog) W 9 s .i64 A Tryd.underlying9]
          simp [hx1, ha]
        have hib : ∀ W, (Instr.index 9 (.string s) (.int .i64 ((A : Int) + 1))).run Tryd.prog W = .ok (.int .u8 (b.toNat : Int)) W := fun W => by
          rw [run_index_string (P := Tryd.prog) W 9 s .i64 _ Tryd.underlying9, dif_pos ⟨by omega, by omega⟩, hb]
          simp only [hA3]
        have HPA : Hid (pairAt s k = pairOf a b) := by
          show _ = _
          unfold pairAt
          rw [ga, gb]
        have hva : hvI a = match hv a with | some n => (n : Int) | none => -1 := rfl
        have hvb : hvI b = match hv b with | some n => (n : Int) | none => -1 := rfl
        have hAA := Lib.hid hA
        clear ha hb ga gb hx1 hx2 hA
        rcases hea : hv a with _ | x
        · rw [hea] at hva
          have HPN : Hid (hashV s = .tuple #[.string ⟨#[]⟩, .bool false]) := hash_stop k (by rw [← HT.out]; exact hlt) (by rw [HPA.out, pairOf_1 hea])
          have HA1 : Hid (hvI a = -1) := hva
          clear hva hvb hea hts
          go_wp2_with fail
          refine (Tryd.strings_IndexByte _ _ _).mono ?_
          rintro e w' ⟨rfl, rfl⟩
          rw [idx_byte, HA1.out]
          go_wp2_with fail
          refine (Tryd.strings_IndexByte _ _ _).mono ?_
          rintro e w' ⟨rfl, rfl⟩
          rw [idx_byte]
          obtain ⟨z, hz⟩ : ∃ z, z = hvI b := ⟨_, rfl⟩
          rw [← hz]
          clear hz
          go_wp2
          go_ret2
          exact ⟨by rw [HPN.out]; rfl, hg⟩
        · rw [hea] at hva
          have hx := hv_lt hea
          rcases heb : hv b with _ | y
          · rw [heb] at hvb
            have HPN : Hid (hashV s = .tuple #[.string ⟨#[]⟩, .bool false]) := hash_stop k (by rw [← HT.out]; exact hlt) (by rw [HPA.out, pairOf_2 heb])
            have HA1 : Hid (hvI a = (x : Int)) := hva
            have HB1 : Hid (hvI b = -1) := hvb
            have hd : decide ((x : Int) < 0) = false := decide_eq_false (by omega)
            clear hva hvb hea heb hts
            go_wp2_with fail
            refine (Tryd.strings_IndexByte _ _ _).mono ?_
            rintro e w' ⟨rfl, rfl⟩
            rw [idx_byte, HA1.out]
            go_wp2_with fail
            refine (Tryd.strings_IndexByte _ _ _).mono ?_
            rintro e w' ⟨rfl, rfl⟩
            rw [idx_byte, HB1.out]
            go_wp2
            go_ret2
            exact ⟨by rw [HPN.out]; rfl, hg⟩
          · rw [heb] at hvb
            have hy := hv_lt heb
            have HNX : Hid (preH s (k + 1) = some (l ++ [UInt8.ofNat (16 * x + y)])) := by show _ = _; rw [preH, HP.out, HPA.out, pairOf_3 hea heb]
            have HA1 : Hid (hvI a = (x : Int)) := hva
            have HB1 : Hid (hvI b = (y : Int)) := hvb
            have hd : decide ((x : Int) < 0) = false := decide_eq_false (by omega)
            have hd2 : decide ((y : Int) < 0) = false := decide_eq_false (by omega)
            have hor := or_hex' hx hy
            obtain ⟨Z, hZ⟩ : ∃ Z, Z = 16 * x + y := ⟨_, rfl⟩
            rw [← hZ] at hor HNX
            have hZ2 : Z < 256 := by omega
            have hzi : (Z : Int) < 256 := by omega
            have hwz : IntKind.u8.wrap (Z : Int) = (Z : Int) := by rw [IntKind.wrap_u8]; omega
            have hxb : (x : Int) < 16 := by omega
            have HC8 : Hid (c8 (UInt8.ofNat Z) = .int .u8 (Z : Int)) := by show _ = _; unfold c8; rw [byte_of16 Z hZ2]
            have hkb : k ≤ 1000000 := by omega
            clear hva hvb hea heb hts hZ
            go_wp2_with fail
            refine (Tryd.strings_IndexByte _ _ _).mono ?_
            rintro e w' ⟨rfl, rfl⟩
            rw [idx_byte, HA1.out]
            go_wp2_with fail
            refine (Tryd.strings_IndexByte _ _ _).mono ?_
            rintro e w' ⟨rfl, rfl⟩
            rw [idx_byte, HB1.out]
            have gA := World.grownBy_alloc w' (.cells #[.int .u8 (Z : Int)] 5) none
            have oA := own_keep ho gA
            have rA := RowAt.lit w' [Value.int .u8 (Z : Int)] 5 1 1 rfl
            have GA := grow_none hg gA
            go_wp2_with (at_builtin; refine wpList_append_row _ rfl _ _ 44 rfl 5 i0 (.int .u8 0) 1 Tryd.underlying44 hi hz0 hz1 hz2 rfl _ _ _ rfl oA _ [Value.int .u8 (Z : Int)] rfl rA (one_u8 _) (by show k + 1 ≤ 2^63-1; omega) (by show (k + 1) * 1 ≤ _; omega) ?_)
            intro v4 w4 o4 g4 m4
            have X4 := grow_newblk GA hn g4
            have N4 := hn.moved GA.size m4
            have o5 : w4.ownsRow 0 5 1 v4 (k + 1) ((l ++ [UInt8.ofNat Z]).map c8) := by
              rw [List.map_append, List.map_singleton, HC8.out]; exact o4
            clear o4 oA rA ho g4 m4 hor hwz
            go_wp2
            go_roundw
            case rel => exact ⟨k + 1, A + 2, _, by have := hAA.out; omega, by omega, by go_num, HNX.out, o5, X4, N4⟩
            case measure => simp [intOf]; omega
      · have hki : (s.size : Int) ≤ A := by omega
        have hconv := run_str_buf (P := Tryd.prog) wr Tryd.underlying44 Tryd.underlying5 Tryd.underlying9 ho
        have HALL : Hid (hashV s = .tuple #[.string ⟨l.toArray⟩, .bool true]) := hash_all HEV.out (by rw [← HT.out, ← show k = T by omega]; exact HP.out)
        clear ho hts hA
        go_wp2
        go_ret2
        exact ⟨by rw [HALL.out]; rfl, hg⟩
end Go.Proofs.YtednbfhjkanllaaDoor
