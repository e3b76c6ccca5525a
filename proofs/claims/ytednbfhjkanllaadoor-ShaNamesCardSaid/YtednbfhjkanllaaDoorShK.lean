/- Stage 3: the document's Hash. -/
import Derived.Test.YtednbfhjkanllaaDoorShJ
namespace Go.Proofs.YtednbfhjkanllaaDoor
open Go.RowKit
set_option linter.unusedVariables false
/-- Behind j digits of a pair. -/
def DigSt (a b : UInt8) (j n : Nat) : Prop := (j = 0 ∧ n = 0) ∨ (j = 1 ∧ hv a = some n) ∨ (j = 2 ∧ ∃ x y, hv a = some x ∧ hv b = some y ∧ n = 16 * x + y)
theorem DigSt.next {a b : UInt8} {j n v : Nat} (h : DigSt a b j n) (hj : j < 2) (hc : hv (if j = 0 then a else b) = some v) : DigSt a b (j + 1) (n * 16 + v) := by
  rcases h with ⟨rfl, rfl⟩ | ⟨rfl, h⟩ | ⟨rfl, _⟩
  · exact .inr (.inl ⟨rfl, by rw [if_pos rfl] at hc; rw [hc]; congr 1; omega⟩)
  · exact .inr (.inr ⟨rfl, n, v, h, by rw [if_neg (by omega)] at hc; exact hc, by omega⟩)
  · omega
theorem DigSt.lt {a b : UInt8} {j n : Nat} (h : DigSt a b j n) : n < 256 := by
  rcases h with ⟨rfl, rfl⟩ | ⟨rfl, h⟩ | ⟨rfl, x, y, h, k, rfl⟩
  · omega
  · have := hv_lt h; omega
  · have := hv_lt h; have := hv_lt k; omega
theorem DigSt.none {a b : UInt8} {j : Nat} (hj : j < 2) (hc : hv (if j = 0 then a else b) = none) : pairOf a b = none := by
  by_cases h : j = 0
  · rw [if_pos h] at hc; exact pairOf_1 hc
  · rw [if_neg h] at hc; exact pairOf_2 hc
set_option maxRecDepth 100000 in
set_option maxHeartbeats 4000000 in
theorem refHash_any (s : ByteArray) (w : World) (hs : s.size ≤ 1000000) :
    Calls Tryd.prog 12 #[.string s] w fun e w' => e = .returned (hashV s) ∧ w.grownBy w' none := by
  obtain ⟨i0, hi, hz0, hz1, hz2⟩ := info_parts Tryd.info03_uint8
  have hsi : (s.size : Int) ≤ 1000000 := by omega
  go_enter Tryd.func12, Tryd.ntmps12
  go_wp2
  go_loopw [4, 5] (fun v i wr => ∃ (k A : Nat) (l : List UInt8), A = 2 * k ∧ A ≤ s.size ∧ i = .int .i64 A ∧ preH s k = some l ∧ wr.ownsRow 0 5 1 v k (l.map c8) ∧ w.grownBy wr none ∧ NewBlk w v) (fun _ i _ => s.size - (intOf i).toNat)
  case atStart => exact ⟨0, 0, [], rfl, Nat.zero_le _, rfl, rfl, own_empty w 5 1, World.grownBy_alloc _ _ _, newblk_at _ _ _ _ (Nat.le_refl _) _⟩
  case round =>
    obtain ⟨k, A, l, hA, hAs, rfl, hp, ho, hg, hn⟩ := hrel
    have hll := preH_len s k l hp
    have HP := Lib.hid hp
    clear hp
    by_cases hlt : A + 1 < s.size
    · have hA1 : (A : Int) + 1 < s.size := by omega
      have hAb : (A : Int) ≤ 1000000 := by omega
      have hx1 : A < s.size := by omega
      obtain ⟨a, ha⟩ : ∃ a, a = s[A] := ⟨_, rfl⟩
      obtain ⟨b, hb⟩ : ∃ b, b = s[A + 1] := ⟨_, rfl⟩
      have ga : s.data.toList.getD (2 * k) 0 = a := by rw [← hA, ha]; exact byte_get s A hx1
      have gb : s.data.toList.getD (2 * k + 1) 0 = b := by rw [← hA, hb]; exact byte_get s (A + 1) hlt
      have HPA : Hid (pairAt s k = pairOf a b) := by
        show _ = _
        unfold pairAt
        rw [ga, gb]
      have hab : ∀ j (hj : A + j < s.size), j < 2 → s[A + j] = if j = 0 then a else b := by
        intro j hj hj2
        rcases (show j = 0 ∨ j = 1 by omega) with rfl | rfl
        · rw [if_pos rfl, ha]; rfl
        · rw [if_neg (by omega), hb]
      have HAB := Lib.hid hab
      have HAA := Lib.hid hA
      have hk2 : k < s.size / 2 := by omega
      have HK2 := Lib.hid hk2
      clear ha hb ga gb hab hA hk2
      obtain ⟨wo, rfl⟩ : ∃ wo : World, wo = wr := ⟨_, rfl⟩
      go_wp2
      go_loop [6, 7] (fun n q => ∃ j N : Nat, j ≤ 2 ∧ q = .int .i64 ((A : Int) + j) ∧ n = .int .i64 N ∧ DigSt a b j N) (fun _ q => A + 2 - (intOf q).toNat)
      case atStart => exact ⟨0, 0, by omega, by simp, rfl, .inl ⟨rfl, rfl⟩⟩
      case round =>
        obtain ⟨j, N, hj, rfl, rfl, hst⟩ := hrel
        have hN := hst.lt
        have hNi : (N : Int) < 256 := by omega
        have HST := Lib.hid hst
        clear hst
        by_cases hj2 : j < 2
        · have hq1 : (A : Int) + j < (A : Int) + 2 := by omega
          have hq2 : A + j < s.size := by omega
          obtain ⟨c, hc⟩ : ∃ c, c = s[A + j] := ⟨_, rfl⟩
          have HC := Lib.hid (HAB.out j hq2 hj2)
          rw [← hc] at HC
          have hic : ∀ W, (Instr.index 9 (.string s) (.int .i64 ((A : Int) + j))).run Tryd.prog W = .ok (.int .u8 (c.toNat : Int)) W := fun W => by
            rw [run_index_string (P := Tryd.prog) W 9 s .i64 _ Tryd.underlying9, dif_pos ⟨by omega, by omega⟩, hc]
            simp only [show ((A : Int) + (j : Int)).toNat = A + j by omega]
          have hcl := c.toNat_lt
          have hcb : (c.toNat : Int) ≤ 255 := by omega
          have hji : (j : Int) < 2 := by omega
          clear hc hq2
          by_cases h1 : 48 ≤ c.toNat ∧ c.toNat ≤ 57
          · obtain ⟨h11, h12⟩ := h1
            have hv1 : hv c = some (c.toNat - 48) := by unfold hv; rw [if_pos ⟨h11, h12⟩]
            have HNX := Lib.hid (HST.out.next hj2 (by rw [← HC.out]; exact hv1))
            have k1 : (48 : Int) ≤ c.toNat := by omega
            have k2 : (c.toNat : Int) ≤ 57 := by omega
            clear hv1
            go_wp2
            go_round
            case rel => exact ⟨j + 1, _, by omega, by push_cast; rw [Int.add_assoc], by show Value.int .i64 _ = Value.int .i64 _; congr 1; omega, HNX.out⟩
            case measure => simp [intOf]; omega
          · by_cases h2 : 97 ≤ c.toNat ∧ c.toNat ≤ 102
            · obtain ⟨h11, h12⟩ := h2
              have hv1 : hv c = some (c.toNat - 87) := by unfold hv; rw [if_neg h1, if_pos ⟨h11, h12⟩]
              have HNX := Lib.hid (HST.out.next hj2 (by rw [← HC.out]; exact hv1))
              have k1 : (97 : Int) ≤ c.toNat := by omega
              have k2 : (c.toNat : Int) ≤ 102 := by omega
              have k3 : (48 : Int) ≤ c.toNat := by omega
              have k4 : ¬ ((c.toNat : Int) ≤ 57) := by omega
              have k5 : decide ((c.toNat : Int) ≤ 57) = false := decide_eq_false k4
              clear hv1 h1 k4
              go_wp2
              go_round
              case rel => exact ⟨j + 1, _, by omega, by push_cast; rw [Int.add_assoc], by show Value.int .i64 _ = Value.int .i64 _; congr 1; omega, HNX.out⟩
              case measure => simp [intOf]; omega
            · have hv1 : hv c = none := by unfold hv; rw [if_neg h1, if_neg h2]
              have HPN : Hid (hashV s = .tuple #[.string ⟨#[]⟩, .bool false]) := hash_stop k HK2.out (by rw [HPA.out]; exact DigSt.none hj2 (by rw [← HC.out]; exact hv1))
              have hd1 : (decide ((48 : Int) ≤ c.toNat) = false ∧ decide ((97 : Int) ≤ c.toNat) = false) ∨ (decide ((48 : Int) ≤ c.toNat) = true ∧ decide ((c.toNat : Int) ≤ 57) = false ∧ decide ((97 : Int) ≤ c.toNat) = false) ∨ (decide ((48 : Int) ≤ c.toNat) = true ∧ decide ((c.toNat : Int) ≤ 57) = false ∧ decide ((97 : Int) ≤ c.toNat) = true ∧ decide ((c.toNat : Int) ≤ 102) = false) := by
                simp only [decide_eq_true_eq, decide_eq_false_iff_not]
                omega
              clear hv1 h1 h2 hcl
              rcases hd1 with ⟨d1, d2⟩ | ⟨d1, d2, d3⟩ | ⟨d1, d2, d3, d4⟩
              all_goals
                go_wp2
                go_ret2
                exact ⟨by rw [HPN.out]; rfl, hg⟩
        · have hq1 : (A : Int) + 2 ≤ (A : Int) + j := by omega
          have hfin : ∃ x y, hv a = some x ∧ hv b = some y ∧ N = 16 * x + y := by
            rcases HST.out with ⟨h, _⟩ | ⟨h, _⟩ | ⟨_, h⟩
            · omega
            · omega
            · exact h
          obtain ⟨x, y, hea, heb, hNe⟩ := hfin
          have HNX : Hid (preH s (k + 1) = some (l ++ [UInt8.ofNat N])) := by show _ = _; rw [preH, HP.out, HPA.out, pairOf_3 hea heb, hNe]
          have hwz : IntKind.u8.wrap (N : Int) = (N : Int) := by rw [IntKind.wrap_u8]; omega
          have HC8 : Hid (c8 (UInt8.ofNat N) = .int .u8 (N : Int)) := by show _ = _; unfold c8; rw [byte_of16 N hN]
          have hkb : k ≤ 1000000 := by have := HK2.out; omega
          have gA := World.grownBy_alloc wo (.cells #[.int .u8 (N : Int)] 5) none
          have oA := own_keep ho gA
          have rA := RowAt.lit wo [Value.int .u8 (N : Int)] 5 1 1 rfl
          have GA := grow_none hg gA
          clear hea heb hNe
          go_wp2_with (at_builtin; refine wpList_append_row _ rfl _ _ 44 rfl 5 i0 (.int .u8 0) 1 Tryd.underlying44 hi hz0 hz1 hz2 rfl _ _ _ rfl oA _ [Value.int .u8 (N : Int)] rfl rA (one_u8 _) (by show k + 1 ≤ 2^63-1; omega) (by show (k + 1) * 1 ≤ _; omega) ?_)
          intro v4 w4 o4 g4 m4
          have X4 := grow_newblk GA hn g4
          have N4 := hn.moved GA.size m4
          have o5 : w4.ownsRow 0 5 1 v4 (k + 1) ((l ++ [UInt8.ofNat N]).map c8) := by
            rw [List.map_append, List.map_singleton, HC8.out]; exact o4
          clear o4 oA rA ho g4 m4 hwz
          go_wp2
          go_roundw
          case rel => exact ⟨k + 1, A + 2, _, by have := HAA.out; omega, by omega, by go_num, HNX.out, o5, X4, N4⟩
          case measure => simp [intOf]; omega
    · have hki : (s.size : Int) ≤ (A : Int) + 1 := by omega
      have hAb : (A : Int) ≤ 1000000 := by omega
      by_cases hodd : s.size % 2 ≠ 0
      · have h1 : ((s.size : Int) % 2 != 0) = true := by rw [bne_iff_ne]; omega
        have HV := Lib.hid (hash_odd hodd)
        clear hodd hA
        go_wp2
        go_ret2
        exact ⟨by rw [HV.out]; rfl, hg⟩
      · have h1 : ((s.size : Int) % 2 != 0) = false := by rw [bne_eq_false_iff_eq]; omega
        have hconv := run_str_buf (P := Tryd.prog) wr Tryd.underlying44 Tryd.underlying5 Tryd.underlying9 ho
        have HALL : Hid (hashV s = .tuple #[.string ⟨l.toArray⟩, .bool true]) := hash_all (by omega) (by rw [← show k = s.size / 2 by omega]; exact HP.out)
        clear ho hodd hA
        go_wp2
        go_ret2
        exact ⟨by rw [HALL.out]; rfl, hg⟩
end Go.Proofs.YtednbfhjkanllaaDoor
