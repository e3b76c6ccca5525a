/- What the package pack's getNum does. -/
import Derived.Test.YtgcdfoadegojcaaDoorPkE
namespace Go.Proofs.YtgcdfoadegojcaaDoor
open Go.RowKit
set_option linter.unusedVariables false
/-- What holds at the head of getNum's round. -/
def GnRel (s : ByteArray) (z i : Value) : Prop := ∃ (k : Nat) (y : Nat), k ≤ s.size ∧ k ≤ 10 ∧ i = .int .i64 k ∧ z = .int .u64 y ∧ y < 128 ^ k ∧ getN s = getL (s.data.toList.drop k) k y
set_option maxHeartbeats 1000000 in
set_option maxRecDepth 100000 in
theorem getNum_any (s : ByteArray) (w : World) (hs : s.size ≤ 1000000000000000) :
    Calls Tryd.prog 76 #[.string s] w fun e w' => e = .returned (.tuple #[.int .i64 (getN s).1, .int .i64 (getN s).2]) ∧ w = w' := by
  go_enter Tryd.func76, Tryd.ntmps76
  go_wp2
  go_loop [4, 5] (fun z i => GnRel s z i) (fun _ i => 10 - (intOf i).toNat)
  case atStart => exact ⟨0, 0, Nat.zero_le _, Nat.zero_le _, rfl, rfl, by simp, by simp [getN]⟩
  case round =>
    obtain ⟨k, y, hk, hk10, rfl, rfl, hy, hg⟩ := hrel
    have HG := Lib.hid hg
    have HY := Lib.hid hy
    clear hg hy
    by_cases hend : k < s.size ∧ k < 10
    · obtain ⟨h1, h2⟩ := hend
      have hdrop : Hid (s.data.toList.drop k = s[k] :: s.data.toList.drop (k + 1)) := by show _ = _; rw [List.drop_eq_getElem_cons (by simpa [size_toList] using h1)]; rfl
      have hb := s[k].toNat_lt
      have HGL := HG.out
      rw [hdrop.out, getL, if_neg (by omega)] at HGL
      by_cases h9 : k = 9 ∧ 1 < s[k].toNat
      · rw [if_pos h9] at HGL
        have HR := Lib.hid HGL
        clear HGL
        obtain ⟨e9, h1b⟩ := h9
        subst e9
        go_wp2
        go_ret2
        rw [HR.out]
        exact ⟨rfl, rfl⟩
      · rw [if_neg h9] at HGL
        have hst := step_lt h2 HY.out hb h9
        have hor := or_group y (s[k].toNat % 128) k HY.out
        obtain ⟨x, hx⟩ : ∃ x, x = s[k].toNat % 128 := ⟨_, rfl⟩
        rw [← hx] at hst hor HGL
        have hand : bits .and .u8 (s[k].toNat : Int) 127 = (x : Int) := by
          have h := u8_and_nat s[k].toNat 127 (by omega) (by omega)
          rw [nat_mask7, ← hx] at h
          exact h
        have hx128 : x < 128 := by omega
        obtain ⟨M, hM⟩ : ∃ M, M = x * 128 ^ k := ⟨_, rfl⟩
        have hshl : IntKind.u64.wrap ((x : Int) * 2 ^ (7 * k)) = (M : Int) := by
          have e : (2 : Int) ^ (7 * k) = ((128 ^ k : Nat) : Int) := by rw [Int.pow_mul]; simp
          rw [IntKind.wrap_u64, e, ← Int.natCast_mul, ← hM, Int.emod_eq_of_lt (by omega) (by omega)]
        rw [← hM] at hst hor HGL
        have hbor : bits .or .u64 (y : Int) (M : Int) = ((y + M : Nat) : Int) := by rw [u64_or_nat _ _ (by omega) (by omega), hor]
        obtain ⟨N, hN⟩ : ∃ N, N = y + M := ⟨_, rfl⟩
        rw [← hN] at hst HGL hbor
        have HR := Lib.hid HGL
        have HST := Lib.hid hst
        have hxx : ¬ 128 ≤ s[k].toNat → x = s[k].toNat := by intro h; rw [hx]; omega
        clear HGL hst hor hM hN hx
        have HXX := Lib.hid hxx
        clear hxx
        have hsx := shr_xor N HST.out.1
        have HSX := Lib.hid hsx
        clear hsx
        by_cases h128 : 128 ≤ s[k].toNat
        · have h9d : ((k : Int) == 9) = false := by simp; omega
          go_wp2
          refine ⟨⟨k + 1, N, by omega, by omega, by go_num, rfl, HST.out.2.2, ?_⟩, by simp [intOf]; omega⟩
          rw [HR.out, if_pos h128]
        · have h128' : (s[k].toNat : Int) < 128 := by omega
          by_cases h0 : s[k].toNat = 0 ∧ 0 < k
          · obtain ⟨h0, hk0⟩ := h0
            have H0 : Hid (getN s = (0, 0)) := by show _ = _; rw [HR.out, if_neg h128, if_pos ⟨h0, hk0⟩]
            have h0' : ((s[k].toNat : Int) == 0) = true := by simp; omega
            have H1 := Lib.hid h0
            clear h0
            rcases Decidable.em (k = 9) with h9c | h9c
            · have h9d : ((k : Int) == 9) = true := by simp; omega
              have h91 : (s[k].toNat : Int) ≤ 1 := by omega
              clear h9c
              go_wp2
              go_ret2
              rw [H0.out]
              exact ⟨rfl, rfl⟩
            · have h9d : ((k : Int) == 9) = false := by simp; omega
              go_wp2
              go_ret2
              rw [H0.out]
              exact ⟨rfl, rfl⟩
          · obtain ⟨q, hq⟩ : ∃ q, q = N / 2 := ⟨_, rfl⟩
            obtain ⟨r, hr⟩ : ∃ r, r = N % 2 := ⟨_, rfl⟩
            have hN2 : (N : Int) / 2 = (q : Int) := by omega
            have hand1 : bits .and .u64 (N : Int) 1 = (r : Int) := by rw [Lib.u64_and1 _ (by omega) (by have := HST.out.1; omega), hr]; omega
            have hqb : (q : Int) ≤ 9223372036854775807 := by have := HST.out.1; omega
            have hrb : r ≤ 1 := by omega
            obtain ⟨U, hU⟩ : ∃ U, U = unzig N := ⟨_, rfl⟩
            have hxor : bits .xor .i64 (q : Int) (-(r : Int)) = U := by rw [hq, hr, hU]; exact HSX.out
            have H0 : Hid (getN s = (U, k + 1)) := by show _ = _; rw [HR.out, if_neg h128, if_neg h0, hU]
            clear hq hr hU
            have h01 : (((s[k].toNat : Int) == 0) = false) ∨ (((s[k].toNat : Int) == 0) = true ∧ k = 0) := by
              by_cases e : s[k].toNat = 0
              · exact .inr ⟨by simp; omega, by omega⟩
              · exact .inl (by simp; omega)
            rcases h01 with h01 | ⟨h01, hk0⟩
            · rcases Decidable.em (k = 9) with h9c | h9c
              · have h9d : ((k : Int) == 9) = true := by simp; omega
                have h91 : (s[k].toNat : Int) ≤ 1 := by omega
                clear h9c
                go_wp2
                go_ret2
                rw [H0.out]
                exact ⟨rfl, rfl⟩
              · have h9d : ((k : Int) == 9) = false := by simp; omega
                go_wp2
                go_ret2
                rw [H0.out]
                exact ⟨rfl, rfl⟩
            · have h9d : ((k : Int) == 9) = false := by simp; omega
              have hk00 : (k : Int) ≤ 0 := by omega
              clear hk0
              go_wp2
              go_ret2
              rw [H0.out]
              exact ⟨rfl, rfl⟩
    · have H0 : Hid (getN s = (0, 0)) := by
        show _ = _
        rw [HG.out]
        by_cases h1 : k < s.size
        · rw [List.drop_eq_getElem_cons (by simpa [size_toList] using h1), getL, if_pos (by omega)]
        · rw [List.drop_eq_nil_of_le (by rw [size_toList]; omega), getL]
      by_cases h1 : k < s.size
      · have h2 : (10 : Int) ≤ k := by omega
        go_wp2
        go_ret2
        rw [H0.out]
        exact ⟨rfl, rfl⟩
      · have h2 : (s.size : Int) ≤ k := by omega
        go_wp2
        go_ret2
        rw [H0.out]
        exact ⟨rfl, rfl⟩
end Go.Proofs.YtgcdfoadegojcaaDoor
