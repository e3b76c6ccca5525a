/- Stage 3: the document's primes. -/
import Derived.Test.YtgcdfoadegojcaaDoorShM
namespace Go.Proofs.YtgcdfoadegojcaaDoor
open Go.RowKit
set_option linter.unusedVariables false
/-- None of the numbers from 2 on, k of them, whose square is at most p parts p. -/
def fstTo (p k : Nat) : Bool := (List.range k).all fun i => decide (p < (i + 2) * (i + 2)) || p % (i + 2) != 0
theorem fstTo_succ (p k : Nat) : fstTo p (k + 1) = (fstTo p k && (decide (p < (k + 2) * (k + 2)) || p % (k + 2) != 0)) := by
  unfold fstTo; rw [List.range_succ, List.all_append]; simp
theorem fstTo_end (p k : Nat) (h : p < (k + 2) * (k + 2)) : ∀ m, fstTo p (k + m) = fstTo p k
  | 0 => rfl
  | m + 1 => by
    rw [show k + (m + 1) = (k + m) + 1 by omega, fstTo_succ, fstTo_end p k h m]
    have : p < (k + m + 2) * (k + m + 2) := Nat.lt_of_lt_of_le h (Nat.mul_le_mul (by omega) (by omega))
    simp [this]
/-- How many primes there are up to p (p at most 311). -/
def cntP : Nat → Nat
  | 0 => 0
  | p + 1 => cntP p + (if fstTo (p + 1) 16 && decide (2 ≤ p + 1) then 1 else 0)
def primesL : List Nat := [2, 3, 5, 7, 11, 13, 17, 19, 23, 29, 31, 37, 41, 43, 47, 53, 59, 61, 67, 71, 73, 79, 83, 89, 97, 101, 103, 107, 109, 113, 127, 131, 137, 139, 149, 151, 157, 163, 167, 173, 179, 181, 191, 193, 197, 199, 211, 223, 227, 229, 233, 239, 241, 251, 257, 263, 269, 271, 277, 281, 283, 293, 307, 311]
/-- The n-th one. -/
def pr (n : Nat) : Nat := primesL.getD n 0
theorem cntP_mono : ∀ {p q : Nat}, p ≤ q → cntP p ≤ cntP q := by
  intro p q h
  induction q with
  | zero => obtain rfl : p = 0 := by omega
            exact Nat.le_refl _
  | succ q ih =>
    by_cases e : p = q + 1
    · subst e; exact Nat.le_refl _
    · exact Nat.le_trans (ih (by omega)) (by show cntP q ≤ cntP q + _; omega)
theorem cnt311 : cntP 311 = 64 := by decide +kernel
theorem prime_at : ∀ p, p < 311 → fstTo (p + 1) 16 = true → 1 ≤ p → primesL.getD (cntP p) 0 = p + 1 := by decide +kernel
set_option maxRecDepth 100000 in
set_option maxHeartbeats 1000000 in
theorem prime_any (n : Nat) (w : World) (hn : n < 64) :
    Calls Tryd.prog 36 #[.int .i64 n] w fun e w' => e = .returned (.int .u64 ((pr n : Nat) : Int)) ∧ w = w' := by
  go_enter Tryd.func36, Tryd.ntmps36
  go_wp2_with fail
  go_loop [0, 3] (fun a b => ∃ m p : Nat, a = .int .i64 m ∧ b = .int .u64 p ∧ 1 ≤ p ∧ cntP p + m = n) (fun _ b => 400 - (intOf b).toNat)
  case atStart => exact ⟨n, 1, rfl, rfl, Nat.le_refl _, by show 0 + n = n; omega⟩
  case round =>
    obtain ⟨m, p, rfl, rfl, hp, hc⟩ := hrel
    have hp2 : p < 311 := by
      rcases Nat.lt_or_ge p 311 with h | h
      · exact h
      · have h1 := cntP_mono h; have h2 := cnt311; omega
    have hpi : (p : Int) < 311 := by omega
    have hmi : (m : Int) < 64 := by omega
    have HC := Lib.hid hc
    clear hc
    obtain ⟨P, hP⟩ : ∃ P, P = p + 1 := ⟨_, rfl⟩
    have e1 : (p : Int) + 1 = (P : Int) := by omega
    have hP2 : P ≤ 311 := by omega
    have hPi : (P : Int) ≤ 311 := by omega
    have HP := Lib.hid hP
    clear hP
    go_wp2_with fail
    go_loop [4, 5] (fun f b => ∃ d : Nat, 2 ≤ d ∧ d ≤ 18 ∧ f = .bool (fstTo P (d - 2)) ∧ b = .int .u64 d) (fun _ b => 40 - (intOf b).toNat)
    case atStart => exact ⟨2, Nat.le_refl _, by omega, rfl, rfl⟩
    case round =>
      obtain ⟨d, hd2, hd18, rfl, rfl⟩ := hrel
      obtain ⟨D, hD⟩ : ∃ D, D = d * d := ⟨_, rfl⟩
      have hDle : D ≤ 324 := by rw [hD]; exact Nat.mul_le_mul hd18 hd18
      have e2 : (d : Int) * (d : Int) = (D : Int) := by rw [hD]; push_cast; rfl
      have hDi : (D : Int) ≤ 324 := by omega
      have hdi : (d : Int) ≤ 18 := by omega
      have hd0 : (0 : Int) < (d : Int) := by omega
      by_cases hlt : D ≤ P
      · have d1 : decide ((D : Int) ≤ (P : Int)) = true := decide_eq_true (by omega)
        have hd17 : d ≤ 17 := by
          rcases Nat.lt_or_ge d 18 with h | h
          · omega
          · have : 18 * 18 ≤ d * d := Nat.mul_le_mul h h
            omega
        obtain ⟨r, hr⟩ : ∃ r, r = P % d := ⟨_, rfl⟩
        have e3 : (P : Int).tmod (d : Int) = (r : Int) := by rw [Int.tmod_eq_emod_of_nonneg (by omega), hr]; simp
        have e4 : (P : Int) % (d : Int) = (r : Int) := by rw [hr]; simp
        have hs := fstTo_succ P (d - 2)
        rw [show d - 2 + 1 = d + 1 - 2 by omega, show d - 2 + 2 = d by omega, ← hD, ← hr, show decide (P < D) = false from decide_eq_false (by omega), Bool.false_or] at hs
        by_cases h0 : r = 0
        · subst h0
          have HS : Hid (fstTo P (d + 1 - 2) = false) := by show _ = _; rw [hs]; simp
          clear hs hr hD
          go_wp2_with fail
          go_round
          case rel => exact ⟨d + 1, by omega, by omega, by rw [HS.out], by go_num⟩
          case measure => simp [intOf]; omega
        · have e5 : ((r : Int) == 0) = false := by simp; omega
          have HS : Hid (fstTo P (d + 1 - 2) = fstTo P (d - 2)) := by show _ = _; rw [hs]; simp [h0]
          clear hs hr hD
          go_wp2_with fail
          go_round
          case rel => exact ⟨d + 1, by omega, by omega, by rw [HS.out], by go_num⟩
          case measure => simp [intOf]; omega
      · have d1 : decide ((D : Int) ≤ (P : Int)) = false := decide_eq_false (by omega)
        have hfin : fstTo P (d - 2) = fstTo P 16 := by
          have := fstTo_end P (d - 2) (by rw [show d - 2 + 2 = d by omega, ← hD]; omega) (16 - (d - 2))
          rw [show d - 2 + (16 - (d - 2)) = 16 by omega] at this
          exact this.symm
        rw [hfin]
        obtain ⟨f, hf⟩ : ∃ f, f = fstTo P 16 := ⟨_, rfl⟩
        rw [← hf]
        have HF := Lib.hid hf
        clear hfin hf hD
        have hcs : cntP P = cntP p + (if f then 1 else 0) := by
          rw [HP.out, HF.out, HP.out]
          show cntP p + _ = _
          simp [show 1 ≤ p from hp]
        cases f with
        | false =>
          have HN : Hid (cntP P + m = n) := by show _ = _; have := HC.out; simp only [Bool.false_eq_true, if_false] at hcs; omega
          clear hcs
          go_wp2_with fail
          go_round
          case rel => exact ⟨m, P, rfl, rfl, by have := HP.out; omega, HN.out⟩
          case measure => have := HP.out; simp [intOf]; omega
        | true =>
          simp only [if_true] at hcs
          by_cases hm0 : m = 0
          · subst hm0
            have HR : Hid (pr n = P) := by
              show _ = _
              have h1 := prime_at p hp2 (by have := HF.out; rw [HP.out] at this; exact this.symm) hp
              have h2 := HC.out
              rw [show cntP p = n by omega] at h1
              rw [HP.out]; exact h1
            clear hcs
            go_wp2_with fail
            go_ret
            exact ⟨by rw [HR.out]; rfl, rfl⟩
          · have HN : Hid (cntP P + (m - 1) = n) := by show _ = _; have := HC.out; omega
            have hm1 : ((m : Int) == 0) = false := by simp; exact hm0
            clear hcs
            go_wp2_with fail
            go_round
            case rel => exact ⟨m - 1, P, by congr 1; omega, rfl, by have := HP.out; omega, HN.out⟩
            case measure => have := HP.out; simp [intOf]; omega
end Go.Proofs.YtgcdfoadegojcaaDoor
