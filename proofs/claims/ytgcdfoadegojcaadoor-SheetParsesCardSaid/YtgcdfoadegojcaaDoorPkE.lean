/- How a number is read: a plain function. -/
import Derived.Test.YtgcdfoadegojcaaDoorPkD
namespace Go.Proofs.YtgcdfoadegojcaaDoor
open Go.RowKit
set_option linter.unusedVariables false
/-- The number that an unsigned one stands for. -/
def unzig (z : Nat) : Int := if z % 2 = 0 then (z / 2 : Nat) else - ((z / 2 : Nat) : Int) - 1
/-- The number with which bytes begin, of which i groups are read and gave z; and how many bytes it takes: 0, if there is none. -/
def getL : List UInt8 → Nat → Nat → Int × Nat
  | [], _, _ => (0, 0)
  | b :: r, i, z =>
    if 10 ≤ i then (0, 0) else
    if i = 9 ∧ 1 < b.toNat then (0, 0) else
    if 128 ≤ b.toNat then getL r (i + 1) (z + b.toNat % 128 * 128 ^ i) else
    if b.toNat = 0 ∧ 0 < i then (0, 0) else
    (unzig (z + b.toNat % 128 * 128 ^ i), i + 1)
def getN (s : ByteArray) : Int × Nat := getL s.data.toList 0 0
theorem getL_used : ∀ (l : List UInt8) (i z : Nat), (getL l i z).2 ≤ i + l.length ∧ (getL l i z).2 ≤ 10
  | [], i, z => by simp [getL]
  | b :: r, i, z => by
    have ih := getL_used r (i + 1) (z + b.toNat % 128 * 128 ^ i)
    unfold getL
    simp only [List.length_cons]
    split
    · simp
    split
    · simp
    split
    · omega
    split
    · simp
    · exact ⟨by show i + 1 ≤ _; omega, by show i + 1 ≤ _; omega⟩
theorem unzig_bd {z : Nat} (h : z < 18446744073709551616) : -9223372036854775808 ≤ unzig z ∧ unzig z ≤ 9223372036854775807 := by unfold unzig; split <;> omega
theorem pow128 {i : Nat} (h : i ≤ 9) : 128 ^ i ≤ 9223372036854775808 := Nat.le_trans (Nat.pow_le_pow_right (by omega) h) (by decide)
theorem step_lt {i z b : Nat} (hi : i < 10) (hz : z < 128 ^ i) (hb : b < 256) (h9 : ¬ (i = 9 ∧ 1 < b)) : z + b % 128 * 128 ^ i < 18446744073709551616 ∧ b % 128 * 128 ^ i < 18446744073709551616 ∧ z + b % 128 * 128 ^ i < 128 ^ (i + 1) := by
  have hp := pow128 (i := i) (by omega)
  have e : 128 ^ (i + 1) = 128 * 128 ^ i := by rw [Nat.pow_succ, Nat.mul_comm]
  have h3 : b % 128 * 128 ^ i ≤ 127 * 128 ^ i := Nat.mul_le_mul_right _ (by omega)
  by_cases h : i = 9
  · subst h
    have h2 : b % 128 * 128 ^ 9 ≤ 1 * 128 ^ 9 := Nat.mul_le_mul_right _ (by omega)
    have e9 : (128 : Nat) ^ 9 = 9223372036854775808 := by decide
    rw [e9] at *
    omega
  · have h8 : 128 ^ i ≤ 128 ^ 8 := Nat.pow_le_pow_right (by omega) (by omega)
    have e8 : (128 : Nat) ^ 8 = 72057594037927936 := by decide
    rw [e8] at h8
    omega
theorem getL_bd : ∀ (l : List UInt8) (i z : Nat), z < 128 ^ i → -9223372036854775808 ≤ (getL l i z).1 ∧ (getL l i z).1 ≤ 9223372036854775807
  | [], i, z, _ => by simp [getL]
  | b :: r, i, z, hz => by
    unfold getL
    by_cases h1 : 10 ≤ i
    · rw [if_pos h1]; simp
    · rw [if_neg h1]
      by_cases h2 : i = 9 ∧ 1 < b.toNat
      · rw [if_pos h2]; simp
      · rw [if_neg h2]
        have hs := step_lt (by omega) hz b.toNat_lt h2
        by_cases h3 : 128 ≤ b.toNat
        · rw [if_pos h3]; exact getL_bd r _ _ hs.2.2
        · rw [if_neg h3]
          split
          · simp
          · exact unzig_bd hs.1
theorem getN_bd (s : ByteArray) : -9223372036854775808 ≤ (getN s).1 ∧ (getN s).1 ≤ 9223372036854775807 := getL_bd _ 0 0 (by decide)
theorem getN_used (s : ByteArray) : (getN s).2 ≤ s.size := by
  have := (getL_used s.data.toList 0 0).1
  rw [size_toList] at this
  unfold getN; omega
theorem or_group (z x i : Nat) (hz : z < 128 ^ i) : z ||| (x * 128 ^ i) = z + x * 128 ^ i := by
  have e : (128 : Nat) ^ i = 2 ^ (7 * i) := by rw [Nat.pow_mul]
  rw [e] at hz ⊢
  rw [Nat.or_comm, nat_join (7 * i) _ _ (by simp) hz, Nat.add_comm]
theorem xor_same (x : Nat) (hx : x < 9223372036854775808) : bits .xor .i64 (x : Int) 0 = x := by
  show IntKind.i64.wrap ((BitVec.ofInt 64 (x : Int) ^^^ BitVec.ofInt 64 0).toNat : Int) = _
  have h2 : (BitVec.ofInt 64 (x : Int)).toNat = x := by
    rw [BitVec.ofInt_natCast, BitVec.toNat_ofNat]; exact Nat.mod_eq_of_lt (by omega)
  rw [BitVec.toNat_xor, h2, show (BitVec.ofInt 64 0).toNat = 0 from by decide, Nat.xor_zero, IntKind.wrap_i64]
  omega
theorem xor_not (x : Nat) (hx : x < 9223372036854775808) : bits .xor .i64 (x : Int) (-1) = -(x : Int) - 1 := by
  show IntKind.i64.wrap ((BitVec.ofInt 64 (x : Int) ^^^ BitVec.ofInt 64 (-1)).toNat : Int) = _
  rw [BitVec.xor_comm]
  exact Lib.i64_not x hx
theorem shr_xor (z : Nat) (hz : z < 18446744073709551616) : bits .xor .i64 ((z / 2 : Nat) : Int) (-((z % 2 : Nat) : Int)) = unzig z := by
  unfold unzig
  rcases Nat.mod_two_eq_zero_or_one z with h | h
  · rw [if_pos h, h]
    exact xor_same _ (by omega)
  · rw [if_neg (by omega), h]
    exact xor_not _ (by omega)
end Go.Proofs.YtgcdfoadegojcaaDoor
