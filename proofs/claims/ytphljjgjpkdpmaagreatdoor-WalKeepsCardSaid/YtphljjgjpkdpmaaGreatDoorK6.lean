/- Several texts in one: PkA. -/
import Derived.Test.YtphljjgjpkdpmaaGreatDoorK1
import Derived.Lib.Zigzag
import Derived.Lib.Varint
/- How numbers and texts are written as bytes: plain functions. -/
namespace Go.Proofs.YtphljjgjpkdpmaaGreatDoor
open Go.RowKit
set_option linter.unusedVariables false
/-- The bytes of a number: groups of seven bits, the low ones first. -/
def numB (n : Int) : List UInt8 := Lib.uvarint (Lib.zigzag n)
theorem numB_len {n : Int} (hn : -9223372036854775808 ≤ n ∧ n ≤ 9223372036854775807) : (numB n).length ≤ 10 :=
  Lib.uvarint_length64 (Lib.zigzag_lt hn.1 hn.2)
theorem numB_pos (n : Int) : 1 ≤ (numB n).length := Lib.uvarint_pos _
theorem zig_bits {n : Int} (hn : -9223372036854775808 ≤ n ∧ n ≤ 9223372036854775807) :
    bits .xor .u64 (IntKind.u64.wrap (IntKind.u64.wrap n * 2)) (IntKind.u64.wrap (n / 9223372036854775808)) = (Lib.zigzag n : Int) := by
  rw [IntKind.wrap_u64, IntKind.wrap_u64, IntKind.wrap_u64]
  by_cases h : 0 ≤ n
  · have e1 : n % 18446744073709551616 * 2 % 18446744073709551616 = ((2 * n).toNat : Int) := by omega
    have e2 : n / 9223372036854775808 % 18446744073709551616 = ((0 : Nat) : Int) := by omega
    rw [e1, e2, u64_xor_nat _ _ (by omega) (by omega), Nat.xor_zero, Lib.zigzag, if_pos h]
  · have e1 : n % 18446744073709551616 * 2 % 18446744073709551616 = ((2 * n + 18446744073709551616).toNat : Int) := by omega
    have e2 : n / 9223372036854775808 % 18446744073709551616 = ((2 ^ 64 - 1 : Nat) : Int) := by omega
    rw [e1, e2, u64_xor_nat _ _ (by omega) (by omega), Nat.xor_comm, Lib.xor_ones64 _ (by omega), Lib.zigzag, if_neg h]
    omega
theorem or128b (z : Nat) : bits .or .u8 ((z : Int) % 256) 128 = ((z % 128 + 128 : Nat) : Int) := by
  rw [Lib.u8_or128_any _ (by omega) (by omega)]; omega
theorem c8_lowP {z : Nat} (h : z < 128) : c8 z.toUInt8 = .int .u8 (z : Int) := by
  show Value.int .u8 ((z.toUInt8.toNat : Nat) : Int) = _
  rw [show z.toUInt8.toNat = z from by simp; omega]
theorem c8_high (z : Nat) : c8 (z % 128 + 128).toUInt8 = .int .u8 ((z % 128 + 128 : Nat) : Int) := by
  show Value.int .u8 (((z % 128 + 128).toUInt8.toNat : Nat) : Int) = _
  rw [show (z % 128 + 128).toUInt8.toNat = z % 128 + 128 from by simp; omega]
end Go.Proofs.YtphljjgjpkdpmaaGreatDoor
