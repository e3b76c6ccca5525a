/- Numbers are read as they were written: plain facts. -/
import Derived.Test.YtgcdfoadegojcaaDoorPkG
namespace Go.Proofs.YtgcdfoadegojcaaDoor
open Go.RowKit
set_option linter.unusedVariables false
theorem unzig_zig {n : Int} : unzig (Lib.zigzag n) = n := by
  unfold unzig Lib.zigzag
  split <;> split <;> omega
theorem zig_unzig (z : Nat) : Lib.zigzag (unzig z) = z := by
  unfold unzig Lib.zigzag
  split <;> split <;> omega
theorem numB_unzig (z : Nat) : numB (unzig z) = Lib.uvarint z := by unfold numB; rw [zig_unzig]
theorem byte_eq {b : UInt8} {x : Nat} (h : x = b.toNat) : x.toUInt8 = b := by
  subst h; exact UInt8.ofNat_toNat
/-- What is read as a number is the number's bytes. -/
theorem getL_sound : ∀ (l : List UInt8) (i z : Nat), z < 128 ^ i → (getL l i z).2 ≠ 0 →
    ∃ y, l = Lib.uvarint y ++ l.drop ((getL l i z).2 - i) ∧ (getL l i z).1 = unzig (z + y * 128 ^ i) ∧ (getL l i z).2 = i + (Lib.uvarint y).length ∧ z + y * 128 ^ i < 18446744073709551616 ∧ (0 < i → y ≠ 0)
  | [], i, z, _, h => by simp [getL] at h
  | b :: r, i, z, hz, h => by
    by_cases h1 : 10 ≤ i
    · rw [getL, if_pos h1] at h; simp at h
    by_cases h2 : i = 9 ∧ 1 < b.toNat
    · rw [getL, if_neg h1, if_pos h2] at h; simp at h
    have hs := step_lt (by omega) hz b.toNat_lt h2
    by_cases h3 : 128 ≤ b.toNat
    · have e : getL (b :: r) i z = getL r (i + 1) (z + b.toNat % 128 * 128 ^ i) := by rw [getL, if_neg h1, if_neg h2, if_pos h3]
      rw [e] at h ⊢
      obtain ⟨y, e1, e2, e3, e4, e5⟩ := getL_sound r (i + 1) _ hs.2.2 h
      have hy := e5 (by omega)
      have hb := b.toNat_lt
      have ev : Lib.uvarint (b.toNat % 128 + 128 * y) = b :: Lib.uvarint y := by
        rw [Lib.uvarint_big (by omega), show (b.toNat % 128 + 128 * y) / 128 = y from by omega, byte_eq (b := b) (by omega)]
      have ep : z + (b.toNat % 128 + 128 * y) * 128 ^ i = z + b.toNat % 128 * 128 ^ i + y * 128 ^ (i + 1) := by
        rw [Nat.pow_succ, Nat.add_mul, Nat.mul_comm 128 y, Nat.mul_assoc, Nat.mul_comm 128 (128 ^ i), Nat.add_assoc]
      refine ⟨b.toNat % 128 + 128 * y, ?_, ?_, ?_, ?_, fun _ => by omega⟩
      · rw [ev, e3, show i + 1 + (Lib.uvarint y).length - i = (Lib.uvarint y).length + 1 from by omega, List.drop_succ_cons, List.cons_append]
        rw [e3, show i + 1 + (Lib.uvarint y).length - (i + 1) = (Lib.uvarint y).length from by omega] at e1
        rw [← e1]
      · rw [e2, ep]
      · rw [e3, ev, List.length_cons]; omega
      · rw [ep]; exact e4
    · by_cases h4 : b.toNat = 0 ∧ 0 < i
      · rw [getL, if_neg h1, if_neg h2, if_neg h3, if_pos h4] at h; simp at h
      have e : getL (b :: r) i z = (unzig (z + b.toNat % 128 * 128 ^ i), i + 1) := by rw [getL, if_neg h1, if_neg h2, if_neg h3, if_neg h4]
      rw [e]
      have em : b.toNat % 128 = b.toNat := by omega
      rw [em] at hs
      refine ⟨b.toNat, ?_, by simp only [em], ?_, hs.1, by omega⟩
      · rw [Lib.uvarint_small (by omega), byte_eq (b := b) rfl]
        show _ = _ ++ List.drop (i + 1 - i) _
        rw [show i + 1 - i = 1 from by omega]
        rfl
      · rw [Lib.uvarint_small (by omega)]; rfl
/-- What was written is read as it was. -/
theorem getL_back : ∀ (y i z : Nat) (more : List UInt8), z < 128 ^ i → z + y * 128 ^ i < 18446744073709551616 → (0 < i → y ≠ 0) →
    getL (Lib.uvarint y ++ more) i z = (unzig (z + y * 128 ^ i), i + (Lib.uvarint y).length) := by
  intro y
  induction y using Nat.strongRecOn with
  | _ y ih =>
    intro i z more hz hb hi
    have hi10 : ¬ 10 ≤ i := by
      intro h
      have h1 : 128 ^ 10 ≤ 128 ^ i := Nat.pow_le_pow_right (by omega) h
      have h2 : 1 * 128 ^ i ≤ y * 128 ^ i := Nat.mul_le_mul_right _ (by have := hi (by omega); omega)
      have h3 : (128 : Nat) ^ 10 = 1180591620717411303424 := by decide
      omega
    by_cases hy : y < 128
    · rw [Lib.uvarint_small hy, List.singleton_append, getL, if_neg hi10]
      have e : y.toUInt8.toNat = y := by simp; omega
      rw [e, if_neg, if_neg (by omega), if_neg, Nat.mod_eq_of_lt hy]
      · rfl
      · rintro ⟨h1, h2⟩; exact hi h2 h1
      · rintro ⟨rfl, h2⟩
        have e9 : (128 : Nat) ^ 9 = 9223372036854775808 := by decide
        rw [e9] at hb
        omega
    · rw [Lib.uvarint_big (by omega), List.cons_append, getL, if_neg hi10]
      have e : (y % 128 + 128).toUInt8.toNat = y % 128 + 128 := by simp; omega
      have ep : z + y * 128 ^ i = z + (y % 128) * 128 ^ i + y / 128 * 128 ^ (i + 1) := by
        have h : y = y % 128 + 128 * (y / 128) := by omega
        rw [Nat.pow_succ, Nat.add_assoc, ← Nat.mul_assoc, Nat.mul_right_comm, ← Nat.add_mul]
        congr 2
        omega
      have h9 : ¬ (i = 9 ∧ 1 < y % 128 + 128) := by
        rintro ⟨rfl, _⟩
        have e9 : (128 : Nat) ^ 9 = 9223372036854775808 := by decide
        rw [e9] at hb
        omega
      have hl : z + y % 128 * 128 ^ i < 128 ^ (i + 1) := by
        have : y % 128 * 128 ^ i ≤ 127 * 128 ^ i := Nat.mul_le_mul_right _ (by omega)
        rw [Nat.pow_succ]; omega
      rw [e, if_neg h9, if_pos (by omega), show (y % 128 + 128) % 128 = y % 128 from by omega, ih (y / 128) (by omega) (i + 1) _ more hl (by rw [← ep]; exact hb) (fun _ => by omega), ep, List.length_cons]
      congr 1
      omega
theorem getN_sound {s : ByteArray} (h : (getN s).2 ≠ 0) : s.data.toList = numB (getN s).1 ++ s.data.toList.drop (getN s).2 ∧ (getN s).2 = (numB (getN s).1).length := by
  obtain ⟨y, e1, e2, e3, _⟩ := getL_sound s.data.toList 0 0 (by decide) h
  simp only [Nat.zero_add, Nat.pow_zero, Nat.mul_one, Nat.sub_zero] at e1 e2 e3
  unfold getN at *
  rw [e2, numB_unzig]
  exact ⟨e1, e3⟩
theorem getN_back {n : Int} (hn : -9223372036854775808 ≤ n ∧ n ≤ 9223372036854775807) (more : List UInt8) : getN ⟨(numB n ++ more).toArray⟩ = (n, (numB n).length) := by
  have h := getL_back (Lib.zigzag n) 0 0 more (by decide) (by have := Lib.zigzag_lt hn.1 hn.2; simpa using this) (by omega)
  simp only [Nat.zero_add, Nat.pow_zero, Nat.mul_one] at h
  unfold getN numB
  rw [unzig_zig] at h
  exact h
theorem nextS_list (s : ByteArray) : nextS s = ⟨(s.data.toList.drop (getN s).2).toArray⟩ := by
  unfold nextS
  obtain ⟨⟨l⟩⟩ := s
  rw [ByteArray.extract_mk]
  simp [ByteArray.size]
  exact List.take_of_length_le (by simp)
theorem nextS_back {n : Int} (hn : -9223372036854775808 ≤ n ∧ n ≤ 9223372036854775807) (more : List UInt8) : nextS ⟨(numB n ++ more).toArray⟩ = ⟨more.toArray⟩ := by
  rw [nextS_list, getN_back hn]
  simp
end Go.Proofs.YtgcdfoadegojcaaDoor
