/- The check sum bit by bit: it is linear, and tells of 32 bits side by side. -/
import Derived.Test.YtljhghlginachaaDoorCrA
namespace Go.Proofs.YtljhghlginachaaDoor
open Go.RowKit
set_option linter.unusedVariables false
def takeBit (r : BitVec 32) (b : Bool) : BitVec 32 := mv (r ^^^ (if b then 1#32 else 0#32))
def foldBits (r : BitVec 32) (f : Nat → Bool) : Nat → BitVec 32
  | 0 => r
  | m + 1 => takeBit (foldBits r f m) (f m)
theorem takeBit_xor (r s : BitVec 32) (a b : Bool) : takeBit (r ^^^ s) (a ^^ b) = takeBit r a ^^^ takeBit s b := by
  unfold takeBit
  rw [← mv_xor]
  congr 1
  have e1 : (1#32 ^^^ 1#32 : BitVec 32) = 0#32 := BitVec.xor_self
  cases a <;> cases b <;> simp
  · ac_rfl
  · ac_rfl
  · rw [show r ^^^ 1#32 ^^^ (s ^^^ 1#32) = r ^^^ (s ^^^ (1#32 ^^^ 1#32)) by ac_rfl, e1, BitVec.xor_zero]
theorem foldBits_xor (r s : BitVec 32) (f g : Nat → Bool) : ∀ m, foldBits (r ^^^ s) (fun j => f j ^^ g j) m = foldBits r f m ^^^ foldBits s g m
  | 0 => rfl
  | m + 1 => by rw [foldBits, foldBits, foldBits, foldBits_xor r s f g m, takeBit_xor]
theorem foldBits_congr (r : BitVec 32) (f g : Nat → Bool) : ∀ m, (∀ j, j < m → f j = g j) → foldBits r f m = foldBits r g m
  | 0, _ => rfl
  | m + 1, h => by rw [foldBits, foldBits, foldBits_congr r f g m (fun j hj => h j (by omega)), h m (by omega)]
theorem foldBits_add (r : BitVec 32) (f : Nat → Bool) (k : Nat) : ∀ m, foldBits r f (k + m) = foldBits (foldBits r f k) (fun j => f (k + j)) m
  | 0 => rfl
  | m + 1 => by
    rw [← Nat.add_assoc, foldBits, foldBits, foldBits_add r f k m]
theorem foldBits_none (r : BitVec 32) (f : Nat → Bool) : ∀ m, (∀ j, j < m → f j = false) → foldBits r f m = mvs m r
  | 0, _ => rfl
  | m + 1, h => by
    rw [foldBits, foldBits_none r f m (fun j hj => h j (by omega)), h m (by omega), mvs_add m 1]
    show mv (mvs m r ^^^ 0#32) = mv (mvs m r)
    rw [BitVec.xor_zero]
/-- The bits of x, the lowest first, taken by a register: all at once. -/
theorem fold_word (r x : BitVec 32) : ∀ m, m ≤ 32 → foldBits r (fun j => x.getLsbD j) m ^^^ (x >>> m) = mvs m (r ^^^ x)
  | 0, _ => by simp [foldBits, mvs]
  | m + 1, h => by
    have ih := fold_word r x m (by omega)
    rw [mvs_add m 1, ← ih, foldBits]
    show takeBit _ _ ^^^ _ = mv _
    generalize foldBits r (fun j => x.getLsbD j) m = F
    have e : x >>> m = (if x.getLsbD m then 1#32 else 0#32) ^^^ ((x >>> m) &&& ~~~1#32) := by
      apply BitVec.eq_of_getLsbD_eq
      intro i hi
      rw [BitVec.getLsbD_xor, BitVec.getLsbD_and, BitVec.getLsbD_not, BitVec.getLsbD_ushiftRight]
      rcases i with _ | i
      · simp
        cases x.getLsbD m <;> simp
      · have h1 : (1#32).getLsbD (i + 1) = false := by simp [BitVec.getLsbD_one]
        rw [h1]
        have h2 : (if x.getLsbD m then 1#32 else 0#32).getLsbD (i + 1) = false := by
          cases x.getLsbD m
          · simp
          · rw [if_pos rfl]; exact h1
        rw [h2]
        simp [hi]
    have e2 : mv ((x >>> m) &&& ~~~1#32) = x >>> (m + 1) := by
      rw [mv_low (by rw [BitVec.getLsbD_and, BitVec.getLsbD_not]; simp)]
      apply BitVec.eq_of_getLsbD_eq
      intro i hi
      rw [BitVec.getLsbD_ushiftRight, BitVec.getLsbD_and, BitVec.getLsbD_not, BitVec.getLsbD_ushiftRight, BitVec.getLsbD_ushiftRight]
      have h1 : (1#32).getLsbD (1 + i) = false := by simp [BitVec.getLsbD_one]
      rw [h1, show m + (1 + i) = m + 1 + i by omega]
      by_cases h3 : 1 + i < 32
      · simp [h3]
      · simp [show ¬ (1 + i < 32) from h3]
        exact BitVec.getLsbD_of_ge x (m + 1 + i) (by omega)
    conv => rhs; rw [e]
    rw [← BitVec.xor_assoc, mv_xor, e2]
    rfl
/-- A bit of a list of bytes, the lowest of each byte first. -/
def bitAt (l : List UInt8) (j : Nat) : Bool := (l.getD (j / 8) 0).toNat.testBit (j % 8)
theorem takeB_bits (r : BitVec 32) (b : UInt8) : takeB r b = foldBits r (fun j => b.toNat.testBit j) 8 := by
  have h := fold_word r (BitVec.ofNat 32 b.toNat) 8 (by omega)
  have hb := b.toNat_lt
  have e : (BitVec.ofNat 32 b.toNat) >>> 8 = 0#32 := by
    apply BitVec.eq_of_toNat_eq
    rw [BitVec.toNat_ushiftRight, BitVec.toNat_ofNat, Nat.shiftRight_eq_div_pow, Nat.mod_eq_of_lt (by omega)]
    exact Nat.div_eq_of_lt hb
  rw [e, BitVec.xor_zero] at h
  rw [takeB, ← h]
  refine foldBits_congr _ _ _ _ fun j hj => ?_
  rw [BitVec.getLsbD_ofNat]
  simp [show j < 32 by omega]
theorem takes_bits (r : BitVec 32) : ∀ l : List UInt8, takes r l = foldBits r (bitAt l) (8 * l.length) := by
  intro l
  suffices h : ∀ k, k ≤ l.length → takes r (l.take k) = foldBits r (bitAt l) (8 * k) by
    have := h l.length (Nat.le_refl _)
    rwa [List.take_length] at this
  intro k
  induction k with
  | zero => intro _; rfl
  | succ k ih =>
    intro hk
    have hl : k < l.length := by omega
    rw [List.take_succ_eq_append_getElem hl, takes, List.foldl_append, List.foldl_cons, List.foldl_nil, ← takes, ih (by omega), takeB_bits, show 8 * (k + 1) = 8 * k + 8 by omega, foldBits_add]
    refine foldBits_congr _ _ _ _ fun j hj => ?_
    show _ = (l.getD ((8 * k + j) / 8) 0).toNat.testBit ((8 * k + j) % 8)
    rw [show (8 * k + j) / 8 = k by omega, show (8 * k + j) % 8 = j by omega, List.getD, List.getElem?_eq_getElem hl]
    rfl
/-- Three texts of one length, and the one that is turned as all of them. -/
theorem takes_three (r : BitVec 32) (a b c d : List UInt8) (n : Nat) (ha : a.length = n) (hb : b.length = n) (hc : c.length = n) (hd : d.length = n)
    (h : ∀ k, k < n → d.getD k 0 = a.getD k 0 ^^^ b.getD k 0 ^^^ c.getD k 0) : takes r d = takes r a ^^^ takes r b ^^^ takes r c := by
  rw [takes_bits, takes_bits, takes_bits, takes_bits, ha, hb, hc, hd, ← foldBits_xor, ← foldBits_xor, BitVec.xor_self, BitVec.zero_xor]
  refine foldBits_congr _ _ _ _ fun j hj => ?_
  unfold bitAt
  rw [h (j / 8) (by omega), UInt8.toNat_xor, UInt8.toNat_xor, Nat.testBit_xor, Nat.testBit_xor]
theorem more_three (a b c d : List UInt8) (n : Nat) (ha : a.length = n) (hb : b.length = n) (hc : c.length = n) (hd : d.length = n)
    (h : ∀ k, k < n → d.getD k 0 = a.getD k 0 ^^^ b.getD k 0 ^^^ c.getD k 0) : more 0#32 d = more 0#32 a ^^^ more 0#32 b ^^^ more 0#32 c := by
  unfold more
  rw [takes_three _ a b c d n ha hb hc hd h]
  generalize takes (~~~ 0#32) a = x
  generalize takes (~~~ 0#32) b = y
  generalize takes (~~~ 0#32) c = z
  apply BitVec.eq_of_getLsbD_eq
  intro i hi
  simp only [BitVec.getLsbD_xor, BitVec.getLsbD_not, hi, decide_true, Bool.true_and]
  cases x.getLsbD i <;> cases y.getLsbD i <;> cases z.getLsbD i <;> rfl
/-- Bits that are turned within 32 side by side change what is taken. -/
theorem takes_turned (r x : BitVec 32) (s l : List UInt8) (n k : Nat) (hs : s.length = n) (hl : l.length = n) (hk : k + 32 ≤ 8 * n) (hx : x ≠ 0#32)
    (h : ∀ j, bitAt l j = (bitAt s j ^^ (decide (k ≤ j ∧ j < k + 32) && x.getLsbD (j - k)))) : takes r l ≠ takes r s := by
  rw [takes_bits, takes_bits, hs, hl]
  have e : foldBits r (bitAt l) (8 * n) = foldBits r (bitAt s) (8 * n) ^^^ foldBits 0#32 (fun j => decide (k ≤ j ∧ j < k + 32) && x.getLsbD (j - k)) (8 * n) := by
    rw [← foldBits_xor, BitVec.xor_zero]
    exact foldBits_congr _ _ _ _ fun j _ => h j
  rw [e]
  obtain ⟨z, hz⟩ : ∃ z, 8 * n = k + 32 + z := ⟨8 * n - (k + 32), by omega⟩
  have e2 : foldBits 0#32 (fun j => decide (k ≤ j ∧ j < k + 32) && x.getLsbD (j - k)) (8 * n) = mvs z (mvs 32 x) := by
    rw [hz, foldBits_add, foldBits_add]
    rw [foldBits_none 0#32 _ k (fun j hj => by simp; omega), mvs_zero]
    rw [foldBits_congr 0#32 (fun j => decide (k ≤ k + j ∧ k + j < k + 32) && x.getLsbD (k + j - k)) (fun j => x.getLsbD j) 32 (fun j hj => by simp [hj])]
    have h32 := fold_word 0#32 x 32 (Nat.le_refl _)
    have e3 : x >>> 32 = 0#32 := by
      apply BitVec.eq_of_getLsbD_eq
      intro i hi
      rw [BitVec.getLsbD_ushiftRight, BitVec.getLsbD_of_ge _ _ (by omega)]; simp
    rw [e3, BitVec.xor_zero, BitVec.zero_xor] at h32
    rw [h32]
    exact foldBits_none _ _ z (fun j hj => by rw [decide_eq_false (by omega), Bool.false_and])
  rw [e2]
  intro hh
  have h0 : mvs z (mvs 32 x) = 0#32 := by
    have h1 : ∀ y m : BitVec 32, y ^^^ m = y → m = 0#32 := by
      intro y m h2
      have h3 : y ^^^ (y ^^^ m) = y ^^^ y := by rw [h2]
      rwa [← BitVec.xor_assoc, BitVec.xor_self, BitVec.zero_xor] at h3
    exact h1 _ _ hh
  exact hx (mvs_inj _ _ (mvs_inj _ _ h0))
/-- One bit is turned. -/
theorem bit_turned (l : List UInt8) (p : Nat) (hp : p / 8 < l.length) (v : UInt8) (hv : v.toNat = (l.getD (p / 8) 0).toNat ^^^ 2 ^ (p % 8)) (j : Nat) :
    bitAt (l.set (p / 8) v) j = (bitAt l j ^^ decide (j = p)) := by
  unfold bitAt
  by_cases h : j / 8 = p / 8
  · have e : (l.set (p / 8) v).getD (j / 8) 0 = v := by
      rw [h, List.getD, List.getElem?_set_self hp]; rfl
    rw [e, hv, Nat.testBit_xor, h, Nat.testBit_two_pow]
    congr 1
    rw [decide_eq_decide]; omega
  · have e : (l.set (p / 8) v).getD (j / 8) 0 = l.getD (j / 8) 0 := by
      rw [List.getD, List.getElem?_set_ne (by omega)]; rfl
    rw [e, decide_eq_false (by intro e; subst e; exact h rfl), Bool.xor_false]
end Go.Proofs.YtljhghlginachaaDoor
