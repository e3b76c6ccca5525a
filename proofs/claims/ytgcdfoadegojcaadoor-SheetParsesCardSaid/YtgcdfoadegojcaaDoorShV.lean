/- Stage 3: the document's Sum: pure facts. -/
import Derived.Test.YtgcdfoadegojcaaDoorShS
namespace Go.Proofs.YtgcdfoadegojcaaDoor
open Go.RowKit
set_option linter.unusedVariables false
theorem pr_le : ∀ k, k < 64 → pr k ≤ 1000 := by decide +kernel
theorem first_val : ∀ k, k < 8 → ((sqW (pr k) : Nat) : Int) = un (h0.getD k 0) := by
  have h1 : ∀ k, k < 8 → un (h0.getD k 0) = ((firstL.getD k 0 : Nat) : Int) := by decide +kernel
  intro k hk
  rw [h1 k hk, square_firsts k hk]
theorem cube_val : ∀ k, k < 64 → ((cuW (pr k) : Nat) : Int) = un (Kw k) := by
  have h1 : ∀ k, k < 64 → un (Kw k) = ((cubesL.getD k 0 : Nat) : Int) := by decide +kernel
  intro k hk
  rw [h1 k hk, cube_all k hk]
def padC (l : List (BitVec 32)) (n k : Nat) : List (BitVec 32) := l.take k ++ List.replicate (n - k) 0
theorem padC_len {l : List (BitVec 32)} {n k : Nat} (hl : l.length = n) (hk : k ≤ n) : (padC l n k).length = n := by
  unfold padC; rw [List.length_append, List.length_take, List.length_replicate]; omega
theorem padC_zero (l : List (BitVec 32)) (n : Nat) : padC l n 0 = List.replicate n 0 := by unfold padC; simp
theorem padC_all {l : List (BitVec 32)} {n : Nat} (hl : l.length = n) : padC l n n = l := by unfold padC; rw [Nat.sub_self, List.replicate_zero, List.append_nil, List.take_of_length_le (by omega)]
theorem padC_set {l : List (BitVec 32)} {n k : Nat} (hl : l.length = n) (hk : k < n) : (padC l n k).set k (l.getD k 0) = padC l n (k + 1) := by
  unfold padC
  obtain ⟨m, hm⟩ : ∃ m, n - k = m + 1 := ⟨n - k - 1, by omega⟩
  have hm2 : n - (k + 1) = m := by omega
  have hlt : (l.take k).length = k := by rw [List.length_take]; omega
  rw [hm, hm2, List.replicate_succ, List.set_append_right _ _ (by omega), hlt, Nat.sub_self, List.set_cons_zero, List.take_succ_eq_append_getElem (by omega), List.append_assoc, List.getD, List.getElem?_eq_getElem (by omega)]
  rfl
def KL : List (BitVec 32) := (List.range 64).map Kw
theorem KL_len : KL.length = 64 := by unfold KL; rw [List.length_map, List.length_range]
theorem KL_get (t : Nat) (ht : t < 64) : KL.getD t 0 = Kw t := by unfold KL; simp [List.getD, ht]
/-- A word, as far as its bytes are read. -/
def pw (s : ByteArray) (t : Nat) : Nat → BitVec 32
  | 0 => 0
  | i + 1 => (pw s t i <<< 8) + byW s (4 * t + i)
theorem shl_add (x : BitVec 32) (b : Nat) (hb : b < 256) : (x <<< 8) + BitVec.ofNat 32 b = (x <<< 8) ||| BitVec.ofNat 32 b := by
  apply BitVec.add_eq_or_of_and_eq_zero
  apply BitVec.eq_of_getLsbD_eq
  intro i hi
  rw [BitVec.getLsbD_and, BitVec.getLsbD_shiftLeft, BitVec.getLsbD_ofNat]
  by_cases h8 : i < 8
  · simp [h8]
  · have : b.testBit i = false := Nat.testBit_lt_two_pow (Nat.lt_of_lt_of_le (show b < 2 ^ 8 from hb) (Nat.pow_le_pow_right (show 0 < 2 by omega) (show 8 ≤ i by omega) : 2 ^ 8 ≤ 2 ^ i))
    simp [this]
theorem four_bytes (a b c d : Nat) (ha : a < 256) (hb : b < 256) (hc : c < 256) (hd : d < 256) :
    (((((((0 : BitVec 32) <<< 8) + BitVec.ofNat 32 a) <<< 8 + BitVec.ofNat 32 b) <<< 8) + BitVec.ofNat 32 c) <<< 8) + BitVec.ofNat 32 d = ((BitVec.ofNat 32 a <<< 24 ||| BitVec.ofNat 32 b <<< 16) ||| BitVec.ofNat 32 c <<< 8) ||| BitVec.ofNat 32 d := by
  rw [shl_add _ d hd, shl_add _ c hc, shl_add _ b hb, shl_add _ a ha]
  have z : (0 : BitVec 32) <<< 8 = 0 := rfl
  have z2 : ∀ x : BitVec 32, (0 : BitVec 32) ||| x = x := fun x => by simp
  rw [z, z2]
  simp only [BitVec.shiftLeft_or_distrib, ← BitVec.shiftLeft_add]
theorem pw_be (s : ByteArray) (t : Nat) : pw s t 4 = be s t := by
  unfold be
  have hb : ∀ j, (s.data.toList.getD j 0).toNat < 256 := fun j => UInt8.toNat_lt _
  exact four_bytes _ _ _ _ (hb (4 * t)) (hb (4 * t + 1)) (hb (4 * t + 2)) (hb (4 * t + 3))
theorem schC_at (s : ByteArray) (t : Nat) (ht : t < 64) : (schC s t).set t (u32v 0) = schC s t := by
  have hl := schC_len s t (by omega)
  unfold schC
  obtain ⟨m, hm⟩ : ∃ m, 64 - t = m + 1 := ⟨64 - t - 1, by omega⟩
  have hlt : ((schN s t).map u32v).length = t := by rw [List.length_map, schN_len]
  rw [hm, List.replicate_succ, List.set_append_right _ _ (by omega), hlt, Nat.sub_self, List.set_cons_zero]
  rfl
theorem schC_pw (s : ByteArray) (t : Nat) (ht : t < 16) : (schC s t).set t (u32v (pw s t 4)) = schC s (t + 1) := by
  rw [pw_be, ← schC_set s t (by omega)]
  unfold schF
  rw [if_pos ht]
/-- A block of a message. -/
def blkB (M : List UInt8) (n : Nat) : ByteArray := ⟨((M.drop (64 * n)).take 64).toArray⟩
theorem blkB_at (M : List UInt8) (n j : Nat) (hj : j < 64) (h : 64 * n + j < M.length) : byW (blkB M n) j = BitVec.ofNat 32 (M[64 * n + j]).toNat := by
  unfold byW blkB
  congr 1
  show ((List.take 64 (List.drop (64 * n) M)).toArray.toList.getD j 0).toNat = _
  rw [List.getD, List.getElem?_take_of_lt hj, List.getElem?_drop, List.getElem?_eq_getElem h]; rfl
theorem un_byte (y : UInt8) : IntKind.u32.wrap ((y.toNat : Nat) : Int) = un (BitVec.ofNat 32 y.toNat) := by
  have := y.toNat_lt
  unfold un
  rw [BitVec.toNat_ofNat, IntKind.wrap_u32]
  omega
theorem ofL_toL (s : S8) : ofL (toL s) = s := rfl
theorem toL_len (s : S8) : (toL s).length = 8 := rfl
theorem rrot_rel (n : Nat) (h0 : 0 < n) (h1 : n < 32) {w0 : World} (x : BitVec 32) (w : World) (hI : w0.grownBy w none) :
    Calls Tryd.prog 39 #[.int .u32 (un x), .int .i64 n] w fun e w' => ∃ u, e = .returned u ∧ u = .int .u32 (un (rr x n)) ∧ w0.grownBy w' none ∧ w.grownBy w' none :=
  (rrot_any n h0 h1 x w).mono fun e w' ⟨he, g⟩ => ⟨_, he, rfl, grow_none hI g, g⟩
theorem low_conv (x : BitVec 32) (n Q : Nat) (hQ : Q = 2 ^ n) : IntKind.u8.wrap (un x / (Q : Int)) = lowI (x >>> n) := by
  rw [un_shr x n Q hQ]
  unfold lowI lowB un
  rw [IntKind.wrap_u8]
  show _ = (((UInt8.ofNat _).toNat : Nat) : Int)
  rw [UInt8.toNat_ofNat']
  omega
theorem low_conv0 (x : BitVec 32) : IntKind.u8.wrap (un x) = lowI x := by
  unfold lowI lowB un
  rw [IntKind.wrap_u8]
  show _ = (((UInt8.ofNat _).toNat : Nat) : Int)
  rw [UInt8.toNat_ofNat']
  omega
theorem digB_snoc (h : List (BitVec 32)) (k : Nat) (hk : k < h.length) : digB (h.take (k + 1)) = digB (h.take k) ++ wB (h.getD k 0) := by
  unfold digB
  rw [List.take_succ_eq_append_getElem hk, List.flatMap_append, List.flatMap_cons, List.flatMap_nil, List.append_nil, List.getD, List.getElem?_eq_getElem hk]; rfl
end Go.Proofs.YtgcdfoadegojcaaDoor
