/- Stage 3: the message with what stands behind it: pure facts. -/
import Derived.Test.YtgcdfoadegojcaaDoorShP
import Derived.Test.YtgcdfoadegojcaaDoorShG
namespace Go.Proofs.YtgcdfoadegojcaaDoor
open Go.RowKit
set_option linter.unusedVariables false
def tailN (n : Nat) : Nat → List UInt8
  | 0 => []
  | k + 1 => endN n k :: tailN n k
theorem tailN_len (n : Nat) : ∀ k, (tailN n k).length = k
  | 0 => rfl
  | k + 1 => by rw [tailN, List.length_cons, tailN_len n k]
theorem set_last (P T : List UInt8) (m : Nat) (y : UInt8) : (P ++ List.replicate (m + 1) 0 ++ T).set (P.length + m) y = P ++ List.replicate m 0 ++ (y :: T) := by
  have e : List.replicate (m + 1) (0 : UInt8) = List.replicate m 0 ++ [0] := by rw [List.replicate_succ']
  rw [e, List.append_assoc, List.append_assoc, List.set_append_right _ _ (by omega), Nat.add_sub_cancel_left, List.set_append_right _ _ (by rw [List.length_replicate]; omega), List.length_replicate, Nat.sub_self, List.append_assoc]
  rfl
theorem endC_form (left : ByteArray) (n : Nat) (hl : left.size < 64) : ∀ k, k ≤ 8 → endC left n k = (left.data.toList ++ [128]) ++ List.replicate (endLen left - k - (left.size + 1)) 0 ++ tailN n k ++ List.replicate (128 - endLen left) 0
  | 0, _ => by
    have hE : endLen left = 64 ∨ endLen left = 128 := by unfold endLen; split <;> simp
    rw [endC, tailN, List.append_nil, List.append_assoc, List.append_assoc, List.replicate_append_replicate]
    have : endLen left - 0 - (left.size + 1) + (128 - endLen left) = 127 - left.size := by omega
    rw [this]; rfl
  | k + 1, hk => by
    have ih := endC_form left n hl k (by omega)
    have hE : (endLen left = 64 ∧ left.size ≤ 55) ∨ (endLen left = 128 ∧ 55 < left.size) := by
      unfold endLen
      split
      · right; exact ⟨rfl, by omega⟩
      · left; exact ⟨rfl, by omega⟩
    have hP : (left.data.toList ++ [(128 : UInt8)]).length = left.size + 1 := by
      rw [List.length_append, List.length_singleton, Array.length_toList]; rfl
    rw [endC, ih, tailN]
    obtain ⟨m, hm⟩ : ∃ m, endLen left - k - (left.size + 1) = m + 1 := ⟨endLen left - k - (left.size + 1) - 1, by omega⟩
    have hm2 : endLen left - (k + 1) - (left.size + 1) = m := by omega
    rw [hm, hm2]
    have hix : endLen left - 1 - k = (left.data.toList ++ [(128 : UInt8)]).length + m := by rw [hP]; omega
    rw [hix]
    have := set_last (left.data.toList ++ [128]) (tailN n k ++ List.replicate (128 - endLen left) 0) m (endN n k)
    rw [← List.append_assoc] at this
    rw [this]
    simp only [List.append_assoc, List.cons_append]
/-- The message with what stands behind it. -/
def padL (s : ByteArray) (z : Nat) : List UInt8 := s.data.toList ++ 128 :: List.replicate z 0 ++ tailN s.size 8
theorem padL_split (s : ByteArray) (z : Nat) (hz : z < 64) (h : (s.size + 1 + z) % 64 = 56) : padL s z = s.data.toList.take (64 * (s.size / 64)) ++ (lastS s).data.toList ∧ (lastS s).size % 64 = 0 := by
  have hsl : s.data.toList.length = s.size := by rw [Array.length_toList]; rfl
  have hx : (s.extract (64 * (s.size / 64)) s.size).data.toList = s.data.toList.drop (64 * (s.size / 64)) := by
    have e : (s.extract (64 * (s.size / 64)) s.size).data.toList = (s.data.toList.drop (64 * (s.size / 64))).take (s.size - 64 * (s.size / 64)) := by simp [List.extract_eq_take_drop]
    rw [e, List.take_of_length_le (by rw [List.length_drop, hsl]; exact Nat.le_refl _)]
  have hls : (s.extract (64 * (s.size / 64)) s.size).size = s.size % 64 := by rw [ByteArray.size_extract]; omega
  have hl64 : s.size % 64 < 64 := Nat.mod_lt _ (by omega)
  have hE : (endLen (s.extract (64 * (s.size / 64)) s.size) = 64 ∧ s.size % 64 ≤ 55) ∨ (endLen (s.extract (64 * (s.size / 64)) s.size) = 128 ∧ 55 < s.size % 64) := by
    unfold endLen
    rw [hls]
    split
    · right; exact ⟨rfl, by omega⟩
    · left; exact ⟨rfl, by omega⟩
  have hform := endC_form (s.extract (64 * (s.size / 64)) s.size) s.size (by rw [hls]; exact hl64) 8 (Nat.le_refl _)
  rw [hx, hls] at hform
  have hzz : endLen (s.extract (64 * (s.size / 64)) s.size) - 8 - (s.size % 64 + 1) = z := by omega
  rw [hzz] at hform
  have hlast : (lastS s).data.toList = s.data.toList.drop (64 * (s.size / 64)) ++ [128] ++ List.replicate z 0 ++ tailN s.size 8 := by
    show (endC (s.extract (64 * (s.size / 64)) s.size) s.size 8).take (endLen (s.extract (64 * (s.size / 64)) s.size)) = _
    rw [hform]
    have hlen : (s.data.toList.drop (64 * (s.size / 64)) ++ [128] ++ List.replicate z 0 ++ tailN s.size 8).length = endLen (s.extract (64 * (s.size / 64)) s.size) := by
      simp only [List.length_append, List.length_drop, List.length_singleton, List.length_replicate, tailN_len, hsl]
      omega
    rw [← hlen, List.take_left]
  refine ⟨?_, ?_⟩
  · rw [hlast]
    unfold padL
    conv => lhs; rw [← List.take_append_drop (64 * (s.size / 64)) s.data.toList]
    simp only [List.append_assoc, List.cons_append, List.nil_append]
  · have h2 : (lastS s).size = endLen (s.extract (64 * (s.size / 64)) s.size) := endS_size _ _ (by rw [hls]; exact hl64)
    rw [h2]
    omega
/-- The states along any list of bytes. -/
def stM (M : List UInt8) (h : List (BitVec 32)) : Nat → List (BitVec 32)
  | 0 => h
  | n + 1 => takeW ⟨((M.drop (64 * n)).take 64).toArray⟩ (stM M h n)
theorem stM_len (M : List UInt8) {h : List (BitVec 32)} (h8 : h.length = 8) : ∀ n, (stM M h n).length = 8
  | 0 => h8
  | n + 1 => takeW_len _ (stM_len M h8 n)
theorem ext_nm (s : ByteArray) (a b : Nat) : s.extract a b = ⟨((s.data.toList.drop a).take (b - a)).toArray⟩ := by
  apply ByteArray.ext
  apply Array.toList_inj.1
  simp [List.extract_eq_take_drop]
theorem stM_head (A B : List UInt8) (s : ByteArray) (h : List (BitVec 32)) (k : Nat) (hA : A = s.data.toList.take (64 * k)) (hk : 64 * k ≤ s.size) : ∀ n, n ≤ k → stM (A ++ B) h n = stN s h n
  | 0, _ => rfl
  | n + 1, hn => by
    have hsl : s.data.toList.length = s.size := by rw [Array.length_toList]; rfl
    have hAl : A.length = 64 * k := by rw [hA, List.length_take, hsl]; omega
    rw [stM, stN, stM_head A B s h k hA hk n (by omega)]
    congr 1
    rw [ext_nm]
    congr 2
    rw [List.drop_append_of_le_length (by omega), List.take_append_of_le_length (by rw [List.length_drop]; omega), hA, List.drop_take, List.take_take]
    congr 1
    omega
theorem stM_tail (A : List UInt8) (t : ByteArray) (h : List (BitVec 32)) (k : Nat) (hA : A.length = 64 * k) : ∀ n, 64 * n ≤ t.size → stM (A ++ t.data.toList) h (k + n) = stN t (stM (A ++ t.data.toList) h k) n
  | 0, _ => rfl
  | n + 1, hn => by
    have ih := stM_tail A t h k hA n (by omega)
    rw [show k + (n + 1) = (k + n) + 1 by omega, stM, stN, ih]
    congr 1
    rw [ext_nm]
    congr 2
    rw [show 64 * (k + n) = A.length + 64 * n by rw [hA]; omega, ← List.drop_drop, List.drop_left]
    congr 1
    omega
/-- The digest, along the message. -/
theorem sha_along (s : ByteArray) (z : Nat) (hz : z < 64) (h : (s.size + 1 + z) % 64 = 56) : (padL s z).length % 64 = 0 ∧ digB (stM (padL s z) h0 ((padL s z).length / 64)) = shaS s := by
  obtain ⟨h1, h2⟩ := padL_split s z hz h
  have hsl : s.data.toList.length = s.size := by rw [Array.length_toList]; rfl
  have hAl : (s.data.toList.take (64 * (s.size / 64))).length = 64 * (s.size / 64) := by rw [List.length_take, hsl]; omega
  have hll : (lastS s).data.toList.length = (lastS s).size := by rw [Array.length_toList]; rfl
  have hlen : (padL s z).length = 64 * (s.size / 64) + (lastS s).size := by rw [h1, List.length_append, hAl, hll]
  have hd : (padL s z).length / 64 = s.size / 64 + (lastS s).size / 64 := by rw [hlen]; omega
  refine ⟨by rw [hlen]; omega, ?_⟩
  rw [hd, h1, stM_tail _ (lastS s) h0 (s.size / 64) hAl ((lastS s).size / 64) (by omega), stM_head _ _ s h0 (s.size / 64) rfl (by omega) (s.size / 64) (Nat.le_refl _)]
  rfl
end Go.Proofs.YtgcdfoadegojcaaDoor
