/- Of chunks: what is cut and put together. -/
import Derived.Test.YtkmpcncehicpmaaCvF
namespace Go.Proofs.Ytkmpcncehicpmaa
open Go.RowKit
set_option linter.unusedVariables false
theorem chunks_nil : chunks [] = [] := rfl
theorem chunks_cons (l : List UInt8) (h : l ≠ []) : chunks l = ⟨(l.take 64).toArray⟩ :: chunks (l.drop 64) := by
  have hp : 0 < l.length := (List.length_pos_iff.2 h)
  have e : cntN l.length = cntN (l.drop 64).length + 1 := by rw [List.length_drop]; unfold cntN; omega
  unfold chunks
  rw [e, List.range_succ_eq_map, List.map_cons, List.map_map]
  congr 1
  refine List.map_congr_left fun j _ => ?_
  show chS l (j + 1) = chS (l.drop 64) j
  unfold chS
  rw [List.drop_drop, show 64 * (j + 1) = 64 + 64 * j by omega]
theorem allB_cons (x : ByteArray) (xs : List ByteArray) : allB (x :: xs) = x.data.toList ++ allB xs := by unfold allB; simp
theorem join_cut : ∀ (n : Nat) (l : List UInt8), l.length ≤ n → allB (chunks l) = l
  | 0, l, h => by
    have : l = [] := List.eq_nil_of_length_eq_zero (by omega)
    subst this; rfl
  | n + 1, l, h => by
    by_cases h0 : l = []
    · subst h0; rfl
    · have hp : 0 < l.length := (List.length_pos_iff.2 h0)
      rw [chunks_cons l h0, allB_cons, join_cut n (l.drop 64) (by rw [List.length_drop]; omega)]
      show l.take 64 ++ l.drop 64 = l
      exact List.take_append_drop 64 l
theorem fits_cons (x : ByteArray) (xs : List ByteArray) : fitsB (x :: xs) = (decide (1 ≤ x.size) && (decide (x.size ≤ 64) && (decide (xs.length = 0) || decide (64 ≤ x.size))) && fitsB xs) := by
  unfold fitsB
  rw [List.length_cons, List.range_succ_eq_map, List.all_cons, List.all_map]
  congr 1
  · unfold fitOk
    show (decide (1 ≤ x.size) && (decide (x.size ≤ 64) && (decide (0 + 1 = xs.length + 1) || decide (64 ≤ x.size)))) = _
    rw [show decide (0 + 1 = xs.length + 1) = decide (xs.length = 0) by congr 1; apply propext; omega]
  · congr 1
    funext j
    show fitOk (xs.length + 1) (j + 1) ((x :: xs).getD (j + 1) ⟨#[]⟩).size = fitOk xs.length j (xs.getD j ⟨#[]⟩).size
    have e : (x :: xs).getD (j + 1) ⟨#[]⟩ = xs.getD j ⟨#[]⟩ := by simp [List.getD]
    rw [e]
    unfold fitOk
    rw [show decide (j + 1 + 1 = xs.length + 1) = decide (j + 1 = xs.length) by congr 1; apply propext; omega]
theorem len_data (x : ByteArray) : x.data.toList.length = x.size := by rw [Array.length_toList]; rfl
theorem mk_data (x : ByteArray) : (⟨x.data.toList.toArray⟩ : ByteArray) = x := by apply ByteArray.ext; simp
theorem fits_true : ∀ l : List ByteArray, fitsB l = true ↔ chunks (allB l) = l
  | [] => by
    constructor
    · intro _; rfl
    · intro _; rfl
  | x :: xs => by
    have IH := fits_true xs
    have hl := len_data x
    rw [fits_cons, allB_cons, Bool.and_eq_true, Bool.and_eq_true, Bool.and_eq_true, Bool.or_eq_true, decide_eq_true_eq, decide_eq_true_eq, decide_eq_true_eq, decide_eq_true_eq, IH]
    constructor
    · rintro ⟨⟨h1, h2, h3⟩, h4⟩
      have hne : x.data.toList ++ allB xs ≠ [] := by
        intro e
        have := congrArg List.length e
        rw [List.length_append, List.length_nil] at this
        omega
      rw [chunks_cons _ hne]
      rcases h3 with h3 | h3
      · have : xs = [] := List.eq_nil_of_length_eq_zero h3
        subst this
        rw [show allB [] = [] from rfl, List.append_nil, List.take_of_length_le (by omega), List.drop_of_length_le (by omega), mk_data, chunks_nil]
      · have h64 : x.data.toList.length = 64 := by omega
        rw [List.take_left' h64, List.drop_left' h64, mk_data, h4]
    · intro h
      have hne : x.data.toList ++ allB xs ≠ [] := by
        intro e
        rw [e, chunks_nil] at h
        cases h
      have hpos := (List.length_pos_iff.2 hne)
      rw [chunks_cons _ hne] at h
      injection h with ha hb
      have hs : x.size = min 64 (x.data.toList ++ allB xs).length := by
        rw [← List.length_take]
        have := congrArg ByteArray.size ha
        rw [← this]
        show (List.take 64 (x.data.toList ++ allB xs)).toArray.size = _
        rw [List.size_toArray]
      rw [List.length_append] at hs hpos
      by_cases h64 : x.size = 64
      · have e64 : x.data.toList.length = 64 := by omega
        rw [List.drop_left' e64] at hb
        exact ⟨⟨by omega, by omega, .inr (by omega)⟩, hb⟩
      · have hz : (allB xs).length = 0 := by omega
        have hz' : allB xs = [] := List.eq_nil_of_length_eq_zero hz
        rw [hz', List.append_nil, List.drop_of_length_le (by omega), chunks_nil] at hb
        subst hb
        exact ⟨⟨by omega, by omega, .inl rfl⟩, rfl⟩
theorem fits_eq (l : List ByteArray) : fitsB l = decide (chunks (allB l) = l) := by
  rw [Bool.eq_iff_iff, fits_true, decide_eq_true_eq]
theorem fits_cut (l : List UInt8) : fitsB (chunks l) = true := by
  rw [fits_true, join_cut l.length l (Nat.le_refl _)]
theorem heads_same (h a b : List UInt8) : (chunks (h ++ a)).take (h.length / 64) = (chunks (h ++ b)).take (h.length / 64) := by
  have key : ∀ a : List UInt8, (chunks (h ++ a)).take (h.length / 64) = (List.range (h.length / 64)).map (chS h) := by
    intro a
    unfold chunks
    rw [← List.map_take, List.take_range, Nat.min_eq_left (by rw [List.length_append]; unfold cntN; omega)]
    refine List.map_congr_left fun j hj => ?_
    rw [List.mem_range] at hj
    unfold chS
    rw [List.drop_append_of_le_length (by omega), List.take_append_of_le_length (by rw [List.length_drop]; omega)]
  rw [key a, key b]
theorem heads_len (h a : List UInt8) : h.length / 64 ≤ (chunks (h ++ a)).length := by
  unfold chunks
  rw [List.length_map, List.length_range, List.length_append]
  unfold cntN; omega
end Go.Proofs.Ytkmpcncehicpmaa
