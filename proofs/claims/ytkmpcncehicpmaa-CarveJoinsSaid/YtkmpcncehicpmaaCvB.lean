/- What the package carve does, and what the document's answers are: Fits, many. -/
import Derived.Test.YtkmpcncehicpmaaCvA
namespace Go.Proofs.Ytkmpcncehicpmaa
open Go.RowKit
set_option linter.unusedVariables false
/-- The part number k of n may be. -/
def fitOk (n k : Nat) (z : Nat) : Bool := decide (1 ≤ z) && (decide (z ≤ 64) && (decide (k + 1 = n) || decide (64 ≤ z)))
def fitsTo (l : List ByteArray) (k : Nat) : Prop := ∀ j, j < k → fitOk l.length j (l.getD j ⟨#[]⟩).size = true
def fitsB (l : List ByteArray) : Bool := (List.range l.length).all fun j => fitOk l.length j (l.getD j ⟨#[]⟩).size
theorem fits_yes {l : List ByteArray} (h : fitsTo l l.length) : fitsB l = true := by
  unfold fitsB
  rw [List.all_eq_true]
  intro j hj
  exact h j (List.mem_range.1 hj)
theorem fits_no {l : List ByteArray} {k : Nat} (hk : k < l.length) (h : fitOk l.length k (l.getD k ⟨#[]⟩).size = false) : fitsB l = false := by
  rw [Bool.eq_false_iff]
  intro e
  unfold fitsB at e
  rw [List.all_eq_true] at e
  have := e k (List.mem_range.2 hk)
  rw [h] at this; cases this
theorem fits_step {l : List ByteArray} {k : Nat} (h : fitsTo l k) (h1 : fitOk l.length k (l.getD k ⟨#[]⟩).size = true) : fitsTo l (k + 1) := by
  intro j hj
  by_cases e : j = k
  · subst e; exact h1
  · exact h j (by omega)
theorem empty_size {s : ByteArray} (h : s.size = 0) : s = ⟨#[]⟩ := by
  apply ByteArray.ext
  apply Array.eq_empty_of_size_eq_zero
  exact h
theorem isEmpty_no {s : ByteArray} (h : 1 ≤ s.size) : s.toList.isEmpty = false := by
  rw [ByteArray.toList_eq]
  cases hs : s.data.toList with
  | nil =>
    have : s.data.toList.length = 0 := by rw [hs]; rfl
    rw [Array.length_toList] at this
    have e : s.data.size = s.size := rfl
    omega
  | cons a l => rfl
set_option maxRecDepth 100000 in
set_option maxHeartbeats 1000000 in
theorem Fits_any (v : Value) (l : List ByteArray) (w : World) (hr : RowAt w v (l.map Value.string)) (hl : l.length ≤ maxLen) (hs : ∀ s ∈ l, s.size ≤ maxLen) :
    Calls Try.prog 63 #[v] w fun e w' => e = .returned (.bool (fitsB l)) ∧ w = w' := by
  obtain ⟨p, c, rfl⟩ := row_form hr
  have il : (l.length : Int) ≤ 9223372036854775807 := by unfold maxLen at hl; omega
  have HS := Lib.hid hs
  clear hl hs
  go_enter Try.func63, Try.ntmps63
  go_wp2
  go_loop [8] (fun i => ∃ k : Nat, i = .int .i64 k ∧ k ≤ l.length ∧ fitsTo l k) (fun i => l.length - (intOf i).toNat)
  case atStart => exact ⟨0, rfl, Nat.zero_le _, fun j hj => by omega⟩
  case round =>
    obtain ⟨k, rfl, hk, hf⟩ := hrel
    have HF := Lib.hid hf
    clear hf
    by_cases hlt : k < l.length
    · obtain ⟨b1, o1, rfl, c1, _⟩ := row_string hr rfl hlt
      have hsz := HS.out (l.getD k ⟨#[]⟩) (by rw [List.getD, List.getElem?_eq_getElem hlt]; exact List.getElem_mem hlt)
      obtain ⟨x, hx⟩ : ∃ x, x = l.getD k ⟨#[]⟩ := ⟨_, rfl⟩
      rw [← hx] at c1 hsz
      have hszi : (x.size : Int) ≤ 9223372036854775807 := by unfold maxLen at hsz; omega
      have HX := Lib.hid hx
      have hki : (k : Int) < l.length := by omega
      clear hx hsz
      by_cases h0 : x.size = 0
      · have HE : Hid (fitsB l = false) := fits_no hlt (by rw [← HX.out, h0]; rfl)
        obtain rfl := empty_size h0
        clear h0
        go_wp2
        go_ret
        exact ⟨by rw [HE.out]; rfl, rfl⟩
      · have h1 : 1 ≤ x.size := by omega
        have he := isEmpty_no h1
        by_cases h2 : 64 < x.size
        · have HE : Hid (fitsB l = false) := fits_no hlt (by rw [← HX.out]; unfold fitOk; rw [decide_eq_false (show ¬ x.size ≤ 64 by omega)]; simp)
          have d2 : decide ((64 : Int) < x.size) = true := decide_eq_true (by omega)
          clear h0 h1
          go_wp2
          go_ret
          exact ⟨by rw [HE.out]; rfl, rfl⟩
        · have d2 : decide ((64 : Int) < x.size) = false := decide_eq_false (by omega)
          by_cases h3 : k + 1 = l.length
          · have d3 : ((k : Int) == (l.length : Int) - 1) = true := by rw [beq_iff_eq]; omega
            have HE : Hid (fitsTo l (k + 1)) := fits_step HF.out (by rw [← HX.out]; unfold fitOk; rw [decide_eq_true h1, decide_eq_true (show x.size ≤ 64 by omega), decide_eq_true h3]; rfl)
            clear h0 h1 h3 h2
            go_wp2
            go_round
            case rel => exact ⟨k + 1, by go_num, by omega, HE.out⟩
            case measure => simp [intOf]; omega
          · have d3 : ((k : Int) == (l.length : Int) - 1) = false := by rw [beq_eq_false_iff_ne]; omega
            by_cases h4 : x.size < 64
            · have d4 : decide ((x.size : Int) < 64) = true := decide_eq_true (by omega)
              have HE : Hid (fitsB l = false) := fits_no hlt (by rw [← HX.out]; unfold fitOk; rw [decide_eq_false h3, decide_eq_false (show ¬ 64 ≤ x.size by omega)]; simp)
              clear h0 h1 h3 h2
              go_wp2
              go_ret
              exact ⟨by rw [HE.out]; rfl, rfl⟩
            · have d4 : decide ((x.size : Int) < 64) = false := decide_eq_false (by omega)
              have HE : Hid (fitsTo l (k + 1)) := fits_step HF.out (by rw [← HX.out]; unfold fitOk; rw [decide_eq_true h1, decide_eq_true (show x.size ≤ 64 by omega), decide_eq_true (show 64 ≤ x.size by omega)]; simp)
              clear h0 h1 h3 h2
              go_wp2
              go_round
              case rel => exact ⟨k + 1, by go_num, by omega, HE.out⟩
              case measure => simp [intOf]; omega
    · obtain rfl : k = l.length := by omega
      have HE : Hid (fitsB l = true) := fits_yes HF.out
      go_wp2
      refine bodyPost_ret (v := .bool true) ?_ ?_ ?_
      · simp [results, go_sem]
      · rfl
      · exact ⟨by rw [HE.out], rfl⟩
set_option maxRecDepth 100000 in
set_option maxHeartbeats 1000000 in
theorem refFits_any (v : Value) (l : List ByteArray) (w : World) (hr : RowAt w v (l.map Value.string)) (hl : l.length ≤ maxLen) (hs : ∀ s ∈ l, s.size ≤ maxLen) :
    Calls Try.prog 65 #[v] w fun e w' => e = .returned (.bool (fitsB l)) ∧ w = w' := by
  obtain ⟨p, c, rfl⟩ := row_form hr
  have il : (l.length : Int) ≤ 9223372036854775807 := by unfold maxLen at hl; omega
  have HS := Lib.hid hs
  clear hl hs
  go_enter Try.func65, Try.ntmps65
  go_wp2
  go_loop [3] (fun i => ∃ k : Nat, i = .int .i64 k ∧ k ≤ l.length ∧ fitsTo l k) (fun i => l.length - (intOf i).toNat)
  case atStart => exact ⟨0, rfl, Nat.zero_le _, fun j hj => by omega⟩
  case round =>
    obtain ⟨k, rfl, hk, hf⟩ := hrel
    have HF := Lib.hid hf
    clear hf
    by_cases hlt : k < l.length
    · obtain ⟨b1, o1, rfl, c1, _⟩ := row_string hr rfl hlt
      have hsz := HS.out (l.getD k ⟨#[]⟩) (by rw [List.getD, List.getElem?_eq_getElem hlt]; exact List.getElem_mem hlt)
      obtain ⟨x, hx⟩ : ∃ x, x = l.getD k ⟨#[]⟩ := ⟨_, rfl⟩
      rw [← hx] at c1 hsz
      have hszi : (x.size : Int) ≤ 9223372036854775807 := by unfold maxLen at hsz; omega
      have HX := Lib.hid hx
      have hki : (k : Int) < l.length := by omega
      have hk0 : (0 : Int) ≤ k := by omega
      clear hx hsz
      by_cases h0 : x.size = 0
      · have HE : Hid (fitsB l = false) := fits_no hlt (by rw [← HX.out, h0]; rfl)
        have d1 : decide ((x.size : Int) < 1) = true := decide_eq_true (by omega)
        clear h0
        go_wp2
        go_ret
        exact ⟨by rw [HE.out]; rfl, rfl⟩
      · have h1 : 1 ≤ x.size := by omega
        have d1 : decide ((x.size : Int) < 1) = false := decide_eq_false (by omega)
        by_cases h2 : 64 < x.size
        · have HE : Hid (fitsB l = false) := fits_no hlt (by rw [← HX.out]; unfold fitOk; rw [decide_eq_false (show ¬ x.size ≤ 64 by omega)]; simp)
          have d2 : decide ((64 : Int) < x.size) = true := decide_eq_true (by omega)
          clear h0 h1
          go_wp2
          go_ret
          exact ⟨by rw [HE.out]; rfl, rfl⟩
        · have d2 : decide ((64 : Int) < x.size) = false := decide_eq_false (by omega)
          by_cases h3 : k + 1 = l.length
          · have d3 : decide ((k : Int) < (l.length : Int) - 1) = false := decide_eq_false (by omega)
            have HE : Hid (fitsTo l (k + 1)) := fits_step HF.out (by rw [← HX.out]; unfold fitOk; rw [decide_eq_true h1, decide_eq_true (show x.size ≤ 64 by omega), decide_eq_true h3]; rfl)
            clear h0 h1 h3 h2
            go_wp2
            go_round
            case rel => exact ⟨k + 1, by go_num, by omega, HE.out⟩
            case measure => simp [intOf]; omega
          · have d3 : decide ((k : Int) < (l.length : Int) - 1) = true := decide_eq_true (by omega)
            by_cases h4 : x.size < 64
            · have d4 : decide ((x.size : Int) < 64) = true := decide_eq_true (by omega)
              have HE : Hid (fitsB l = false) := fits_no hlt (by rw [← HX.out]; unfold fitOk; rw [decide_eq_false h3, decide_eq_false (show ¬ 64 ≤ x.size by omega)]; simp)
              clear h0 h1 h3 h2
              go_wp2
              go_ret
              exact ⟨by rw [HE.out]; rfl, rfl⟩
            · have d4 : decide ((x.size : Int) < 64) = false := decide_eq_false (by omega)
              have HE : Hid (fitsTo l (k + 1)) := fits_step HF.out (by rw [← HX.out]; unfold fitOk; rw [decide_eq_true h1, decide_eq_true (show x.size ≤ 64 by omega), decide_eq_true (show 64 ≤ x.size by omega)]; simp)
              clear h0 h1 h3 h2
              go_wp2
              go_round
              case rel => exact ⟨k + 1, by go_num, by omega, HE.out⟩
              case measure => simp [intOf]; omega
    · obtain rfl : k = l.length := by omega
      have HE : Hid (fitsB l = true) := fits_yes HF.out
      go_wp2
      refine bodyPost_ret (v := .bool true) ?_ ?_ ?_
      · simp [results, go_sem]
      · rfl
      · exact ⟨by rw [HE.out], rfl⟩
end Go.Proofs.Ytkmpcncehicpmaa
