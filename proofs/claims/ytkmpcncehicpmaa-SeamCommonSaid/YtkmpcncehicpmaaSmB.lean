/- What the package seam does, and what the document's answers are: Hint, Next. -/
import Derived.Test.YtkmpcncehicpmaaSmA
namespace Go.Proofs.Ytkmpcncehicpmaa
open Go.RowKit
set_option linter.unusedVariables false
set_option maxRecDepth 100000 in
theorem Next_any (v : Value) (l : List Int) (hn he : Int) (w : World) (hr : RowAt w v (l.map (Value.int .i64))) (hl : l.length ≤ maxLen) (hb : -9223372036854775808 ≤ hn ∧ hn ≤ 9223372036854775807) :
    Calls Try.prog 81 #[v, .agg #[.int .i64 hn, .int .i64 he]] w fun e w' => e = .returned (.int .i64 (nextN l hn he : Nat)) ∧ w.grownBy w' none := by
  have r1 := hr.kept (World.grownBy_alloc w (.cells #[.int .i64 hn, .int .i64 he] 108) none)
  have H := Lib.hid hl
  have HB := Lib.hid hb
  clear hl hb
  go_enter Try.func81, Try.ntmps81
  go_wp2_with fail
  refine (upTo_any v l hn he _ r1 H.out HB.out).mono ?_
  rintro e w1 ⟨rfl, rfl⟩
  go_wp2
  go_ret
  exact ⟨rfl, World.grownBy_alloc _ _ _⟩
set_option maxRecDepth 100000 in
theorem Hint_any (v : Value) (l : List Int) (after since : Int) (w : World) (hr : RowAt w v (l.map (Value.int .i64))) (hl : l.length ≤ maxLen) (hb : -9223372036854775808 ≤ after ∧ after ≤ 9223372036854775807) :
    Calls Try.prog 79 #[v, .int .i64 after, .int .i64 since] w fun e w' => e = .returned (.agg #[.int .i64 (hintN l after since : Nat), .int .i64 (hintE l after since)]) ∧ w.grownBy w' none := by
  have G1 := World.grownBy_alloc w (.cells #[.int .i64 0, .int .i64 0] 108) none
  have r1 := hr.kept G1
  have H := Lib.hid hl
  obtain ⟨hb1, hb2⟩ := hb
  by_cases h1 : after < 1
  · have h1' : decide (after < 1) = true := by simpa using h1
    have e1 : hintN l after since = 0 := by
      unfold hintN cutN
      rw [show (after - 1).toNat = 0 by omega, Nat.zero_min]; rfl
    have e2 : hintE l after since = 0 := by unfold hintE; rw [if_pos e1]
    have E1 := Lib.hid e1
    have E2 := Lib.hid e2
    clear e1 e2 hl
    go_enter Try.func79, Try.ntmps79
    go_wp2
    refine bodyPost_ret (v := .agg #[.int .i64 0, .int .i64 0]) (by simp [results, Try.results79, go_sem]) rfl ⟨by rw [E1.out, E2.out]; rfl, ?_⟩
    exact World.grownBy_alloc _ _ _
  · have h1' : decide (after < 1) = false := by simpa using h1
    have ha : 1 ≤ after := by omega
    clear hl
    cases hN : hintN l after since with
    | zero =>
      have e2 : hintE l after since = 0 := by unfold hintE; rw [if_pos hN]
      have E1 := Lib.hid hN
      have E2 := Lib.hid e2
      clear hN e2
      go_enter Try.func79, Try.ntmps79
      go_wp2_with fail
      refine (upTo_any v l (after - 1) since _ r1 H.out ⟨by omega, by omega⟩).mono ?_
      rintro e w1 ⟨rfl, rfl⟩
      rw [show dn l since (cutN (after - 1) l.length) = 0 from E1.out]
      go_wp2
      refine bodyPost_ret (v := .agg #[.int .i64 0, .int .i64 0]) (by simp [results, Try.results79, go_sem]) rfl ⟨by rw [E2.out]; rfl, ?_⟩
      exact World.grownBy_alloc _ _ _
    | succ m =>
      have hm : m + 1 ≤ l.length := by
        have := dn_le l since (cutN (after - 1) l.length)
        unfold hintN at hN
        rw [hN] at this
        unfold cutN at this
        omega
      have e2 : hintE l after since = l.getD m 0 := by unfold hintE; rw [if_neg (by omega), hN]; rfl
      obtain ⟨a, c, rfl⟩ := hr.len
      rw [List.length_map] at hr r1 ⊢
      obtain ⟨bb, off, rfl, hcell, hbb⟩ := row_int r1 rfl (show m < l.length by omega)
      have hz : (((m + 1 : Nat) : Int) == 0) = false := by rw [beq_eq_false_iff_ne]; omega
      have hm0 : (0 : Int) ≤ m := by omega
      have hm1 : (m : Int) < l.length := by omega
      have hmx : (l.length : Int) ≤ 9223372036854775807 := by have := H.out; unfold maxLen at this; omega
      obtain ⟨s, hs⟩ : ∃ s, s = l.getD m 0 := ⟨_, rfl⟩
      rw [← hs] at hcell e2
      have E1 := Lib.hid hN
      have E2 := Lib.hid e2
      clear hN e2 hs hr
      go_enter Try.func79, Try.ntmps79
      go_wp2_with fail
      refine (upTo_any _ l (after - 1) since _ r1 H.out ⟨by omega, by omega⟩).mono ?_
      rintro e w1 ⟨rfl, rfl⟩
      rw [show dn l since (cutN (after - 1) l.length) = m + 1 from E1.out]
      go_wp2
      refine bodyPost_ret (v := .agg #[.int .i64 ((m + 1 : Nat) : Int), .int .i64 s]) (by simp [results, Try.results79, go_sem]) rfl ⟨by rw [E2.out], ?_⟩
      exact World.grownBy_alloc _ _ _
end Go.Proofs.Ytkmpcncehicpmaa
