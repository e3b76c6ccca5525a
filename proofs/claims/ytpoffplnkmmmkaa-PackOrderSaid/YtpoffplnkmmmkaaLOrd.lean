/- The law PackOrder: its walk. -/
import Derived.Test.YtpoffplnkmmmkaaPkL
namespace Go.Proofs.Ytpoffplnkmmmkaa
open Go.RowKit
set_option linter.unusedVariables false
theorem uvarint_mono : ∀ (x y : Nat), x ≤ y → (Lib.uvarint x).length ≤ (Lib.uvarint y).length := by
  intro x
  induction x using Nat.strongRecOn with
  | _ x ih =>
    intro y h
    by_cases hx : x < 128
    · rw [Lib.uvarint_small hx]; exact Lib.uvarint_pos y
    · rw [Lib.uvarint_big (x := x) (by omega), Lib.uvarint_big (x := y) (by omega)]
      have := ih (x / 128) (by omega) (y / 128) (Nat.div_le_div_right h)
      simp only [List.length_cons]; omega
theorem numB_mono {x y : Int} (h0 : 0 ≤ x) (h : x ≤ y) : (numB x).length ≤ (numB y).length := by
  refine uvarint_mono _ _ ?_
  unfold Lib.zigzag
  rw [if_pos h0, if_pos (by omega)]
  omega
theorem numsB_one (n : Int) : numsB [n] = numB n := by simp [numsB]
/-- What the walk wants of two numbers in their order. -/
theorem ord_facts {x y : Int} (h0 : 0 ≤ x) (h : x ≤ y) (hy : y ≤ 9223372036854775807) : ((numB x).length : Int) ≤ (numB y).length ∧ (1 : Int) ≤ (numB x).length ∧ ((numB y).length : Int) ≤ 10 := by
  have := numB_mono h0 h
  have := numB_pos x
  have := numB_len (n := y) (by omega)
  omega
theorem len_fact {x : Int} (h : -9223372036854775808 ≤ x ∧ x ≤ 9223372036854775807) : ((numB x).length : Int) ≤ 10 ∧ (1 : Int) ≤ (numB x).length := by
  have := numB_len h
  have := numB_pos x
  omega
theorem one_bd {x : Int} (h : -9223372036854775808 ≤ x ∧ x ≤ 9223372036854775807) : ∀ n ∈ [x], -9223372036854775808 ≤ n ∧ n ≤ 9223372036854775807 := by
  intro n hn; simp at hn; subst hn; exact h
set_option maxRecDepth 100000 in
set_option maxHeartbeats 1000000 in
theorem law_PackOrder (a : Int) (ha : -9223372036854775808 ≤ a ∧ a ≤ 9223372036854775807) (b : Int) (hb : -9223372036854775808 ≤ b ∧ b ≤ 9223372036854775807) (w : World) :
    Calls Try.prog 9 #[.int .i64 a, .int .i64 b] w fun e w' => e = .returned (.bool true) ∧ Below w.heap.size w w' := by
  go_enter Try.func9, Try.ntmps9
  go_wp2_with fail
  all_goals
    refine (Nums_any _ [_] _ (RowAt.lit _ [i64v _] _ _ _ rfl) (one_bd (by omega)) (by simp)).mono ?_
    rintro e w1 ⟨rfl, g1⟩
    have G1 := grow_alloc _ _ g1
    clear g1
    rw [numsB_one]
    go_wp2_with fail
  all_goals
    refine (Nums_any _ [_] _ (RowAt.lit _ [i64v _] _ _ _ rfl) (one_bd (by omega)) (by simp)).mono ?_
    rintro e w2 ⟨rfl, g2⟩
    have G2 := grow_none G1 (grow_alloc _ _ g2)
    clear g2 G1
    rw [numsB_one]
    first
      | (have M := ord_facts (x := a) (y := b) (by omega) (by omega) (by omega))
      | (have M := ord_facts (x := b) (y := a) (by omega) (by omega) (by omega))
      | (have M := ord_facts (x := a) (y := -1 - b) (by omega) (by omega) (by omega))
      | (have M := ord_facts (x := -1 - b) (y := a) (by omega) (by omega) (by omega))
      | (have M := ord_facts (x := -1 - a) (y := b) (by omega) (by omega) (by omega))
      | (have M := ord_facts (x := b) (y := -1 - a) (by omega) (by omega) (by omega))
      | (have M := ord_facts (x := -1 - a) (y := -1 - b) (by omega) (by omega) (by omega))
      | (have M := ord_facts (x := -1 - b) (y := -1 - a) (by omega) (by omega) (by omega))
    obtain ⟨M1, M2, M3⟩ := M
    obtain ⟨A1, A2⟩ := len_fact ha
    obtain ⟨A3, A4⟩ := len_fact hb
    obtain ⟨A5, A6⟩ := len_fact (x := -1 - a) (by omega)
    obtain ⟨A7, A8⟩ := len_fact (x := -1 - b) (by omega)
    go_wp2_with fail
    refine (awake_any _).mono ?_
    rintro e w3 ⟨rfl, g3⟩
    have G3 := grow_none G2 g3
    clear g3 G2
    go_wp2
    go_ret
    exact ⟨rfl, below_of_none G3⟩
end Go.Proofs.Ytpoffplnkmmmkaa
