/- What the package seam does: alike, Common. -/
import Derived.Test.YtkmpcncehicpmaaSmC
import Derived.Test.YtkmpcncehicpmaaOp2
namespace Go.Proofs.Ytkmpcncehicpmaa
open Go.RowKit
set_option linter.unusedVariables false
theorem row_val2 {w : World} {a : Option Addr} {c : Nat} {vs : List Value} {n : Nat} {k : Nat} (h : RowAt w (.slice a n c) vs) (hn : vs.length = n) (hk : k < n) :
    ∃ bb off, a = some ⟨bb, off, none⟩ ∧ w.cell? ⟨bb, off + k, none⟩ = some (vs.getD k undef) ∧ bb < w.heap.size := by
  subst hn
  obtain ⟨a', c', e, h⟩ := h
  injection e with e1 e2 e3
  subst e1
  rcases h with h | ⟨b, off, rfl, hb, hc⟩
  · subst h; simp at hk
  · exact ⟨b, off, rfl, hc k hk, hb⟩
def alB (ls : List (List Int)) (n : Nat) : Bool := ls.all fun l => l.getD (n - 1) 0 == (ls.getD 0 []).getD (n - 1) 0
def dnC (ls : List (List Int)) : Nat → Nat
  | 0 => 0
  | m + 1 => if alB ls (m + 1) = true then m + 1 else dnC ls m
def minL (ls : List (List Int)) (k : Nat) : Nat := (ls.take k).foldl (fun m l => min m l.length) (ls.getD 0 []).length
def cmN (ls : List (List Int)) : Nat := if ls.length = 0 then 0 else dnC ls (minL ls ls.length)
theorem minL_step (ls : List (List Int)) (k : Nat) (hk : k < ls.length) : minL ls (k + 1) = min (minL ls k) (ls.getD k []).length := by
  unfold minL
  rw [List.take_succ_eq_append_getElem hk, List.foldl_append]
  simp [List.getD, List.getElem?_eq_getElem hk]
theorem minL_le (ls : List (List Int)) : ∀ (k j : Nat), j < k → k ≤ ls.length → minL ls k ≤ (ls.getD j []).length
  | 0, j, h, _ => by omega
  | k + 1, j, h, hk => by
    rw [minL_step ls k (by omega)]
    by_cases e : j = k
    · subst e; omega
    · have := minL_le ls k j (by omega) (by omega); omega
theorem al_stop {ls : List (List Int)} {n k : Nat} (hk : k < ls.length) (h : (ls.getD k []).getD (n - 1) 0 ≠ (ls.getD 0 []).getD (n - 1) 0) : alB ls n = false := by
  rw [Bool.eq_false_iff]
  intro ha
  unfold alB at ha
  rw [List.all_eq_true] at ha
  have := ha (ls.getD k []) (by rw [List.getD, List.getElem?_eq_getElem hk]; exact List.getElem_mem hk)
  rw [beq_iff_eq] at this
  exact h this
theorem al_all {ls : List (List Int)} {n : Nat} (h : ∀ k, k < ls.length → (ls.getD k []).getD (n - 1) 0 = (ls.getD 0 []).getD (n - 1) 0) : alB ls n = true := by
  unfold alB
  rw [List.all_eq_true]
  intro l hl
  obtain ⟨k, hk, rfl⟩ := List.getElem_of_mem hl
  have := h k hk
  have e : ls.getD k [] = ls[k] := by simp [List.getD, List.getElem?_eq_getElem hk]
  rw [e] at this
  rw [beq_iff_eq]
  exact this
/-- The value of a list of lists, row by row. -/
theorem rows_at {w : World} {v : Value} {ls : List (List Int)} (h : Rows2 .i64 w v ls) {k : Nat} (hk : k < ls.length) :
    ∃ bb off c ra rc, v = .slice (some ⟨bb, off, none⟩) ls.length c ∧ w.cell? ⟨bb, off + k, none⟩ = some (.slice ra (ls.getD k []).length rc) ∧ RowAt w (.slice ra (ls.getD k []).length rc) ((ls.getD k []).map (Value.int .i64)) := by
  obtain ⟨vs, h1, h2, h3⟩ := h
  obtain ⟨a, c, rfl⟩ := h1.len
  rw [h2] at h1 ⊢
  obtain ⟨bb, off, rfl, hcell, _⟩ := row_val2 h1 h2 hk
  have h4 := h3 k hk
  obtain ⟨ra, rc, hr⟩ := h4.len
  rw [List.length_map] at hr
  rw [hr] at hcell h4
  exact ⟨bb, off, c, ra, rc, rfl, hcell, h4⟩
set_option maxRecDepth 100000 in
set_option maxHeartbeats 1000000 in
theorem alike_any (n : Nat) (v : Value) (ls : List (List Int)) (w : World) (hr : Rows2 .i64 w v ls) (hl : ls.length ≤ maxLen) (hn : 1 ≤ n) (hall : ∀ k, k < ls.length → n ≤ (ls.getD k []).length) (hn2 : n ≤ 1000000) :
    Calls Try.prog 116 #[.int .i64 (n : Nat), v] w fun e w' => e = .returned (.bool (alB ls n)) ∧ w.grownBy w' none := by
  have hform : ∃ a c, v = .slice a ls.length c := by
    obtain ⟨vs, h1, h2, h3⟩ := hr
    obtain ⟨a, c, rfl⟩ := h1.len
    exact ⟨a, c, by rw [h2]⟩
  obtain ⟨a, c, rfl⟩ := hform
  have hl63 : (ls.length : Int) ≤ 9223372036854775807 := by unfold maxLen at hl; omega
  have HA := Lib.hid hall
  obtain ⟨m, rfl⟩ : ∃ m, n = m + 1 := ⟨n - 1, by omega⟩
  have hm : (m : Int) ≤ 1000000 := by omega
  have hm0 : (0 : Int) ≤ m := by omega
  have ec : ((m + 1 : Nat) : Int) = (m : Int) + 1 := by omega
  rw [ec]
  clear hl hall hn hn2 ec
  go_enter Try.func116, Try.ntmps116
  go_wp2
  go_loopw [9] (fun i wr => ∃ k : Nat, i = .int .i64 k ∧ k ≤ ls.length ∧ (∀ j, j < k → (ls.getD j []).getD m 0 = (ls.getD 0 []).getD m 0) ∧ w.grownBy wr none) (fun i _ => ls.length - (intOf i).toNat)
  case atStart => exact ⟨0, rfl, Nat.zero_le _, fun j hj => by omega, grow_refl _ _⟩
  case round =>
    obtain ⟨k, rfl, hk, hsame, hg⟩ := hrel
    have HS := Lib.hid hsame
    clear hsame
    by_cases hlt : k < ls.length
    · obtain ⟨bb, off, c', ra, rc, e, hcell, hrow⟩ := rows_at (hr.kept hg) hlt
      injection e with e1 _ e3
      subst e1 e3
      obtain ⟨bb', off', c'', ra0, rc0, e, hcell0, hrow0⟩ := rows_at (hr.kept hg) (show 0 < ls.length by omega)
      injection e with e1 _ e3
      injection e1 with e1
      injection e1 with e1 e2
      subst e1 e2 e3
      rw [Nat.add_zero] at hcell0
      have hk1 := HA.out k hlt
      have hk0 := HA.out 0 (by omega)
      obtain ⟨b1, o1, rfl, hc1, _⟩ := row_int hrow rfl (show m < (ls.getD k []).length by omega)
      obtain ⟨b0, o0, rfl, hc0, _⟩ := row_int hrow0 rfl (show m < (ls.getD 0 []).length by omega)
      obtain ⟨L1, hL1⟩ : ∃ x, x = (ls.getD k []).length := ⟨_, rfl⟩
      obtain ⟨L0, hL0⟩ : ∃ x, x = (ls.getD 0 []).length := ⟨_, rfl⟩
      obtain ⟨s1, hs1⟩ : ∃ x, x = (ls.getD k []).getD m 0 := ⟨_, rfl⟩
      obtain ⟨s0, hs0⟩ : ∃ x, x = (ls.getD 0 []).getD m 0 := ⟨_, rfl⟩
      rw [← hs1] at hc1
      rw [← hs0] at hc0
      rw [← hL1] at hcell hk1
      rw [← hL0] at hcell0 hk0
      have i1 : (m : Int) < L1 := by omega
      have i0 : (m : Int) < L0 := by omega
      have H1 := Lib.hid hs1
      have H0 := Lib.hid hs0
      have hpos : 0 < ls.length := by omega
      clear hs1 hs0 hL1 hL0 hrow hrow0
      by_cases h : s1 = s0
      · have hb : (s1 != s0) = false := by rw [h]; simp
        have HH := Lib.hid h
        clear h
        go_wp2
        go_quiet (fail)
        go_wp2
        go_roundw
        case rel => exact ⟨k + 1, by go_num, by omega, fun j hj => by
          by_cases e : j = k
          · subst e; rw [← H1.out, ← H0.out]; exact HH.out
          · exact HS.out j (by omega), grow_drawnN _ hg⟩
        case measure => simp [intOf]; omega
      · have hb : (s1 != s0) = true := by rw [bne_iff_ne]; exact h
        have HE : Hid (alB ls (m + 1) = false) := al_stop hlt (by rw [Nat.add_sub_cancel, ← H1.out, ← H0.out]; exact h)
        clear h
        go_wp2
        go_quiet (fail)
        go_wp2
        go_ret
        exact ⟨by rw [HE.out]; rfl, grow_drawnN _ hg⟩
    · obtain rfl : k = ls.length := by omega
      have HE : Hid (alB ls (m + 1) = true) := al_all fun j hj => by rw [Nat.add_sub_cancel]; exact HS.out j hj
      go_wp2
      refine bodyPost_ret (v := .bool true) ?_ ?_ ?_
      · simp [results, go_sem]
      · rfl
      · exact ⟨by rw [HE.out], hg⟩
set_option maxRecDepth 100000 in
set_option maxHeartbeats 1000000 in
theorem Common_any (v : Value) (ls : List (List Int)) (w : World) (hr : Rows2 .i64 w v ls) (hl : ls.length ≤ maxLen) (hs : ∀ l ∈ ls, l.length ≤ 1000000) :
    Calls Try.prog 77 #[v] w fun e w' => e = .returned (.int .i64 (cmN ls : Nat)) ∧ w.grownBy w' none := by
  have hform : ∃ a c, v = .slice a ls.length c := by
    obtain ⟨vs, h1, h2, h3⟩ := hr
    obtain ⟨a, c, rfl⟩ := h1.len
    exact ⟨a, c, by rw [h2]⟩
  obtain ⟨a, c, rfl⟩ := hform
  have hl63 : (ls.length : Int) ≤ 9223372036854775807 := by unfold maxLen at hl; omega
  have HS : Hid (∀ k, k < ls.length → (ls.getD k []).length ≤ 1000000) := fun k hk => hs _ (by rw [List.getD, List.getElem?_eq_getElem hk]; exact List.getElem_mem hk)
  have HL := Lib.hid hl
  clear hl hs
  by_cases h0 : ls.length = 0
  · have hz : ((ls.length : Int) == 0) = true := by rw [beq_iff_eq]; omega
    have HE : Hid (cmN ls = 0) := by show _ = _; unfold cmN; rw [if_pos h0]
    have H0 := Lib.hid h0
    clear h0
    go_enter Try.func77, Try.ntmps77
    go_wp2
    go_ret
    exact ⟨by rw [HE.out]; rfl, grow_refl _ _⟩
  · have hz : ((ls.length : Int) == 0) = false := by rw [beq_eq_false_iff_ne]; omega
    have hpos : 0 < ls.length := by omega
    obtain ⟨bb, off, c', ra0, rc0, e, hcell0, hrow0⟩ := rows_at hr hpos
    injection e with e1 _ e3
    subst e1 e3
    rw [Nat.add_zero] at hcell0
    have hL0 := HS.out 0 hpos
    have hL0i : ((ls.getD 0 []).length : Int) ≤ 1000000 := by omega
    have HE : Hid (cmN ls = dnC ls (minL ls ls.length)) := by show _ = _; unfold cmN; rw [if_neg h0]
    have hstart : Hid (minL ls 0 = (ls.getD 0 []).length) := rfl
    clear h0
    obtain ⟨L0, hL0e⟩ : ∃ x, x = (ls.getD 0 []).length := ⟨_, rfl⟩
    rw [← hL0e] at hcell0 hL0 hL0i hstart hrow0
    clear hL0e
    go_enter Try.func77, Try.ntmps77
    go_wp2
    go_loop [15, 3] (fun i n => ∃ k m : Nat, i = .int .i64 k ∧ n = .int .i64 m ∧ k ≤ ls.length ∧ m = minL ls k ∧ m ≤ 1000000) (fun i _ => ls.length - (intOf i).toNat)
    case atStart => exact ⟨0, L0, rfl, rfl, Nat.zero_le _, hstart.out.symm, hL0⟩
    case round =>
      obtain ⟨k, m, rfl, rfl, hk, hm, hm2⟩ := hrel
      have HM := Lib.hid hm
      have hm3 : (m : Int) ≤ 1000000 := by omega
      clear hm
      by_cases hlt : k < ls.length
      · obtain ⟨bb', off', c'', ra, rc, e, hcell, hrow⟩ := rows_at hr hlt
        injection e with e1 _ e3
        injection e1 with e1
        injection e1 with e1 e2
        subst e1 e2 e3
        have hst := minL_step ls k hlt
        obtain ⟨L, hLe⟩ : ∃ x, x = (ls.getD k []).length := ⟨_, rfl⟩
        rw [← hLe] at hcell hst
        have HST := Lib.hid hst
        clear hst hLe hrow
        by_cases hmin : m ≤ L
        · have hmi : (m : Int) ≤ L := by omega
          go_wp2
          all_goals
            go_round
            case rel => exact ⟨k + 1, m, by go_num, by go_num, by omega, by rw [HST.out, ← HM.out]; omega, hm2⟩
            case measure => simp [intOf]; omega
        · have hmi : (L : Int) < m := by omega
          go_wp2
          all_goals
            go_round
            case rel => exact ⟨k + 1, L, by go_num, by go_num, by omega, by rw [HST.out, ← HM.out]; omega, by omega⟩
            case measure => simp [intOf]; omega
      · obtain rfl : k = ls.length := by omega
        go_wp2
        go_loopw [3] (fun n wr => ∃ j : Nat, n = .int .i64 j ∧ j ≤ m ∧ dnC ls j = dnC ls m ∧ w.grownBy wr none) (fun n _ => (intOf n).toNat)
        case atStart => exact ⟨m, rfl, Nat.le_refl _, rfl, grow_refl _ _⟩
        case round =>
          obtain ⟨j, rfl, hj, hd, hg⟩ := hrel
          have HD := Lib.hid hd
          clear hd
          rcases j with _ | j
          · have hzz : decide ((0 : Int) < ((0 : Nat) : Int)) = false := by simp
            have HF : Hid (cmN ls = 0) := by show _ = _; rw [HE.out, ← HM.out, ← HD.out]; rfl
            go_wp2
            go_ret
            exact ⟨by rw [HF.out]; rfl, hg⟩
          · have hzz : decide ((0 : Int) < ((j + 1 : Nat) : Int)) = true := decide_eq_true (by omega)
            have hall : ∀ k, k < ls.length → j + 1 ≤ (ls.getD k []).length := fun k hk => by
              have := minL_le ls ls.length k hk (Nat.le_refl _)
              rw [← HM.out] at this
              omega
            have HALL := Lib.hid hall
            clear hall
            cases hal : alB ls (j + 1) with
            | true =>
              have HF : Hid (cmN ls = j + 1) := by show _ = _; rw [HE.out, ← HM.out, ← HD.out, dnC, if_pos hal]
              have HA := Lib.hid hal
              clear hal
              go_wp2_with fail
              refine (alike_any (j + 1) _ ls _ (hr.kept hg) HL.out (by omega) HALL.out (by omega)).mono ?_
              rintro e w2 ⟨rfl, g2⟩
              rw [HA.out]
              go_wp2
              go_ret
              exact ⟨by rw [HF.out]; rfl, grow_none hg g2⟩
            | false =>
              have HF : Hid (dnC ls j = dnC ls m) := by show _ = _; rw [← HD.out, dnC, if_neg (by rw [hal]; simp)]
              have HA := Lib.hid hal
              clear hal
              go_wp2_with fail
              refine (alike_any (j + 1) _ ls _ (hr.kept hg) HL.out (by omega) HALL.out (by omega)).mono ?_
              rintro e w2 ⟨rfl, g2⟩
              rw [HA.out]
              go_wp2
              go_roundw
              case rel => exact ⟨j, by go_num, by omega, HF.out, grow_none hg g2⟩
              case measure => simp [intOf]
end Go.Proofs.Ytkmpcncehicpmaa
