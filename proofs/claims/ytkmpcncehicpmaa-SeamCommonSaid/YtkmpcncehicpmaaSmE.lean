/- The document's answer: Common. -/
import Derived.Test.YtkmpcncehicpmaaSmD
namespace Go.Proofs.Ytkmpcncehicpmaa
open Go.RowKit
set_option linter.unusedVariables false
def okN (ls : List (List Int)) (n i : Nat) : Bool := (ls.take i).all fun l => decide (n ≤ l.length) && (l.getD (n - 1) 0 == (ls.getD 0 []).getD (n - 1) 0)
theorem okN_zero (ls : List (List Int)) (n : Nat) : okN ls n 0 = true := rfl
theorem okN_step (ls : List (List Int)) (n i : Nat) (hi : i < ls.length) : okN ls n (i + 1) = (okN ls n i && (decide (n ≤ (ls.getD i []).length) && ((ls.getD i []).getD (n - 1) 0 == (ls.getD 0 []).getD (n - 1) 0))) := by
  unfold okN
  have e : ls.getD i [] = ls[i] := by simp [List.getD, List.getElem?_eq_getElem hi]
  rw [List.take_succ_eq_append_getElem hi, List.all_append, e]
  simp only [List.all_cons, List.all_nil, Bool.and_true]
def bestC (ls : List (List Int)) (k : Nat) : Nat := dnC ls (min k (minL ls ls.length))
theorem minL_ge (ls : List (List Int)) (n : Nat) (h0 : n ≤ (ls.getD 0 []).length) : ∀ k, k ≤ ls.length → (∀ j, j < k → n ≤ (ls.getD j []).length) → n ≤ minL ls k
  | 0, _, _ => h0
  | k + 1, hk, h => by
    rw [minL_step ls k (by omega)]
    have := minL_ge ls n h0 k (by omega) (fun j hj => h j (by omega))
    have := h k (by omega)
    omega
theorem okN_iff (ls : List (List Int)) (n : Nat) (hpos : 0 < ls.length) : okN ls n ls.length = (decide (n ≤ minL ls ls.length) && alB ls n) := by
  rw [Bool.eq_iff_iff]
  simp only [Bool.and_eq_true, decide_eq_true_eq]
  unfold okN
  rw [List.take_length, List.all_eq_true]
  have hg : ∀ k, ∀ hk : k < ls.length, ls.getD k [] = ls[k] := fun k hk => by simp [List.getD, List.getElem?_eq_getElem hk]
  constructor
  · intro h
    have h1 : ∀ k, k < ls.length → n ≤ (ls.getD k []).length ∧ (ls.getD k []).getD (n - 1) 0 = (ls.getD 0 []).getD (n - 1) 0 := fun k hk => by
      have := h _ (List.getElem_mem hk)
      simp only [Bool.and_eq_true, decide_eq_true_eq, beq_iff_eq] at this
      rw [hg k hk]; exact this
    exact ⟨minL_ge ls n (h1 0 hpos).1 _ (Nat.le_refl _) fun j hj => (h1 j hj).1, al_all fun k hk => (h1 k hk).2⟩
  · rintro ⟨h1, h2⟩ l hl
    obtain ⟨k, hk, rfl⟩ := List.getElem_of_mem hl
    have h3 := minL_le ls ls.length k hk (Nat.le_refl _)
    rw [hg k hk] at h3
    unfold alB at h2
    rw [List.all_eq_true] at h2
    have h4 := h2 _ (List.getElem_mem hk)
    simp only [Bool.and_eq_true, decide_eq_true_eq]
    exact ⟨by omega, h4⟩
theorem bestC_yes {ls : List (List Int)} {k : Nat} (hpos : 0 < ls.length) (h : okN ls (k + 1) ls.length = true) : bestC ls (k + 1) = k + 1 := by
  rw [okN_iff ls _ hpos] at h
  simp only [Bool.and_eq_true, decide_eq_true_eq] at h
  unfold bestC
  rw [show min (k + 1) (minL ls ls.length) = k + 1 by omega, dnC, if_pos h.2]
theorem bestC_no {ls : List (List Int)} {k : Nat} (hpos : 0 < ls.length) (h : okN ls (k + 1) ls.length = false) : bestC ls (k + 1) = bestC ls k := by
  rw [okN_iff ls _ hpos] at h
  unfold bestC
  by_cases h1 : k + 1 ≤ minL ls ls.length
  · rw [decide_eq_true h1, Bool.true_and] at h
    rw [show min (k + 1) (minL ls ls.length) = k + 1 by omega, show min k (minL ls ls.length) = k by omega, dnC, if_neg (by rw [h]; simp)]
  · rw [show min (k + 1) (minL ls ls.length) = min k (minL ls ls.length) by omega]
theorem bestC_end (ls : List (List Int)) (hpos : 0 < ls.length) : bestC ls (ls.getD 0 []).length = cmN ls := by
  unfold bestC cmN
  rw [if_neg (by omega)]
  have := minL_le ls ls.length 0 hpos (Nat.le_refl _)
  rw [Nat.min_eq_right this]
set_option maxRecDepth 100000 in
set_option maxHeartbeats 1000000 in
theorem refCommon_any (v : Value) (ls : List (List Int)) (w : World) (hr : Rows2 .i64 w v ls) (hl : ls.length ≤ maxLen) (hs : ∀ l ∈ ls, l.length ≤ 1000000) :
    Calls Try.prog 78 #[v] w fun e w' => e = .returned (.int .i64 (cmN ls : Nat)) ∧ w.grownBy w' none := by
  have hform : ∃ a c, v = .slice a ls.length c := by
    obtain ⟨vs, h1, h2, h3⟩ := hr
    obtain ⟨a, c, rfl⟩ := h1.len
    exact ⟨a, c, by rw [h2]⟩
  obtain ⟨a, c, rfl⟩ := hform
  have hl63 : (ls.length : Int) ≤ 9223372036854775807 := by unfold maxLen at hl; omega
  have HS : Hid (∀ k, k < ls.length → (ls.getD k []).length ≤ 1000000) := fun k hk => hs _ (by rw [List.getD, List.getElem?_eq_getElem hk]; exact List.getElem_mem hk)
  clear hl hs
  by_cases h0 : ls.length = 0
  · have hz : ((ls.length : Int) == 0) = true := by rw [beq_iff_eq]; omega
    have HE : Hid (cmN ls = 0) := by show _ = _; unfold cmN; rw [if_pos h0]
    have H0 := Lib.hid h0
    clear h0
    go_enter Try.func78, Try.ntmps78
    go_wp2
    go_ret
    exact ⟨by rw [HE.out]; rfl, grow_refl _ _⟩
  · have hz : ((ls.length : Int) == 0) = false := by rw [beq_eq_false_iff_ne]; omega
    have hpos : 0 < ls.length := by omega
    obtain ⟨bb, off, c', ra0, rc0, e, hcell0, hrow0⟩ := rows_at hr hpos
    injection e with e1 _ e3
    subst e1 e3
    rw [Nat.add_zero] at hcell0
    have hL0 := HS.out 0 hpos
    have HEND := Lib.hid (bestC_end ls hpos)
    have hbst : Hid (bestC ls 0 = 0) := by show _ = _; unfold bestC; rw [Nat.zero_min]; rfl
    clear h0
    obtain ⟨L0, hL0e⟩ : ∃ x, x = (ls.getD 0 []).length := ⟨_, rfl⟩
    rw [← hL0e] at hcell0 hL0 HEND hrow0
    have HL0 := Lib.hid hL0e
    have hL0i : (L0 : Int) ≤ 1000000 := by omega
    clear hL0e
    go_enter Try.func78, Try.ntmps78
    go_wp2
    go_loopw [4, 3] (fun i b wr => ∃ k : Nat, i = .int .i64 ((k : Int) + 1) ∧ b = .int .i64 (bestC ls k : Nat) ∧ k ≤ L0 ∧ w.grownBy wr none) (fun i _ _ => L0 + 1 - (intOf i).toNat)
    case atStart => exact ⟨0, rfl, by rw [hbst.out]; rfl, Nat.zero_le _, grow_refl _ _⟩
    case round =>
      obtain ⟨k, rfl, rfl, hk, hg⟩ := hrel
      have hc0 : wr.cell? ⟨bb, off, none⟩ = some (.slice ra0 L0 rc0) := by
        rw [← hcell0]; exact World.cell?_of_block (hg.block bb (World.block_lt_of_cell? w ⟨bb, off, none⟩ hcell0) (by simp))
      by_cases hlt : k < L0
      · have hd : decide ((k : Int) + 1 ≤ L0) = true := decide_eq_true (by omega)
        have hk0 : (0 : Int) ≤ k := by omega
        have hk1 : (k : Int) < L0 := by omega
        go_wp2
        obtain ⟨wo, hwo⟩ : ∃ wo : World, wo = wr := ⟨_, rfl⟩
        rw [← hwo] at hg
        clear hcell0 hc0
        go_loopw [6, 5] (fun i al wr => ∃ j : Nat, i = .int .i64 j ∧ al = .bool (okN ls (k + 1) j) ∧ j ≤ ls.length ∧ w.grownBy wr none) (fun i _ _ => ls.length - (intOf i).toNat)
        case atStart => exact ⟨0, rfl, by rw [okN_zero], Nat.zero_le _, by rw [← hwo]; exact hg⟩
        case round =>
          obtain ⟨j, rfl, rfl, hj, hgj⟩ := hrel
          clear hg hwo
          by_cases hlj : j < ls.length
          · obtain ⟨bb', off', c'', ra0', rc0', e, hcell0, hrow0'⟩ := rows_at (hr.kept hgj) hpos
            injection e with e1 _ e3
            injection e1 with e1
            injection e1 with e1 e2
            subst e1 e2 e3
            rw [Nat.add_zero] at hcell0
            obtain ⟨bb', off', c'', ra, rc, e, hcell, hrow⟩ := rows_at (hr.kept hgj) hlj
            injection e with e1 _ e3
            injection e1 with e1
            injection e1 with e1 e2
            subst e1 e2 e3
            have hst := okN_step ls (k + 1) j hlj
            rw [Nat.add_sub_cancel] at hst
            obtain ⟨b0, o0, rfl, hc0, _⟩ := row_int hrow0' rfl (show k < (ls.getD 0 []).length by rw [← HL0.out]; exact hlt)
            rw [← HL0.out] at hcell0
            obtain ⟨s0, hs0⟩ : ∃ x, x = (ls.getD 0 []).getD k 0 := ⟨_, rfl⟩
            rw [← hs0] at hc0 hst
            obtain ⟨s1, hs1⟩ : ∃ x, x = (ls.getD j []).getD k 0 := ⟨_, rfl⟩
            rw [← hs1] at hst
            have hrw : k < (ls.getD j []).length → ∃ b1 o1, ra = some ⟨b1, o1, none⟩ ∧ wr.cell? ⟨b1, o1 + k, none⟩ = some (.int .i64 s1) := fun h => by
              obtain ⟨b1, o1, e1, e2, _⟩ := row_int hrow rfl h
              exact ⟨b1, o1, e1, by rw [e2, hs1]⟩
            have HRW := Lib.hid hrw
            have hLj := HS.out j hlj
            obtain ⟨L, hLe⟩ : ∃ x, x = (ls.getD j []).length := ⟨_, rfl⟩
            rw [← hLe] at hst hcell hLj HRW
            have hLi : (L : Int) ≤ 1000000 := by omega
            clear hrw hs0 hs1 hLe hrow hrow0'
            cases hok : okN ls (k + 1) j with
            | false =>
              rw [hok, Bool.false_and] at hst
              have HST := Lib.hid hst
              clear hst hok
              go_wp2
              go_quiet (fail)
              go_wp2
              go_roundw
              case rel => exact ⟨j + 1, by go_num, by rw [HST.out], by omega, grow_drawnN _ hgj⟩
              case measure => simp [intOf]; omega
            | true =>
              rw [hok, Bool.true_and] at hst
              clear hok
              by_cases hle : k + 1 ≤ L
              · rw [decide_eq_true hle, Bool.true_and] at hst
                have hle' : decide ((k : Int) + 1 ≤ L) = true := decide_eq_true (by omega)
                obtain ⟨b1, o1, rfl, hc1⟩ := HRW.out (by omega)
                have hkL : (k : Int) < L := by omega
                have HST := Lib.hid hst
                clear hst
                go_wp2
                go_quiet (fail)
                go_wp2
                go_roundw
                case rel => exact ⟨j + 1, by go_num, by rw [HST.out], by omega, grow_drawnN _ hgj⟩
                case measure => simp [intOf]; omega
              · rw [decide_eq_false hle, Bool.false_and] at hst
                have hle' : decide ((k : Int) + 1 ≤ L) = false := decide_eq_false (by omega)
                have HST := Lib.hid hst
                clear hst
                go_wp2
                go_quiet (fail)
                go_wp2
                go_roundw
                case rel => exact ⟨j + 1, by go_num, by rw [HST.out], by omega, grow_drawnN _ hgj⟩
                case measure => simp [intOf]; omega
          · obtain rfl : j = ls.length := by omega
            cases hok : okN ls (k + 1) ls.length with
            | true =>
              have HB := Lib.hid (bestC_yes hpos hok)
              clear hok
              go_wp2
              go_roundw
              case rel => exact ⟨k + 1, by go_num, by rw [HB.out]; go_num, by omega, hgj⟩
              case measure => simp [intOf]; omega
            | false =>
              have HB := Lib.hid (bestC_no hpos hok)
              clear hok
              go_wp2
              go_roundw
              case rel => exact ⟨k + 1, by go_num, by rw [HB.out], by omega, hgj⟩
              case measure => simp [intOf]; omega
      · obtain rfl : k = L0 := by omega
        have hd : decide ((k : Int) + 1 ≤ k) = false := decide_eq_false (by omega)
        go_wp2
        refine bodyPost_ret (v := .int .i64 (cmN ls : Nat)) ?_ ?_ ?_
        · rw [← HEND.out]; simp [results, go_sem]
        · rfl
        · exact ⟨rfl, hg⟩
end Go.Proofs.Ytkmpcncehicpmaa
