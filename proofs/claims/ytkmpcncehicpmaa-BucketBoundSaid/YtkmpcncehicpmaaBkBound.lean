/- The law BucketBound: its walk. -/
import Derived.Test.YtkmpcncehicpmaaBkPlays
import Derived.Test.YtkmpcncehicpmaaOp4
namespace Go.Proofs.Ytkmpcncehicpmaa
open Go.RowKit
set_option linter.unusedVariables false
def sumL : List Int → Int
  | [] => 0
  | s :: l => s + sumL l
theorem sum_snoc : ∀ (l : List Int) (k : Nat), k < l.length → sumL (l.take (k + 1)) = sumL (l.take k) + l.getD k 0
  | [], k, h => by simp at h
  | s :: l, 0, h => by simp [sumL]
  | s :: l, k + 1, h => by
    have := sum_snoc l k (by simpa using h)
    simp only [List.take_succ_cons, sumL, this]
    simp [List.getD]
    omega
theorem sum_taken : ∀ (l : List Int) (h : Int), sumL (l.take (takeN l h)) = h - takeL l h
  | [], h => by simp [takeN, takeL, sumL]
  | s :: l, h => by
    unfold takeN takeL
    split
    · simp [sumL]
    · have := sum_taken l (h - s)
      simp only [List.take_succ_cons, sumL, this]
      omega
theorem sum_bd : ∀ (l : List Int) (h : Int) (k : Nat), 0 ≤ h → k ≤ takeN l h → 0 ≤ sumL (l.take k) ∧ sumL (l.take k) ≤ h
  | l, h, 0, h0, _ => by simp [sumL]; exact h0
  | [], h, k + 1, h0, hk => by simp [takeN] at hk
  | s :: l, h, k + 1, h0, hk => by
    unfold takeN at hk
    split at hk
    · omega
    · have := sum_bd l (h - s) k (by omega) (by omega)
      simp only [List.take_succ_cons, sumL]
      omega
theorem tick_le (r u h : Int) (hr : 0 ≤ r) : tickH r u h ≤ h + r := by
  unfold tickH
  split <;> omega
/-- Ahead of a round of the outer loop. -/
def BoundAt (r u : Int) (b : Nat) (w0 w : World) : Prop := ∃ h, Bk 148 w b r u h ∧ BOk r u h ∧ w0.grownBy w none
def LenAt (ls : List (List Int)) (k j : Nat) : Prop := 1 ≤ j → (ls.getD k []).length ≤ 1000
/-- Ahead of a round of the loop within. -/
def GoneAt (r u : Int) (b cc : Nat) (w0 : World) (j : Nat) (g : Value) (w : World) : Prop :=
  ∃ N h h' : Int, g = .int .i64 N ∧ 0 ≤ N ∧ N + h' ≤ u + (j : Int) * r ∧ Bk 148 w b r u h ∧ BOk r u h ∧ Bk 148 w cc r u h' ∧ BOk r u h' ∧ w0.grownBy w none
set_option maxRecDepth 100000 in
set_option maxHeartbeats 4000000 in
theorem law_BucketBound (r : Int) (hr : -9223372036854775808 ≤ r ∧ r ≤ 9223372036854775807) (u : Int) (hu : -9223372036854775808 ≤ u ∧ u ≤ 9223372036854775807) (v : Value) (ls : List (List Int)) {w : World} (hrow : Rows2c .i64 w v ls)
    (hw : ∀ l ∈ ls, (∀ n ∈ l, -9223372036854775808 ≤ n ∧ n ≤ 9223372036854775807) ∧ l.length ≤ maxLen) (hl : ls.length ≤ maxLen) (_ : World) :
    Calls Try.prog 18 #[.int .i64 r, .int .i64 u, v] w fun e w' => e = .returned (.bool true) ∧ Below w.heap.size w w' := by
  obtain ⟨i0, hi, hz0, hz1, hz2⟩ := info_parts Try.info3
  obtain ⟨hcap, vs, hrow, hvl, hrows⟩ := hrow
  obtain ⟨a, c, rfl⟩ := hrow.len
  have hcap := hcap _ _ _ rfl
  rw [hvl] at hrow hcap ⊢
  have HL := Lib.hid hl
  have HW := Lib.hid hw
  have HVL := Lib.hid hvl
  have HROWS := Lib.hid hrows
  have HR := Lib.hid hr
  have HU := Lib.hid hu
  have hl63 : (ls.length : Int) ≤ 9223372036854775807 := by unfold maxLen at hl; omega
  clear hl hw hr hu hvl hrows
  by_cases hok : 1 ≤ r ∧ r ≤ 4096 ∧ 64 ≤ u ∧ u ≤ 16384
  · have u2 : u ≤ 16384 := hok.2.2.2
    have u1 : 64 ≤ u := hok.2.2.1
    have r1 : 1 ≤ r := hok.1
    have r2 : r ≤ 4096 := hok.2.1
    have O : BOk r u u := ⟨r1, r2, u1, u2, by omega, by omega⟩
    have HOK := Lib.hid hok
    clear hok
    by_cases h3 : 1000 < ls.length
    · have h3' : decide ((1000 : Int) < ls.length) = true := by simp; omega
      go_enter Try.func18, Try.ntmps18
      go_wp2_with fail
      refine (New_ok r u _ HOK.out).mono ?_
      rintro e w1 ⟨rfl, rfl⟩
      have G0 := World.grownBy_alloc w (.cells #[.int .i64 r, .int .i64 u, .int .i64 u] 148) none
      go_wp2_with fail
      refine (awake16_any _).mono ?_
      rintro e w2 ⟨rfl, g2⟩
      go_wp2_with fail
      refine (awake16_any _).mono ?_
      rintro e w3 ⟨rfl, g3⟩
      have G3 := grow_none G0 (grow_none g2 g3)
      clear g2 g3
      go_wp2
      go_ret
      exact ⟨rfl, below_of_none G3⟩
    · have h3' : decide ((1000 : Int) < ls.length) = false := by simp; omega
      have h3n : ls.length ≤ 1000 := by omega
      clear h3
      go_enter Try.func18, Try.ntmps18
      go_wp2_with fail
      refine (New_ok r u _ HOK.out).mono ?_
      rintro e w1 ⟨rfl, rfl⟩
      have xb : Bk 148 (w.alloc (.cells #[.int .i64 r, .int .i64 u, .int .i64 u] 148)) w.heap.size r u u := Blk.new _ _ [.int .i64 r, .int .i64 u, .int .i64 u]
      have G0 := World.grownBy_alloc w (.cells #[.int .i64 r, .int .i64 u, .int .i64 u] 148) none
      obtain ⟨b, hbe⟩ : ∃ b, b = w.heap.size := ⟨_, rfl⟩
      have hb0 : w.heap.size ≤ b := by omega
      rw [← hbe] at xb ⊢
      clear hbe
      generalize w.alloc (.cells #[.int .i64 r, .int .i64 u, .int .i64 u] 148) = w1 at xb G0 ⊢
      go_wp2_with fail
      refine (awake16_any _).mono ?_
      rintro e w3 ⟨rfl, g3⟩
      have t0 : BoundAt r u b w w3 := ⟨u, xb.keep g3, O, grow_none G0 g3⟩
      clear g3 G0 xb O
      go_wp2
      go_loopw [36] (fun i wr => ∃ k : Nat, i = .int .i64 k ∧ k ≤ ls.length ∧ BoundAt r u b w wr) (fun i _ => ls.length - (intOf i).toNat)
      case atStart => exact ⟨0, rfl, Nat.zero_le _, t0⟩
      case round =>
        obtain ⟨k, rfl, hk, h, xb, O, G⟩ := hrel
        clear t0
        by_cases hlt : k < ls.length
        · have hlti : (k : Int) < ls.length := by omega
          by_cases h20 : 20 < k
          · have h20' : decide ((20 : Int) < k) = true := decide_eq_true (by omega)
            go_wp2
            refine bodyPost_ret (v := .bool true) ?_ ?_ ?_
            · simp [results, go_sem]
            · rfl
            · exact ⟨rfl, below_of_none G⟩
          · have h20' : decide ((20 : Int) < k) = false := decide_eq_false (by omega)
            obtain ⟨bb, off, rfl, _, _⟩ := row_val (hrow.kept G) HVL.out hlt
            have hck : ¬ (c = k) := by omega
            have hck2 : ¬ (k = c) := by omega
            have hk0 : (0 : Int) ≤ k := by omega
            have hk1 : (k : Int) ≤ ls.length := by omega
            clear h20
            go_wp2_with fail
            refine (Copy_any b r u h _ xb).mono ?_
            rintro e w4 ⟨cc, rfl, hcc, xc, g4⟩
            have xb4 := xb.keep g4
            have G4 := grow_none G g4
            have hcb : cc ≠ b := by have := xb.lt; omega
            have hc0 : w.heap.size ≤ cc := by have := G.size; omega
            have t1 : GoneAt r u b cc w 0 (.int .i64 0) w4 := ⟨0, h, h, rfl, Int.le_refl _, by have := O.h2; omega, xb4, O, xc, O, G4⟩
            clear xb G g4 xb4 xc G4 hcc O
            go_wp2
            obtain ⟨q, hq⟩ : ∃ q, q = ls.length - k := ⟨_, rfl⟩
            rw [← hq]
            have HQ := Lib.hid hq
            clear hq
            go_loopw [47, 11] (fun i g wr => ∃ j : Nat, i = .int .i64 j ∧ j ≤ q ∧ LenAt ls k j ∧ GoneAt r u b cc w j g wr) (fun i _ _ => q - (intOf i).toNat)
            case atStart => exact ⟨0, rfl, Nat.zero_le _, fun h => absurd h (by omega), t1⟩
            case round =>
              obtain ⟨j, rfl, hj, hlen, N, h1, h2, rfl, hN0, hNb, xb, O1, xc, O2, G⟩ := hrel
              clear t1
              have HNB := Lib.hid hNb
              have HLEN := Lib.hid hlen
              clear hNb hlen
              by_cases hjq : j < q
              · have hjqi : (j : Int) < q := by omega
                have hkj : k + j < ls.length := by have := HQ.out; omega
                have hj0 : (0 : Int) ≤ j := by omega
                obtain ⟨bb2, off2, e2, hcell, _⟩ := row_val (hrow.kept G) HVL.out hkj
                injection e2 with e2
                injection e2 with e3 e4
                subst e3 e4
                rw [← Nat.add_assoc] at hcell
                obtain ⟨r0, hcl⟩ := HROWS.out (k + j) hkj
                obtain ⟨ra, rc, hrk⟩ := r0.len
                obtain ⟨l, hle⟩ : ∃ l, l = ls.getD (k + j) [] := ⟨_, rfl⟩
                have hwl := HW.out (ls.getD (k + j) []) (by rw [List.getD, List.getElem?_eq_getElem hkj]; exact List.getElem_mem hkj)
                rw [← hle] at hrk hwl r0
                have hlc := hcl _ _ _ hrk
                rw [hrk] at hcell r0
                rw [List.length_map] at hcell r0 hlc
                have hl63' : (l.length : Int) ≤ 9223372036854775807 := by have := hwl.2; unfold maxLen at this; omega
                have HLE := Lib.hid hle
                clear hle hrk hcl
                by_cases h4 : 1000 < l.length
                · have h4' : decide ((1000 : Int) < l.length) = true := by simp; omega
                  go_wp2
                  go_ret
                  exact ⟨rfl, below_of_none G⟩
                · have h4' : decide ((1000 : Int) < l.length) = false := by simp; omega
                  have hli : l.length ≤ 1000 := by omega
                  have HWL := Lib.hid hwl
                  have rA := (r0.kept G).kept (World.grownBy_alloc wr (.cells #[] 3) none)
                  clear hwl h4
                  go_wp2_with (at_builtin; refine wpList_append_row _ rfl _ _ 29 rfl 3 i0 (.int .i64 0) 8 Try.underlying29 hi hz0 hz1 hz2 rfl _ _ _ rfl (own_empty _ _ _) _ (l.map (Value.int .i64)) rfl rA (ones_i64 l) (by rw [List.length_map]; show _ ≤ 2^63-1; omega) (by rw [List.length_map]; omega) ?_)
                  intro v3 w10 o10 g10 mv10
                  have X10 := grow_newblk (World.grownBy_alloc wr (.cells #[] 3) none) (newblk_at wr wr.heap.size 0 0 (Nat.le_refl _) 0) g10
                  have N10 := (newblk_at wr wr.heap.size 0 0 (Nat.le_refl _) 0).moved (World.grownBy_alloc wr (.cells #[] 3) none).size mv10
                  have hne10 := newblk_ne N10 xc.lt
                  have xc10 := xc.keep X10
                  have xb10 := xb.keep X10
                  have G10 := grow_none G X10
                  have q10 := RowAt.of_own o10
                  clear g10 mv10 X10 N10 xc xb G rA o10
                  go_wp2_with fail
                  refine (Take_any cc r u h2 v3 l _ xc10 O2 (by simpa using q10) HWL.out.2 hne10 HWL.out.1).mono ?_
                  rintro e w11 ⟨rfl, xc11, g11⟩
                  have xb11 := xb10.kept g11 (by intro e; injection e with e; exact hcb e.symm)
                  have G11 := grow_new G10 hc0 g11
                  have rl := r0.kept G11
                  have O3 := O2.take l
                  have HST := Lib.hid (sum_taken l h2)
                  obtain ⟨L, hLe⟩ : ∃ L, L = takeL l h2 := ⟨_, rfl⟩
                  have HSB := Lib.hid (sum_bd l h2)
                  obtain ⟨n, hne⟩ : ∃ n, n = takeN l h2 := ⟨_, rfl⟩
                  have hnl : n ≤ l.length := by rw [hne]; exact takeN_le l h2
                  rw [← hne] at HST HSB ⊢
                  rw [← hLe] at HST O3 xc11
                  have hni : (n : Int) ≤ 1000 := by omega
                  have hn0 : (0 : Int) ≤ n := by omega
                  have hnc : (n : Int) ≤ rc := by omega
                  have hh2 := O2.h1
                  have hh3 := O2.h2
                  have hL0 := O3.h1
                  have hL1 := O3.h2
                  clear hne10 g11 G10 xb10 xc10 q10 hne hLe
                  go_wp2
                  obtain ⟨p, hp⟩ : ∃ p, p = (j : Int) * r := ⟨_, rfl⟩
                  have hp0 : 0 ≤ p := by rw [hp]; exact Int.mul_nonneg hj0 (by omega)
                  have hp1 : p ≤ 4096000 := by
                    rw [hp]
                    have := Int.mul_le_mul (show (j : Int) ≤ 1000 by omega) r2 (by omega) (by omega)
                    omega
                  have hpr : ((j : Int) + 1) * r = p + r := by rw [Int.add_mul, Int.one_mul, hp]
                  have hNp : N + h2 ≤ u + p := by have := HNB.out; rw [← hp] at this; exact this
                  have HPR := Lib.hid hpr
                  have HP := Lib.hid hp
                  clear hpr
                  go_loop [63, 11] (fun i g => ∃ m : Nat, i = .int .i64 m ∧ m ≤ n ∧ g = .int .i64 (N + sumL (l.take m))) (fun i _ => n - (intOf i).toNat)
                  case atStart => exact ⟨0, rfl, Nat.zero_le _, by simp [sumL]⟩
                  case round =>
                    obtain ⟨m, rfl, hm, rfl⟩ := hrel
                    by_cases hmn : m < n
                    · have hmi : (m : Int) < n := by omega
                      obtain ⟨bb3, off3, rfl, hcm, _⟩ := row_i64 rl (show m < l.length by omega)
                      have hs0 := HSB.out m hh2 (by omega)
                      have hs1 := HSB.out (m + 1) hh2 (by omega)
                      have hsn := sum_snoc l m (by omega)
                      obtain ⟨x, hx⟩ : ∃ x, x = l.getD m 0 := ⟨_, rfl⟩
                      rw [← hx] at hcm hsn
                      rw [hsn] at hs1
                      have HSN := Lib.hid hsn
                      obtain ⟨S, hS⟩ : ∃ S, S = sumL (l.take m) := ⟨_, rfl⟩
                      rw [← hS] at hs0 hs1 ⊢
                      have HS := Lib.hid hS
                      clear hx hsn hS hp
                      go_wp2
                      go_round
                      case rel => exact ⟨m + 1, by go_num, by omega, by rw [HSN.out, ← HS.out, Int.add_assoc]⟩
                      case measure => simp [intOf]; omega
                    · obtain rfl : m = n := by omega
                      have hs9 := HSB.out m hh2 (Nat.le_refl _)
                      rw [HST.out] at hs9 ⊢
                      have d1 : decide (u + p < N + (h2 - L)) = false := decide_eq_false (by omega)
                      have d2 : decide (L < 0) = false := decide_eq_false (by omega)
                      have d3 : decide (u < L) = false := decide_eq_false (by omega)
                      have hN1 : N + (h2 - L) ≤ 5000000 := by omega
                      have hN2 : 0 ≤ N + (h2 - L) := by omega
                      have hpj : (j : Int) * r = p := hp.symm
                      clear hp
                      go_wp2_with fail
                      refine (Left_any cc r u L _ xc11).mono ?_
                      rintro e w12 ⟨rfl, rfl⟩
                      go_wp2_with fail
                      refine (Left_any cc r u L _ xc11).mono ?_
                      rintro e w12 ⟨rfl, rfl⟩
                      go_wp2_with fail
                      refine (Tick_any cc r u L _ xc11 O3).mono ?_
                      rintro e w13 ⟨rfl, xc13, g13⟩
                      have xb13 := xb11.kept g13 (by intro e; injection e with e; exact hcb e.symm)
                      have G13 := grow_new G11 hc0 g13
                      have Ot := O3.tick
                      have htl := tick_le r u L (by omega)
                      go_wp2
                      go_roundw
                      case rel => exact ⟨j + 1, by go_num, by omega, fun _ => by
                        by_cases hj0' : j = 0
                        · subst hj0'
                          have := HLE.out
                          rw [Nat.add_zero] at this
                          rw [← this]; exact hli
                        · exact HLEN.out (by omega), N + (h2 - L), h1, tickH r u L, rfl, hN2, by rw [show ((j + 1 : Nat) : Int) = (j : Int) + 1 from rfl, HPR.out]; omega, xb13, O1, xc13, Ot, G13⟩
                      case measure => simp [intOf]; omega
              · obtain rfl : j = q := by omega
                obtain ⟨bb2, off2, e2, hcell, _⟩ := row_val (hrow.kept G) HVL.out hlt
                injection e2 with e2
                injection e2 with e3 e4
                subst e3 e4
                obtain ⟨r0, _⟩ := HROWS.out k hlt
                obtain ⟨ra, rc, hrk⟩ := r0.len
                obtain ⟨l, hle⟩ : ∃ l, l = ls.getD k [] := ⟨_, rfl⟩
                have hwl := HW.out (ls.getD k []) (by rw [List.getD, List.getElem?_eq_getElem hlt]; exact List.getElem_mem hlt)
                rw [← hle] at hrk hwl r0
                rw [hrk] at hcell r0
                rw [List.length_map] at hcell r0
                have HWL := Lib.hid hwl
                have hli : l.length ≤ 1000 := by rw [hle]; exact HLEN.out (by have := HQ.out; omega)
                clear HNB xc O2
                have rA := (r0.kept G).kept (World.grownBy_alloc wr (.cells #[] 3) none)
                clear hwl hrk hle
                go_wp2_with (at_builtin; refine wpList_append_row _ rfl _ _ 29 rfl 3 i0 (.int .i64 0) 8 Try.underlying29 hi hz0 hz1 hz2 rfl _ _ _ rfl (own_empty _ _ _) _ (l.map (Value.int .i64)) rfl rA (ones_i64 l) (by rw [List.length_map]; show _ ≤ 2^63-1; omega) (by rw [List.length_map]; omega) ?_)
                intro v3 w10 o10 g10 mv10
                have X10 := grow_newblk (World.grownBy_alloc wr (.cells #[] 3) none) (newblk_at wr wr.heap.size 0 0 (Nat.le_refl _) 0) g10
                have N10 := (newblk_at wr wr.heap.size 0 0 (Nat.le_refl _) 0).moved (World.grownBy_alloc wr (.cells #[] 3) none).size mv10
                have hne10 := newblk_ne N10 xb.lt
                have xb10 := xb.keep X10
                have G10 := grow_none G X10
                have q10 := RowAt.of_own o10
                clear g10 mv10 X10 N10 xb G rA o10
                go_wp2_with fail
                refine (Take_any b r u h1 v3 l _ xb10 O1 (by simpa using q10) HWL.out.2 hne10 HWL.out.1).mono ?_
                rintro e w11 ⟨rfl, xb11, g11⟩
                have G11 := grow_new G10 hb0 g11
                have O3 := O1.take l
                clear hne10 g11 G10 xb10 q10
                go_wp2_with fail
                refine (Tick_any b r u (takeL l h1) _ xb11 O3).mono ?_
                rintro e w12 ⟨rfl, xb12, g12⟩
                have G12 := grow_new G11 hb0 g12
                clear xb11 g12 G11
                go_wp2
                go_roundw
                case rel => exact ⟨k + 1, by go_num, by omega, tickH r u (takeL l h1), xb12, O3.tick, G12⟩
                case measure => simp [intOf]; omega
        · go_wp2
          refine bodyPost_ret (v := .bool true) ?_ ?_ ?_
          · simp [results, go_sem]
          · rfl
          · exact ⟨rfl, below_of_none G⟩
  · have HOK := Lib.hid hok
    clear hok
    go_enter Try.func18, Try.ntmps18
    go_wp2_with fail
    refine (New_bad r u _ HOK.out).mono ?_
    rintro e w1 ⟨rfl, rfl⟩
    go_wp2_with fail
    refine (awake16_any _).mono ?_
    rintro e w2 ⟨rfl, g2⟩
    go_wp2_with fail
    refine (awake16_any _).mono ?_
    rintro e w3 ⟨rfl, g3⟩
    have G3 := grow_none g2 g3
    clear g2 g3
    go_wp2
    go_ret
    exact ⟨rfl, below_of_none G3⟩
end Go.Proofs.Ytkmpcncehicpmaa
