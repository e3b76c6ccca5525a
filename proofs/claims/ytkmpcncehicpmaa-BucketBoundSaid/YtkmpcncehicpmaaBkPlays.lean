/- The law BucketPlays: its walk. -/
import Derived.Test.YtkmpcncehicpmaaBkGoes
import Derived.Test.YtkmpcncehicpmaaOp2
import Derived.Test.YtkmpcncehicpmaaStep
import Derived.Deep.CutBlock
namespace Go.Proofs.Ytkmpcncehicpmaa
open Go.RowKit
set_option linter.unusedVariables false
theorem row_val {w : World} {a : Option Addr} {c : Nat} {vs : List Value} {n : Nat} {k : Nat} (h : RowAt w (.slice a n c) vs) (hn : vs.length = n) (hk : k < n) :
    ∃ bb off, a = some ⟨bb, off, none⟩ ∧ w.cell? ⟨bb, off + k, none⟩ = some (vs.getD k undef) ∧ bb < w.heap.size := by
  subst hn
  obtain ⟨a', c', e, h⟩ := h
  injection e with e1 e2 e3
  subst e1
  rcases h with h | ⟨b, off, rfl, hb, hc⟩
  · subst h; simp at hk
  · exact ⟨b, off, rfl, hc k hk, hb⟩
theorem row_ne {w : World} {v : Value} {xs : List Value} (h : RowAt w v xs) {g : Nat} (hg : w.heap.size ≤ g) : ∀ bb off n c, v = .slice (some ⟨bb, off, none⟩) n c → 0 < n → bb ≠ g := by
  rintro bb off n c rfl hn e
  obtain ⟨a', c', e', h⟩ := h
  injection e' with e1 e2 e3
  rcases h with h | ⟨b, off', h1, hb, _⟩
  · subst h; simp at e2; omega
  · rw [h1] at e1
    injection e1 with e1
    injection e1 with e1
    omega
/-- What stands behind the two takings. -/
def After11 (r u h : Int) (l : List Int) (g b cc : Nat) (w0 w : World) : Prop :=
  Bk 100 w g r u (takeL l h) ∧ Bk 148 w b r u (takeL l h) ∧ Bk 148 w cc r u h ∧ w0.grownBy w none
/-- What holds ahead of a round. -/
def PlaysAt (r u : Int) (g : Nat) (w0 : World) (p : Value) (w : World) : Prop :=
  ∃ (b : Nat) (h : Int), p = .pointer (some ⟨b, 0, none⟩) ∧ w0.heap.size ≤ b ∧ b ≠ g ∧ Bk 148 w b r u h ∧ Bk 100 w g r u h ∧ BOk r u h ∧ w0.grownBy w none
set_option maxRecDepth 100000 in
set_option maxHeartbeats 4000000 in
theorem law_BucketPlays (r : Int) (hr : -9223372036854775808 ≤ r ∧ r ≤ 9223372036854775807) (u : Int) (hu : -9223372036854775808 ≤ u ∧ u ≤ 9223372036854775807) (v : Value) (ls : List (List Int)) {w : World} (hrow : Rows2 .i64 w v ls)
    (hw : ∀ l ∈ ls, (∀ n ∈ l, -9223372036854775808 ≤ n ∧ n ≤ 9223372036854775807) ∧ l.length ≤ maxLen) (hl : ls.length ≤ maxLen) (_ : World) :
    Calls Try.prog 17 #[.int .i64 r, .int .i64 u, v] w fun e w' => e = .returned (.bool true) ∧ Below w.heap.size w w' := by
  obtain ⟨i0, hi, hz0, hz1, hz2⟩ := info_parts Try.info3
  obtain ⟨vs, hrow, hvl, hrows⟩ := hrow
  obtain ⟨a, c, rfl⟩ := hrow.len
  rw [hvl] at hrow ⊢
  have HL := Lib.hid hl
  have HW := Lib.hid hw
  have HVL := Lib.hid hvl
  have HROWS := Lib.hid hrows
  have HR := Lib.hid hr
  have HU := Lib.hid hu
  have hl63 : (ls.length : Int) ≤ 9223372036854775807 := by unfold maxLen at hl; omega
  clear hl hw hr hu hvl hrows
  by_cases hok : 1 ≤ r ∧ r ≤ 4096 ∧ 64 ≤ u ∧ u ≤ 16384
  · by_cases h3 : 1000 < ls.length
    · have HOK := Lib.hid hok
      clear hok
      have h3' : decide ((1000 : Int) < ls.length) = true := by simp; omega
      go_enter Try.func17, Try.ntmps17
      go_wp2_with fail
      refine (New_ok r u _ HOK.out).mono ?_
      rintro e w1 ⟨rfl, rfl⟩
      have G0 := World.grownBy_alloc w (.cells #[.int .i64 r, .int .i64 u, .int .i64 u] 148) none
      go_wp2_with fail
      refine (refNew_ok r u _ HOK.out).mono ?_
      rintro e w1 ⟨rfl, rfl⟩
      have G1 := grow_none G0 (World.grownBy_alloc _ (.cells #[.int .i64 r, .int .i64 u, .int .i64 u] 100) none)
      go_wp2_with fail
      refine (awake16_any _).mono ?_
      rintro e w2 ⟨rfl, g2⟩
      go_wp2_with fail
      refine (awake16_any _).mono ?_
      rintro e w3 ⟨rfl, g3⟩
      have G3 := grow_none G1 (grow_none g2 g3)
      clear g2 g3
      go_wp2
      go_ret
      exact ⟨rfl, below_of_none G3⟩
    · have h3' : decide ((1000 : Int) < ls.length) = false := by simp; omega
      have u2 : u ≤ 16384 := hok.2.2.2
      have u1 : 64 ≤ u := hok.2.2.1
      have r1 : 1 ≤ r := hok.1
      have r2 : r ≤ 4096 := hok.2.1
      have O : BOk r u u := ⟨r1, r2, u1, u2, by omega, by omega⟩
      have HOK := Lib.hid hok
      clear hok
      go_enter Try.func17, Try.ntmps17
      go_wp2_with fail
      refine (New_ok r u _ HOK.out).mono ?_
      rintro e w1 ⟨rfl, rfl⟩
      have xb : Bk 148 (w.alloc (.cells #[.int .i64 r, .int .i64 u, .int .i64 u] 148)) w.heap.size r u u := Blk.new _ _ [.int .i64 r, .int .i64 u, .int .i64 u]
      have G0 := World.grownBy_alloc w (.cells #[.int .i64 r, .int .i64 u, .int .i64 u] 148) none
      obtain ⟨b, hbe⟩ : ∃ b, b = w.heap.size := ⟨_, rfl⟩
      have hb0 : w.heap.size ≤ b := by omega
      rw [← hbe] at xb ⊢
      clear hbe
      generalize w.alloc (.cells #[.int .i64 r, .int .i64 u, .int .i64 u] 148) = w1 at xb G0 ⊢
      go_wp2_with fail
      refine (refNew_ok r u _ HOK.out).mono ?_
      rintro e w2 ⟨rfl, rfl⟩
      have xg : Bk 100 (w1.alloc (.cells #[.int .i64 r, .int .i64 u, .int .i64 u] 100)) w1.heap.size r u u := Blk.new _ _ [.int .i64 r, .int .i64 u, .int .i64 u]
      have G1 := World.grownBy_alloc w1 (.cells #[.int .i64 r, .int .i64 u, .int .i64 u] 100) none
      have xb1 := xb.keep G1
      have hbl := xb.lt
      obtain ⟨g, hge⟩ : ∃ g, g = w1.heap.size := ⟨_, rfl⟩
      have hbg : b ≠ g := by omega
      have hg0 : w.heap.size ≤ g := by have := G0.size; omega
      rw [← hge] at xg ⊢
      clear hge hbl xb
      generalize w1.alloc (.cells #[.int .i64 r, .int .i64 u, .int .i64 u] 100) = w2 at xb1 xg G1 ⊢
      go_wp2_with fail
      refine (awake16_any _).mono ?_
      rintro e w3 ⟨rfl, g3⟩
      have t0 : PlaysAt r u g w (.pointer (some ⟨b, 0, none⟩)) w3 := ⟨b, u, rfl, hb0, hbg, xb1.keep g3, xg.keep g3, O, grow_none G0 (grow_none G1 g3)⟩
      clear g3 G0 G1 xb1 xg hb0 hbg
      go_wp2
      go_loopw [53, 7] (fun i p wr => ∃ k : Nat, i = .int .i64 k ∧ k ≤ ls.length ∧ PlaysAt r u g w p wr) (fun i _ _ => ls.length - (intOf i).toNat)
      case atStart => exact ⟨0, rfl, Nat.zero_le _, t0⟩
      case round =>
        obtain ⟨k, rfl, hk, b, h, rfl, hb0, hbg, xb, xg, O', G⟩ := hrel
        clear t0
        by_cases hlt : k < ls.length
        · obtain ⟨bb, off, rfl, hcell, _⟩ := row_val (hrow.kept G) HVL.out hlt
          obtain ⟨ra, rc, hrk⟩ := (HROWS.out k hlt).len
          have hrk2 := (HROWS.out k hlt).kept G
          have r0 := HROWS.out k hlt
          obtain ⟨l, hle⟩ : ∃ l, l = ls.getD k [] := ⟨_, rfl⟩
          have hwl := HW.out (ls.getD k []) (by rw [List.getD, List.getElem?_eq_getElem hlt]; exact List.getElem_mem hlt)
          rw [← hle] at hrk hrk2 hwl r0
          rw [hrk] at hcell hrk2 r0
          rw [List.length_map] at hcell hrk2 r0
          have hlti : (k : Int) < ls.length := by omega
          have hl63' : (l.length : Int) ≤ 9223372036854775807 := by have := hwl.2; unfold maxLen at this; omega
          clear hle hrk
          by_cases h4 : 1000 < l.length
          · have h4' : decide ((1000 : Int) < l.length) = true := by simp; omega
            go_wp2
            go_ret
            exact ⟨rfl, below_of_none G⟩
          · have h4' : decide ((1000 : Int) < l.length) = false := by simp; omega
            have hli : l.length ≤ 1000 := by omega
            have HWL := Lib.hid hwl
            clear hwl h4
            go_wp2_with fail
            refine (Copy_any b r u h _ xb).mono ?_
            rintro e w4 ⟨cc, rfl, hcc, xc, g4⟩
            have xb4 := xb.keep g4
            have xg4 := xg.keep g4
            have G4 := grow_none G g4
            have r4 := hrk2.kept g4
            have hcb : cc ≠ b := by have := xb.lt; omega
            have hcg : cc ≠ g := by have := xg.lt; omega
            have hc0 : w.heap.size ≤ cc := by have := G.size; omega
            clear xb xg G g4 hrk2
            go_wp2_with fail
            have r4' := r4.kept (World.grownBy_alloc w4 (.cells #[] 3) none)
            have HB1 := Lib.hid HWL.out.1
            have hneg := row_ne r0 hg0
            have HNG := Lib.hid hneg
            obtain ⟨O1, O2, O3, O4, O5, O6⟩ := O'
            have hbd := takeL_bd l h O5
            have hl0 : 0 ≤ takeL l h := hbd.1
            have hl1 : takeL l h ≤ 16384 := by omega
            have hn0 : ((takeN l h : Nat) : Int) ≤ 1000 := by have := takeN_le l h; omega
            clear hneg hbd
            go_upto_region 11 with (fail)
            go_cut [84] (fun v wx => v = .bool false ∧ After11 r u h l g b cc w wx)
            case first =>
             go_region_law (first
              | ((with_reducible show (if Region.wanted (Oper.mk _ (Op.call { callee := .builtin .append, args := _, argTypes := _ }) _ _ _ _) _ = true then _ else _)); refine step_append_row (.tmp 68) (.tmp 69) 29 (by with_reducible rfl) 3 i0 (.int .i64 0) 8 Try.underlying29 hi hz0 hz1 hz2 rfl _ _ _ rfl (own_empty _ _ _) _ (l.map (Value.int .i64)) rfl ?_ (ones_i64 l) (by rw [List.length_map]; show _ ≤ 2^63-1; omega) (by rw [List.length_map]; omega) ?_ ?_; exact r4'; rfl; intro v3 w5 o3 g5 mv3; have X5 := grow_newblk (grow_drawn (World.grownBy_alloc w4 (.cells #[] 3) none)) (newblk_at w4 w4.heap.size 0 0 (Nat.le_refl _) 0) g5; have N5 := (newblk_at w4 w4.heap.size 0 0 (Nat.le_refl _) 0).moved (grow_drawn (World.grownBy_alloc w4 (.cells #[] 3) none)).size mv3; clear g5 mv3)
              | ((with_reducible show (if Region.wanted (Oper.mk _ (Op.call { callee := .value (.func 70), args := _, argTypes := _ }) _ _ _ _) _ = true then _ else _)); refine step_wanted rfl ?_; go_simp; go_at_call 70; refine (Take_any b r u h _ l _ (xb4.keep X5) ⟨O1, O2, O3, O4, O5, O6⟩ (by simpa using RowAt.of_own o3) HWL.out.2 (newblk_ne N5 xb4.lt) HB1.out).mono ?_; rintro e w6 ⟨rfl, x6, g6⟩; have xg6 := (xg4.keep X5).kept g6 (by intro e; injection e with e; exact hbg e.symm); have G6 := grow_new (grow_none G4 X5) hb0 g6; have xc6 := (xc.keep X5).kept g6 (by intro e; injection e with e; exact hcb e); have r6 := r0.kept G6; clear g6 X5 N5 o3)
              | ((with_reducible show (if Region.wanted (Oper.mk _ (Op.call { callee := .value (.func 71), args := _, argTypes := _ }) _ _ _ _) _ = true then _ else _)); refine step_wanted rfl ?_; go_simp; go_at_call 71; refine (refTake_any g r u h _ l _ xg6 ⟨O1, O2, O3, O4, O5, O6⟩ r6 HWL.out.2 HNG.out HB1.out).mono ?_; rintro e w7 ⟨rfl, xg7, g7⟩; have xb7 := x6.kept g7 (by intro e; injection e with e; exact hbg e); have xc7 := xc6.kept g7 (by intro e; injection e with e; exact hcg e); have G7 := grow_new G6 hg0 g7; have c7 := xg7.c2; clear g7 G6 x6 xg6 xc6 r6)
              | ((with_reducible show (if Region.wanted (Oper.mk _ (Op.call { callee := .value (.func 72), args := _, argTypes := _ }) _ _ _ _) _ = true then _ else _)); refine step_wanted ?_ ?_; (focus go_simp); go_simp; go_at_call 72; refine (Left_any b r u (takeL l h) _ xb7).mono ?_; rintro e w8 ⟨rfl, rfl⟩))
             all_goals
              go_wp2
              go_meet
              exact ⟨rfl, xg7, xb7, xc7, G7⟩
            case rest =>
              obtain ⟨rfl, xg7, xb7, xc7, G7⟩ := hcut
              clear r4 r4' xb4 xg4 xc G4 HNG
              have Ol := (BOk.take (h := h) ⟨O1, O2, O3, O4, O5, O6⟩ l)
              by_cases h5 : k % 3 = 2
              · have h5' : (((k : Int) % 3) == 2) = true := by rw [beq_iff_eq]; omega
                go_wp2_with fail
                have q8 := RowAt.lit wc ([1, 1].map (Value.int .i64)) 3 2 2 rfl
                have A8 := World.grownBy_alloc wc (.cells ([1, 1].map (Value.int .i64)).toArray 3) none
                simp only [List.map_cons, List.map_nil] at q8 A8
                have xb8 := xb7.keep A8
                have hbl := xb7.lt
                refine (Take_any b r u (takeL l h) _ [1, 1] _ xb8 Ol q8 (by decide) (by rintro bb off n c e hn; injection e with e1; injection e1 with e1; injection e1 with e1; omega) (by decide)).mono ?_
                rintro e w9 ⟨rfl, _, g9⟩
                have xg9 := (xg7.keep A8).kept g9 (by intro e; injection e with e; exact hbg e.symm)
                have xc9 := (xc7.keep A8).kept g9 (by intro e; injection e with e; exact hcb e)
                have G9 := grow_new (grow_none G7 A8) hb0 g9
                clear q8 A8 xb8 hbl g9 G7 xg7 xb7 xc7
                have r9 := (r0.kept G9).kept (World.grownBy_alloc w9 (.cells #[] 3) none)
                go_wp2_with (at_builtin; refine wpList_append_row _ rfl _ _ 29 rfl 3 i0 (.int .i64 0) 8 Try.underlying29 hi hz0 hz1 hz2 rfl _ _ _ rfl (own_empty _ _ _) _ (l.map (Value.int .i64)) rfl r9 (ones_i64 l) (by rw [List.length_map]; show _ ≤ 2^63-1; omega) (by rw [List.length_map]; omega) ?_)
                intro v3 w10 o10 g10 mv10
                have X10 := grow_newblk (World.grownBy_alloc w9 (.cells #[] 3) none) (newblk_at w9 w9.heap.size 0 0 (Nat.le_refl _) 0) g10
                have N10 := (newblk_at w9 w9.heap.size 0 0 (Nat.le_refl _) 0).moved (World.grownBy_alloc w9 (.cells #[] 3) none).size mv10
                have hne10 := newblk_ne N10 xc9.lt
                have xc10 := xc9.keep X10
                have xg10 := xg9.keep X10
                have G10 := grow_none G9 X10
                have q10 := RowAt.of_own o10
                clear g10 mv10 X10 N10 xc9 xg9 G9 r9 o10
                go_wp2_with fail
                refine (Take_any cc r u h v3 l _ xc10 ⟨O1, O2, O3, O4, O5, O6⟩ (by simpa using q10) HWL.out.2 hne10 HB1.out).mono ?_
                rintro e w11 ⟨rfl, xc11, g11⟩
                have xg11 := xg10.kept g11 (by intro e; injection e with e; exact hcg e.symm)
                have G11 := grow_new G10 hc0 g11
                clear hne10 g11 G10 xg10 xc10 q10
                go_wp2_with fail
                refine (Tick_any cc r u (takeL l h) _ xc11 Ol).mono ?_
                rintro e w12 ⟨rfl, xc12, g12⟩
                have xg12 := xg11.kept g12 (by intro e; injection e with e; exact hcg e.symm)
                have G12 := grow_new G11 hc0 g12
                clear xc11 g12 xg11 G11
                go_wp2_with fail
                refine (refTick_any g r u (takeL l h) _ xg12 Ol).mono ?_
                rintro e w13 ⟨rfl, xg13, g13⟩
                have xc13 := xc12.kept g13 (by intro e; injection e with e; exact hcg e)
                have G13 := grow_new G12 hg0 g13
                have Ot := Ol.tick
                have c13 := xg13.c2
                clear xg12 xc12 g13 G12 Ol
                obtain ⟨h', hh'⟩ : ∃ h', h' = tickH r u (takeL l h) := ⟨_, rfl⟩
                rw [← hh'] at xg13 xc13 c13 Ot
                clear hh'
                go_wp2
                go_quiet ((go_at_call 72; exact (Left_any cc r u h' _ (xc13.keep (grow_drawnN _ (grow_refl _ _)))).mono fun e w' ⟨he, hw⟩ => ⟨he, _, hw.symm⟩))
                go_wp2
                go_roundw
                case rel => exact ⟨k + 1, by go_num, by omega, cc, h', rfl, hc0, hcg, xc13.keep (grow_drawnN _ (grow_refl _ _)), xg13.keep (grow_drawnN _ (grow_refl _ _)), Ot, grow_drawnN _ G13⟩
                case measure => simp [intOf]; omega
              · have h5' : (((k : Int) % 3) == 2) = false := by rw [beq_eq_false_iff_ne]; omega
                go_wp2_with fail
                refine (Tick_any b r u (takeL l h) _ xb7 Ol).mono ?_
                rintro e w12 ⟨rfl, xc12, g12⟩
                have xg12 := xg7.kept g12 (by intro e; injection e with e; exact hbg e.symm)
                have G12 := grow_new G7 hb0 g12
                clear xc7 xb7 xg7 g12 G7
                go_wp2_with fail
                refine (refTick_any g r u (takeL l h) _ xg12 Ol).mono ?_
                rintro e w13 ⟨rfl, xg13, g13⟩
                have xc13 := xc12.kept g13 (by intro e; injection e with e; exact hbg e)
                have G13 := grow_new G12 hg0 g13
                have Ot := Ol.tick
                have c13 := xg13.c2
                clear xg12 xc12 g13 G12 Ol
                obtain ⟨h', hh'⟩ : ∃ h', h' = tickH r u (takeL l h) := ⟨_, rfl⟩
                rw [← hh'] at xg13 xc13 c13 Ot
                clear hh'
                go_wp2
                go_quiet ((go_at_call 72; exact (Left_any b r u h' _ (xc13.keep (grow_drawnN _ (grow_refl _ _)))).mono fun e w' ⟨he, hw⟩ => ⟨he, _, hw.symm⟩))
                go_wp2
                go_roundw
                case rel => exact ⟨k + 1, by go_num, by omega, b, h', rfl, hb0, hbg, xc13.keep (grow_drawnN _ (grow_refl _ _)), xg13.keep (grow_drawnN _ (grow_refl _ _)), Ot, grow_drawnN _ G13⟩
                case measure => simp [intOf]; omega
        · go_wp2
          refine bodyPost_ret (v := .bool true) ?_ ?_ ?_
          · simp [results, go_sem]
          · rfl
          · exact ⟨rfl, below_of_none G⟩
  · have HOK := Lib.hid hok
    clear hok
    by_cases h3 : 1000 < ls.length
    · have h3' : decide ((1000 : Int) < ls.length) = true := by simp; omega
      go_enter Try.func17, Try.ntmps17
      go_wp2_with fail
      refine (New_bad r u _ HOK.out).mono ?_
      rintro e w1 ⟨rfl, rfl⟩
      go_wp2_with fail
      refine (refNew_bad r u _ HOK.out).mono ?_
      rintro e w1 ⟨rfl, rfl⟩
      go_wp2_with fail
      refine (awake16_any _).mono ?_
      rintro e w2 ⟨rfl, g2⟩
      go_wp2_with fail
      refine (awake16_any _).mono ?_
      rintro e w3 ⟨rfl, g3⟩
      have G3 := grow_none g2 g3
      clear g2 g3
      go_wp2
      go_ret
      exact ⟨rfl, below_of_none G3⟩
    · have h3' : decide ((1000 : Int) < ls.length) = false := by simp; omega
      go_enter Try.func17, Try.ntmps17
      go_wp2_with fail
      refine (New_bad r u _ HOK.out).mono ?_
      rintro e w1 ⟨rfl, rfl⟩
      go_wp2_with fail
      refine (refNew_bad r u _ HOK.out).mono ?_
      rintro e w1 ⟨rfl, rfl⟩
      go_wp2_with fail
      refine (awake16_any _).mono ?_
      rintro e w2 ⟨rfl, g2⟩
      have q2 := hrow.kept g2
      go_wp2
      go_loopw [53, 7] (fun i p wr => ∃ k : Nat, i = .int .i64 k ∧ k ≤ ls.length ∧ p = .pointer none ∧ wr = w2) (fun i _ _ => ls.length - (intOf i).toNat)
      case atStart => exact ⟨0, rfl, Nat.zero_le _, rfl, rfl⟩
      case round =>
        obtain ⟨k, rfl, hk, rfl, rfl⟩ := hrel
        by_cases hlt : k < ls.length
        · obtain ⟨bb, off, rfl, hcell, _⟩ := row_val q2 HVL.out hlt
          obtain ⟨ra, rc, hrk⟩ := (HROWS.out k hlt).len
          rw [hrk] at hcell
          have hlti : (k : Int) < ls.length := by omega
          go_wp2
          refine bodyPost_ret (v := .bool true) ?_ ?_ ?_
          · simp [results, go_sem]
          · rfl
          · exact ⟨rfl, below_of_none g2⟩
        · go_wp2
          refine bodyPost_ret (v := .bool true) ?_ ?_ ?_
          · simp [results, go_sem]
          · rfl
          · exact ⟨rfl, below_of_none g2⟩
end Go.Proofs.Ytkmpcncehicpmaa
