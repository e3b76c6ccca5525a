/- The law HuntTicks: its walk. -/
import Derived.Test.YtjngbmepndhkpaaHuD
namespace Go.Proofs.Ytjngbmepndhkpaa
open Go.RowKit
set_option linter.unusedVariables false
theorem row_val {w : World} {a : Option Addr} {c : Nat} {vs : List Value} {n : Nat} {k : Nat} (h : RowAt w (.slice a n c) vs) (hn : vs.length = n) (hk : k < n) :
    ∃ bb off, a = some ⟨bb, off, none⟩ ∧ w.cell? ⟨bb, off + k, none⟩ = some (vs.getD k undef) ∧ bb < w.heap.size := by
  subst hn
  obtain ⟨a', c', e, h⟩ := h
  injection e with e1 e2 e3
  subst e1
  rcases h with h | ⟨b, off, rfl, hb, hc⟩
  · subst h; simp at hk
  · exact ⟨b, off, rfl, hc k hk, hb⟩
/-- A tick with a list of the call's own. -/
theorem Tick_own (b me t : Nat) (v : Value) (l : List ByteArray) (w : World) (n : Nat) (xs : List Value) (h : HAt w b me t) (ho : w.ownsRow 0 9 1 v n xs) (e : xs = l.map Value.string) (hb : ∀ k, v.ownBlock = some k → k ≠ b) (hl : l.length ≤ 1000000) (hme : me < 6) (ht : t ≤ 1000000) :
    Calls Try.prog 9 #[.pointer (some ⟨b, 0, none⟩), v] w (Ticked w b me t l) := by
  subst e
  exact Tick_any b me t v l w h ⟨RowAt.of_own ho, own_cap ho⟩ hl hme ht (by rintro bb off n c rfl; exact hb bb rfl)
set_option maxRecDepth 100000 in
set_option maxHeartbeats 4000000 in
theorem law_HuntTicks (n : Int) (hn : -9223372036854775808 ≤ n ∧ n ≤ 9223372036854775807) (v : Value) (vs : List Value) {w : World} (hr : RowAt w v vs)
    (hts : ∀ u ∈ vs, ∃ l : List ByteArray, RowAt w u (l.map Value.string) ∧ (∀ s ∈ l, s.size ≤ maxLen) ∧ l.length ≤ maxLen) (hl : vs.length ≤ maxLen) :
    Calls Try.prog 3 #[.int .i64 n, v] w fun e w' => e = .returned (.bool true) ∧ Below w.heap.size w w' := by
  obtain ⟨i0, hi, hz0, hz1, hz2⟩ := info_parts Try.info19_string
  obtain ⟨av, cv, rfl⟩ := hr.len
  have il : (vs.length : Int) ≤ 9223372036854775807 := by unfold maxLen at hl; omega
  have HTS := Lib.hid hts
  clear hts hl
  by_cases hm : 0 ≤ n ∧ n < 6
  · obtain ⟨me, rfl⟩ : ∃ me : Nat, n = (me : Int) := ⟨n.toNat, by omega⟩
    have hme : me < 6 := by omega
    have d1 : decide ((0 : Int) ≤ (me : Int)) = true := decide_eq_true (by omega)
    have d2 : decide ((me : Int) ≤ 5) = true := decide_eq_true (by omega)
    clear hm hn
    go_enter Try.func3, Try.ntmps3
    go_wp2_with fail
    refine (New_yes me w hme).mono ?_
    rintro e w1 ⟨rfl, h1, g1⟩
    go_wp2_with fail
    refine (awake19_any _).mono ?_
    rintro e w2 ⟨rfl, g2⟩
    have H2 := h1.keep g2
    have G2 := grow_none g1 g2
    clear g1 g2 h1
    by_cases h200 : 200 < vs.length
    · have d3 : decide ((200 : Int) < (vs.length : Int)) = true := decide_eq_true (by omega)
      go_wp2_with fail
      go_ret
      exact ⟨rfl, below_of_none G2⟩
    · have d3 : decide ((200 : Int) < (vs.length : Int)) = false := decide_eq_false (by omega)
      have hv200 : vs.length ≤ 200 := by omega
      go_wp2_with fail
      go_loopw [5, 48] (fun hv i wr => ∃ (k b : Nat), k ≤ vs.length ∧ hv = .pointer (some ⟨b, 0, none⟩) ∧ i = .int .i64 k ∧ HAt wr b me k ∧ w.heap.size ≤ b ∧ w.grownBy wr none) (fun _ i _ => vs.length - (intOf i).toNat)
      case atStart => exact ⟨0, w.heap.size, Nat.zero_le _, rfl, rfl, H2, Nat.le_refl _, G2⟩
      case round =>
        obtain ⟨k, b, hk, rfl, rfl, H3, hb, G3⟩ := hrel
        clear H2 G2
        by_cases hlt : k < vs.length
        · obtain ⟨b1, o1, rfl, c1, _⟩ := row_val (hr.kept G3) rfl hlt
          obtain ⟨u, hu⟩ : ∃ u, u = vs.getD k undef := ⟨_, rfl⟩
          rw [← hu] at c1
          obtain ⟨l, hrl, hsl, hll⟩ := HTS.out u (by rw [hu, List.getD, List.getElem?_eq_getElem hlt]; exact List.getElem_mem hlt)
          have hki : (k : Int) < vs.length := by omega
          have hk2 : k ≤ 200 := by omega
          have hk3 : (k : Int) ≤ 200 := by omega
          have HMN := Lib.hid (many19_any u l _ (hrl.kept G3) hll hsl)
          clear hu hll hsl
          go_wp2_with fail
          refine HMN.out.mono ?_
          rintro e w4 ⟨he, rfl⟩
          rcases he with rfl | ⟨rfl, hl4⟩
          · go_wp2_with fail
            refine bodyPost_ret (v := .bool true) ?_ ?_ ?_
            · simp [results, go_sem]
            · rfl
            · exact ⟨rfl, below_of_none G3⟩
          · clear HMN
            have hl5 : (l.length : Int) ≤ 4096 := by omega
            go_wp2_with fail
            refine (Copy_any b me k _ H3).mono ?_
            rintro e w4 ⟨c, rfl, hc, H4c, g4⟩
            have H4 := H3.keep g4
            have G4 := grow_none G3 g4
            have hbc : b < c := Nat.lt_of_lt_of_le H3.lt hc
            have r4 := (hrl.kept G4).kept (World.grownBy_alloc w4 (.cells #[] 9) none)
            clear H3 g4 hc
            go_wp2_with (at_builtin; refine wpList_append_row _ rfl _ _ 28 rfl 9 i0 (.string ⟨#[]⟩) 16 Try.underlying28 hi hz0 hz1 hz2 rfl _ _ _ rfl (own_empty _ _ _) _ (l.map Value.string) rfl r4 (ones_str l) (by rw [List.length_map]; show _ ≤ 2^63-1; omega) (by rw [List.length_map]; omega) ?_)
            intro v5 w5 o5 g5 m5
            have X5 := grow_newblk (World.grownBy_alloc w4 (.cells #[] 9) none) (newblk_at w4 w4.heap.size 0 0 (Nat.le_refl _) 0) g5
            have N5 := (newblk_at w4 w4.heap.size 0 0 (Nat.le_refl _) 0).moved (w1 := w4.alloc (.cells #[] 9)) (by simp) m5
            have H5 := H4.keep X5
            have H5c := H4c.keep X5
            have G5 := grow_none G4 X5
            have hb4 := H4.lt
            clear r4 g5 m5 X5
            go_wp2_with fail
            refine (Tick_own b me k v5 l _ _ _ H5 o5 (by simp) (fun x hx e => by have := N5 x hx; omega) (by omega) hme (by omega)).mono ?_
            rintro e w6 ⟨v6, rfl, r6, H6, g6⟩
            have H6c := H5c.kept g6 (Nat.ne_of_gt hbc)
            have G6 := grow_new G5 hb g6
            clear H4 H4c H5 H5c g6 N5 o5 hb4
            go_wp2_with fail
            refine (refTick_any me k u l _ (hrl.kept G6) (by omega) hme (by omega)).mono ?_
            rintro e w7 ⟨v7, rfl, r7, g7⟩
            have r67 := r6.1.kept g7
            have H7 := H6.keep g7
            have H7c := H6c.keep g7
            have G7 := grow_none G6 g7
            have hrn : (rowL l (k / 5)).length ≤ maxLen := by unfold rowL maxLen; rw [List.length_take, List.length_drop]; omega
            clear H6 H6c r6 g7
            obtain ⟨who, hwho⟩ : ∃ x, x = whoT me k l := ⟨_, rfl⟩
            rw [← hwho]
            have HW := Lib.hid hwho
            clear hwho
            go_wp2_with fail
            refine (Same_any v6 v7 (rowL l (k / 5)) (rowL l (k / 5)) _ r67 r7 hrn hrn).mono ?_
            rintro e w8 ⟨rfl, g8⟩
            rw [show decide (rowL l (k / 5) = rowL l (k / 5)) = true from decide_eq_true rfl]
            have H8 := H7.keep g8
            have H8c := H7c.keep g8
            have G8 := grow_none G7 g8
            clear H7 H7c g8 r67 r7 hrn
            go_wp2_with fail
            refine (Turn_any b me (k + 1) _ H8).mono ?_
            rintro e w9 ⟨rfl, rfl⟩
            obtain ⟨r, hr3⟩ : ∃ r, r = k % 3 := ⟨_, rfl⟩
            have t1 : (k : Int).tmod 3 = (r : Int) := by rw [Int.tmod_eq_emod_of_nonneg (by omega)]; omega
            have t2 : (k : Int) % 3 = (r : Int) := by omega
            have t3 : ((k + 1 : Nat) : Int) = (k : Int) + 1 := by omega
            by_cases h3 : r = 0
            · subst h3
              clear hr3
              go_wp2_with fail
              refine (Tick_lit b me (k + 1) _ [⟨#[120]⟩] _ 1 rfl rfl H8 (by decide) hme (by omega)).mono ?_
              rintro e w10 ⟨v10, rfl, _, H10, g10⟩
              have H10c := H8c.kept g10 (Nat.ne_of_gt hbc)
              have G10 := grow_new G8 hb g10
              have r10 := (hrl.kept G10).kept (World.grownBy_alloc w10 (.cells #[] 9) none)
              clear H8 H8c g10 G8 H10
              go_wp2_with (at_builtin; refine wpList_append_row _ rfl _ _ 28 rfl 9 i0 (.string ⟨#[]⟩) 16 Try.underlying28 hi hz0 hz1 hz2 rfl _ _ _ rfl (own_empty _ _ _) _ (l.map Value.string) rfl r10 (ones_str l) (by rw [List.length_map]; show _ ≤ 2^63-1; omega) (by rw [List.length_map]; omega) ?_)
              intro v11 w11 o11 g11 m11
              have X11 := grow_newblk (World.grownBy_alloc w10 (.cells #[] 9) none) (newblk_at w10 w10.heap.size 0 0 (Nat.le_refl _) 0) g11
              have N11 := (newblk_at w10 w10.heap.size 0 0 (Nat.le_refl _) 0).moved (w1 := w10.alloc (.cells #[] 9)) (by simp) m11
              have H11 := H10c.keep X11
              have hlt10 := H10c.lt
              have G11 := grow_none G10 X11
              clear g11 m11 X11 r10
              go_wp2_with fail
              refine (Tick_own c me k v11 l _ _ _ H11 o11 (by simp) (fun x hx e => by have := N11 x hx; omega) (by omega) hme (by omega)).mono ?_
              rintro e w12 ⟨v12, rfl, _, H12, g12⟩
              have G12 := grow_new G11 (Nat.le_trans hb (Nat.le_of_lt hbc)) g12
              go_wp2_with fail
              go_roundw
              case rel => exact ⟨k + 1, c, by omega, rfl, by go_num, H12, by omega, G12⟩
              case measure => simp [intOf]; omega
            · have t4 : ((r : Int) == 0) = false := by simp; omega
              clear hr3
              go_wp2_with fail
              go_roundw
              case rel => exact ⟨k + 1, b, by omega, rfl, by go_num, H8, hb, G8⟩
              case measure => simp [intOf]; omega
        · obtain rfl : k = vs.length := by omega
          go_wp2_with fail
          go_ret
          exact ⟨rfl, below_of_none G3⟩
  · have hcase : decide ((0 : Int) ≤ n) = false ∨ (decide ((0 : Int) ≤ n) = true ∧ decide (n ≤ 5) = false) := by
      by_cases h0 : 0 ≤ n
      · exact .inr ⟨decide_eq_true h0, decide_eq_false (by omega)⟩
      · exact .inl (decide_eq_false h0)
    have hN := New_no n w hn (by omega)
    have HN := Lib.hid hN
    clear hm hN
    rcases hcase with d1 | ⟨d1, d2⟩
    all_goals
      go_enter Try.func3, Try.ntmps3
      go_wp2_with fail
      refine HN.out.mono ?_
      rintro e w1 ⟨rfl, rfl⟩
      go_wp2_with fail
      refine (awake19_any _).mono ?_
      rintro e w2 ⟨rfl, g2⟩
      go_wp2_with fail
      go_ret
      exact ⟨rfl, below_of_none g2⟩
end Go.Proofs.Ytjngbmepndhkpaa
