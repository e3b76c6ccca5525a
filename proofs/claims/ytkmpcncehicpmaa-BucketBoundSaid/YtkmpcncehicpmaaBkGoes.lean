/- The law BucketGoes: its walk. -/
import Derived.Test.YtkmpcncehicpmaaBkC
namespace Go.Proofs.Ytkmpcncehicpmaa
open Go.RowKit
set_option linter.unusedVariables false
theorem Try.info3 : (Try.prog.info? 3).map (fun i => (i.zero, i.size, i.bytes)) = some (some (.int .i64 0), 1, 8) := by kernel_rfl
theorem newblk_ne {w : World} {v : Value} (h : NewBlk w v) {b : Nat} (hb : b < w.heap.size) : ∀ bb off n c, v = .slice (some ⟨bb, off, none⟩) n c → 0 < n → bb ≠ b := by
  rintro bb off n c rfl hn e
  have := h bb rfl
  omega
theorem one_bd {n : Int} (h : -9223372036854775808 ≤ n ∧ n ≤ 9223372036854775807) : ∀ m ∈ [n], -9223372036854775808 ≤ m ∧ m ≤ 9223372036854775807 := by
  intro m hm
  rw [List.mem_singleton] at hm
  rw [hm]; exact h
theorem one_lenI {n : Int} : [n].length ≤ maxLen := by show 1 ≤ 2 ^ 63 - 1; omega
theorem takeN_one (n h : Int) (h0 : 0 ≤ n) : takeN [n] h = if n ≤ h then 1 else 0 := by
  unfold takeN
  by_cases hh : n ≤ h
  · rw [if_neg (by omega), if_pos hh]; rfl
  · rw [if_pos (by omega), if_neg hh]
theorem takeL_one_no (n h : Int) (hh : h < n) : takeL [n] h = h := by
  unfold takeL
  rw [if_pos (by omega)]
def GoesAt (t : TypeId) (b : Nat) (r u : Int) (w0 : World) (v : Value) (w : World) : Prop :=
  ∃ L h : Int, v = .int .i64 L ∧ 0 ≤ L ∧ L ≤ 30000 ∧ (h = if L ≤ u then L else u) ∧ Bk t w b r u h ∧ w0.grownBy w none
set_option maxRecDepth 100000 in
set_option maxHeartbeats 1000000 in
theorem law_BucketGoes (r : Int) (hr : -9223372036854775808 ≤ r ∧ r ≤ 9223372036854775807) (u : Int) (hu : -9223372036854775808 ≤ u ∧ u ≤ 9223372036854775807) (v : Value) (l : List Int) {w : World} (hrow : RowAt w v (l.map (Value.int .i64)))
    (hw : ∀ n ∈ l, -9223372036854775808 ≤ n ∧ n ≤ 9223372036854775807) (hl : l.length ≤ maxLen) (n : Int) (hn : -9223372036854775808 ≤ n ∧ n ≤ 9223372036854775807) (_ : World) :
    Calls Try.prog 19 #[.int .i64 r, .int .i64 u, v, .int .i64 n] w fun e w' => e = .returned (.bool true) ∧ Below w.heap.size w w' := by
  obtain ⟨i0, hi, hz0, hz1, hz2⟩ := info_parts Try.info3
  obtain ⟨a, c, rfl⟩ := hrow.len
  rw [List.length_map] at hrow ⊢
  have HL := Lib.hid hl
  have HW := Lib.hid hw
  have HN := Lib.hid hn
  have HR := Lib.hid hr
  have HU := Lib.hid hu
  have hl63 : (l.length : Int) ≤ 9223372036854775807 := by unfold maxLen at hl; omega
  clear hl hw hn hr hu
  by_cases hok : 1 ≤ r ∧ r ≤ 4096 ∧ 64 ≤ u ∧ u ≤ 16384
  · by_cases hbad : n < 0 ∨ u < n ∨ 1000 < l.length
    · have hc : decide (n < 0) = true ∨ (decide (n < 0) = false ∧ decide (u < n) = true) ∨ (decide (n < 0) = false ∧ decide (u < n) = false ∧ decide ((1000 : Int) < l.length) = true) := by
        simp only [decide_eq_true_eq, decide_eq_false_iff_not]; omega
      have HOK := Lib.hid hok
      clear hbad hok
      rcases hc with h1 | ⟨h1, h2⟩ | ⟨h1, h2, h3⟩
      all_goals
        go_enter Try.func19, Try.ntmps19
        go_wp2_with fail
        refine (New_ok r u _ HOK.out).mono ?_
        rintro e w1 ⟨rfl, rfl⟩
        go_wp2_with fail
        refine (awake16_any _).mono ?_
        rintro e w2 ⟨rfl, g2⟩
        go_wp2_with fail
        refine (awake16_any _).mono ?_
        rintro e w3 ⟨rfl, g3⟩
        have G3 := grow_none (World.grownBy_alloc w (.cells #[.int .i64 r, .int .i64 u, .int .i64 u] 148) none) (grow_none g2 g3)
        clear g2 g3
        go_wp2
        go_ret
        exact ⟨rfl, below_of_none G3⟩
    · have h1 : decide (n < 0) = false := by simp only [decide_eq_false_iff_not]; omega
      have h2 : decide (u < n) = false := by simp only [decide_eq_false_iff_not]; omega
      have h3 : decide ((1000 : Int) < l.length) = false := by simp only [decide_eq_false_iff_not]; omega
      have n0 : 0 ≤ n := by omega
      have nu : n ≤ u := by omega
      have l1 : (l.length : Int) ≤ 1000 := by omega
      have u2 : u ≤ 16384 := hok.2.2.2
      have u1 : 64 ≤ u := hok.2.2.1
      have r1 : 1 ≤ r := hok.1
      have r2 : r ≤ 4096 := hok.2.1
      have O : BOk r u u := ⟨r1, r2, u1, u2, by omega, by omega⟩
      have HOK := Lib.hid hok
      clear hbad hok
      go_enter Try.func19, Try.ntmps19
      go_wp2_with fail
      refine (New_ok r u _ HOK.out).mono ?_
      rintro e w1 ⟨rfl, rfl⟩
      have hb : Bk 148 (w.alloc (.cells #[.int .i64 r, .int .i64 u, .int .i64 u] 148)) w.heap.size r u u := Blk.new _ _ [.int .i64 r, .int .i64 u, .int .i64 u]
      have gb := World.grownBy_alloc w (.cells #[.int .i64 r, .int .i64 u, .int .i64 u] 148) none
      obtain ⟨b, hbe⟩ : ∃ b, b = w.heap.size := ⟨_, rfl⟩
      have hb0 : w.heap.size ≤ b := by omega
      rw [← hbe] at hb ⊢
      clear hbe
      generalize w.alloc (.cells #[.int .i64 r, .int .i64 u, .int .i64 u] 148) = w1 at hb gb ⊢
      go_wp2_with fail
      refine (awake16_any _).mono ?_
      rintro e w2 ⟨rfl, g2⟩
      have G2 := grow_none gb g2
      have x2 := hb.keep g2
      have q2 := hrow.kept G2
      clear gb g2 hb
      have r2' := q2.kept (World.grownBy_alloc w2 (.cells #[] 3) none)
      go_wp2_with (at_builtin; refine wpList_append_row _ rfl _ _ 29 rfl 3 i0 (.int .i64 0) 8 Try.underlying29 hi hz0 hz1 hz2 rfl _ _ _ rfl (own_empty _ _ _) _ (l.map (Value.int .i64)) rfl r2' (ones_i64 l) (by rw [List.length_map]; show _ ≤ 2^63-1; omega) (by rw [List.length_map]; omega) ?_)
      intro v3 w3 o3 g3 mv3
      have X3 := grow_newblk (World.grownBy_alloc w2 (.cells #[] 3) none) (newblk_at w2 w2.heap.size 0 0 (Nat.le_refl _) 0) g3
      have N3 := (newblk_at w2 w2.heap.size 0 0 (Nat.le_refl _) 0).moved (World.grownBy_alloc w2 (.cells #[] 3) none).size mv3
      have G3 := grow_none G2 X3
      have x3 := x2.keep X3
      have r3 := RowAt.of_own o3
      have hne := newblk_ne N3 x2.lt
      clear g3 mv3 o3 r2' q2 G2 X3
      go_wp2_with fail
      refine (Take_any b r u u v3 l _ x3 O (by simpa using r3) HL.out hne HW.out).mono ?_
      rintro e w4 ⟨rfl, x4, g4⟩
      have G4 := grow_new G3 hb0 g4
      have O4 := O.take l
      obtain ⟨h, hh⟩ : ∃ h, h = takeL l u := ⟨_, rfl⟩
      rw [← hh] at x4 O4
      clear hh hne g4 G3 N3 x3 x2 r3
      go_wp2_with fail
      refine (Left_any b r u h _ x4).mono ?_
      rintro e w5 ⟨rfl, rfl⟩
      have t0 : GoesAt 148 b r u w (.int .i64 h) w4 := ⟨h, h, rfl, O4.h1, by have := O4.h2; omega, by rw [if_pos O4.h2], x4, G4⟩
      clear O4 x4 G4
      go_wp2_with fail
      go_loopw [11] (fun q wr => GoesAt 148 b r u w q wr) (fun q _ => (n - intOf q).toNat)
      case atStart => exact t0
      case round =>
        clear t0
        obtain ⟨L, h', rfl, hL0, hL1, hh', x5, G5⟩ := hrel
        by_cases hlt : L < n
        · obtain rfl : h' = L := by rw [hh', if_pos (by omega)]
          have hd : decide (h' < n) = true := by simpa using hlt
          have r6 := RowAt.lit wr ([n].map (Value.int .i64)) 3 1 1 rfl
          have x6 := x5.keep (World.grownBy_alloc wr (.cells ([n].map (Value.int .i64)).toArray 3) none)
          have G6 := grow_none G5 (World.grownBy_alloc wr (.cells ([n].map (Value.int .i64)).toArray 3) none)
          have hlt5 := x5.lt
          simp only [List.map_cons, List.map_nil] at r6 x6 G6
          have O6 : BOk r u h' := ⟨r1, r2, u1, u2, hL0, by omega⟩
          have H1 := Lib.hid hh'
          clear hh' G5
          go_wp2_with fail
          refine (Take_any b r u h' _ [n] _ x6 O6 r6 one_lenI (by rintro bb off m c e hn; injection e with e1; injection e1 with e1; injection e1 with e1; omega) (one_bd HN.out)).mono ?_
          rintro e w7 ⟨rfl, x7, g7⟩
          rw [takeN_one n h' n0, if_neg (by omega)]
          rw [takeL_one_no n h' (by omega)] at x7
          have G7 := grow_new G6 hb0 g7
          clear g7 G6 x6 r6
          go_wp2_with fail
          refine (Tick_any b r u h' _ x7 O6).mono ?_
          rintro e w8 ⟨rfl, x8, g8⟩
          have G8 := grow_new G7 hb0 g8
          go_wp2
          go_roundw
          case rel => exact ⟨h' + r, _, rfl, by omega, by omega, by unfold tickH; rfl, x8, G8⟩
          case measure => simp [intOf]; omega
        · have hd : decide (L < n) = false := by simpa using hlt
          have r6 := RowAt.lit wr ([n].map (Value.int .i64)) 3 1 1 rfl
          have x6 := x5.keep (World.grownBy_alloc wr (.cells ([n].map (Value.int .i64)).toArray 3) none)
          have G6 := grow_none G5 (World.grownBy_alloc wr (.cells ([n].map (Value.int .i64)).toArray 3) none)
          have hlt5 := x5.lt
          simp only [List.map_cons, List.map_nil] at r6 x6 G6
          have hh1 : 0 ≤ h' ∧ h' ≤ u ∧ n ≤ h' := by rw [hh']; split <;> omega
          have O6 : BOk r u h' := ⟨r1, r2, u1, u2, hh1.1, hh1.2.1⟩
          have H1 := Lib.hid hh'
          have H2 := Lib.hid hh1
          clear hh' G5 hh1
          go_wp2_with fail
          refine (Take_any b r u h' _ [n] _ x6 O6 r6 one_lenI (by rintro bb off m c e hn; injection e with e1; injection e1 with e1; injection e1 with e1; omega) (one_bd HN.out)).mono ?_
          rintro e w7 ⟨rfl, x7, g7⟩
          rw [takeN_one n h' n0, if_pos H2.out.2.2]
          have G7 := grow_new G6 hb0 g7
          go_wp2
          go_ret
          exact ⟨rfl, below_of_none G7⟩
  · have HOK := Lib.hid hok
    clear hok
    go_enter Try.func19, Try.ntmps19
    go_wp2_with fail
    refine (New_bad r u _ HOK.out).mono ?_
    rintro e w1 ⟨rfl, rfl⟩
    go_wp2_with fail
    refine (awake16_any _).mono ?_
    rintro e w2 ⟨rfl, g2⟩
    go_wp2_with fail
    refine (awake16_any _).mono ?_
    rintro e w3 ⟨rfl, g3⟩
    have G3 := grow_none g2 g3
    clear g2 g3
    go_wp2
    go_ret
    exact ⟨rfl, below_of_none G3⟩
end Go.Proofs.Ytkmpcncehicpmaa
