/- The document's bucket: Take; what the statements ask first: awake. -/
import Derived.Test.YtkmpcncehicpmaaBkB
namespace Go.Proofs.Ytkmpcncehicpmaa
open Go.RowKit
set_option linter.unusedVariables false
set_option maxRecDepth 100000 in
set_option maxHeartbeats 1000000 in
theorem refTake_any (b : Nat) (r u h : Int) (v : Value) (l : List Int) (w : World) (x : Bk 100 w b r u h) (o : BOk r u h) (hr : RowAt w v (l.map (Value.int .i64))) (hl : l.length ≤ maxLen) (hne : ∀ bb off n c, v = .slice (some ⟨bb, off, none⟩) n c → 0 < n → bb ≠ b)
    (hw : ∀ n ∈ l, -9223372036854775808 ≤ n ∧ n ≤ 9223372036854775807) :
    Calls Try.prog 71 #[.pointer (some ⟨b, 0, none⟩), v] w fun e w' => e = .returned (.int .i64 (takeN l h : Nat)) ∧ Bk 100 w' b r u (takeL l h) ∧ w.grownBy w' (some b) := by
  obtain ⟨a, c, rfl⟩ := hr.len
  rw [List.length_map] at hr hne ⊢
  unfold maxLen at hl
  have hl' : (l.length : Int) ≤ 9223372036854775807 := by omega
  have HW := Lib.hid hw
  have HNE := Lib.hid hne
  have t0 : TakeAt 100 l r u h b w 0 w := ⟨h, x, o.h1, by have := o.h2; have := o.u2; omega, rfl, rfl, grow_refl _ _⟩
  obtain ⟨o1, o2, o3, o4, o5, o6⟩ := o
  clear hl hw hne
  go_enter Try.func71, Try.ntmps71
  go_wp2
  go_loopw [5] (fun i wr => ∃ k : Nat, i = .int .i64 k ∧ k ≤ l.length ∧ TakeAt 100 l r u h b w k wr) (fun i _ => l.length - (intOf i).toNat)
  case atStart => exact ⟨0, rfl, Nat.zero_le _, t0⟩
  case round =>
    obtain ⟨k, rfl, hk, h', hx, hh0, hh1, hN, hL, hg⟩ := hrel
    have HN := Lib.hid hN
    have HL := Lib.hid hL
    clear t0 hN hL
    by_cases hlt : k < l.length
    · obtain ⟨bb, off, rfl, hcell0, hbb⟩ := row_i64 hr hlt
      have hbn := HNE.out _ _ _ _ rfl (by omega)
      obtain ⟨s, hs⟩ : ∃ s, s = l.getD k 0 := ⟨_, rfl⟩
      have hsb := HW.out (l.getD k 0) (by rw [List.getD, List.getElem?_eq_getElem hlt]; exact List.getElem_mem hlt)
      rw [← hs] at hcell0 hsb
      have hcell : wr.cell? ⟨bb, off + k, none⟩ = some (.int .i64 s) := by
        rw [← hcell0]; exact World.cell?_of_block (hg.block bb hbb (by intro e; injection e with e; exact hbn e))
      have HS := Lib.hid hs
      have c2 := hx.c2
      have f2 := hx.fr 2
      have hlti : (k : Int) < l.length := by omega
      have hk0 : (0 : Int) ≤ k := by omega
      obtain ⟨hsb1, hsb2⟩ := hsb
      clear hs hcell0
      by_cases h1 : s < 0
      · have h1' : decide (s < 0) = true := by simpa using h1
        have HE := Lib.hid (take_stop l h k h' hlt HN.out HL.out (by rw [← HS.out]; exact .inl h1))
        go_wp2
        go_quiet (fail)
        go_wp2
        go_ret
        exact ⟨by rw [HE.out.1]; rfl, by rw [HE.out.2]; exact hx, grow_drawnN _ hg⟩
      · have h1' : decide (s < 0) = false := by simpa using h1
        by_cases h2 : h' < s
        · have h2' : decide (h' < s) = true := by simpa using h2
          have HE := Lib.hid (take_stop l h k h' hlt HN.out HL.out (by rw [← HS.out]; exact .inr h2))
          go_wp2
          go_quiet (fail)
          go_wp2
          go_ret
          exact ⟨by rw [HE.out.1]; rfl, by rw [HE.out.2]; exact hx, grow_drawnN _ hg⟩
        · have h2' : decide (h' < s) = false := by simpa using h2
          have hs0 : 0 ≤ s := by omega
          have hs1 : s ≤ h' := by omega
          have HE := Lib.hid (take_step l h k h' hlt HN.out HL.out (by rw [← HS.out]; omega))
          go_wp2
          go_quiet (fail)
          go_wp2
          go_region
          all_goals
            go_wp2
            go_roundw
            case rel => exact ⟨k + 1, by go_num, by omega, h' - s, hx.set2 _, by omega, by omega, by rw [HS.out]; exact HE.out.1, by rw [HS.out]; exact HE.out.2, grow_same (grow_drawnN _ hg) (grow_set _ _ _)⟩
            case measure => simp [intOf]; omega
    · obtain rfl : k = l.length := by omega
      have HE := Lib.hid (take_end l h h' HN.out HL.out)
      go_wp2
      go_ret
      exact ⟨by rw [HE.out.1]; rfl, by rw [HE.out.2]; exact hx, hg⟩
set_option maxRecDepth 100000 in
set_option maxHeartbeats 1000000 in
theorem awake16_any (w : World) :
    Calls Try.prog 68 #[] w fun e w' => e = .returned (.bool true) ∧ w.grownBy w' none := by
  go_enter Try.func68, Try.ntmps68
  go_wp2_with fail
  refine (New_ok 10 100 _ (by omega)).mono ?_
  rintro e w1 ⟨rfl, rfl⟩
  have hb : Bk 148 (w.alloc (.cells #[.int .i64 10, .int .i64 100, .int .i64 100] 148)) w.heap.size 10 100 100 := Blk.new _ _ [.int .i64 10, .int .i64 100, .int .i64 100]
  have gb := World.grownBy_alloc w (.cells #[.int .i64 10, .int .i64 100, .int .i64 100] 148) none
  obtain ⟨b, hbe⟩ : ∃ b, b = w.heap.size := ⟨_, rfl⟩
  have hb0 : w.heap.size ≤ b := by omega
  have hsz : (w.alloc (.cells #[.int .i64 10, .int .i64 100, .int .i64 100] 148)).heap.size = b + 1 := by simp [hbe]
  rw [← hbe] at hb ⊢
  have HBE := Lib.hid hbe
  clear hbe
  generalize w.alloc (.cells #[.int .i64 10, .int .i64 100, .int .i64 100] 148) = w1 at hb gb hsz ⊢
  have HSZ := Lib.hid hsz
  have hsl : b + 1 ≤ w1.heap.size := by omega
  have r1 := RowAt.lit w1 ([60, 50, 1].map (Value.int .i64)) 3 3 3 rfl
  have x1 := hb.keep (World.grownBy_alloc w1 (.cells ([60, 50, 1].map (Value.int .i64)).toArray 3) none)
  have g1 := grow_none gb (World.grownBy_alloc w1 (.cells ([60, 50, 1].map (Value.int .i64)).toArray 3) none)
  simp only [List.map_cons, List.map_nil] at r1 x1 g1
  clear hsz hb gb
  go_wp2_with fail
  refine (Take_any b 10 100 100 _ [60, 50, 1] _ x1 ⟨by omega, by omega, by omega, by omega, by omega, by omega⟩ r1 (by decide) (by rintro bb off n c e hn; injection e with e1; injection e1 with e1; injection e1 with e1; omega) (by decide)).mono ?_
  rintro e w2 ⟨rfl, x2, g2⟩
  have G2 := grow_new g1 hb0 g2
  rw [show takeL [60, 50, 1] 100 = 40 from by decide] at x2
  rw [show takeN [60, 50, 1] 100 = 1 from by decide]
  clear g1 g2 r1 x1
  go_wp2_with fail
  refine (Left_any b 10 100 40 _ x2).mono ?_
  rintro e w3 ⟨rfl, rfl⟩
  go_wp2_with fail
  refine (Tick_any b 10 100 40 _ x2 ⟨by omega, by omega, by omega, by omega, by omega, by omega⟩).mono ?_
  rintro e w4 ⟨rfl, x4, g4⟩
  rw [show tickH 10 100 40 = 50 from by decide] at x4
  have G4 := grow_new G2 hb0 g4
  clear G2 g4 x2
  go_wp2_with fail
  refine (New_bad 0 100 _ (by omega)).mono ?_
  rintro e w5 ⟨rfl, rfl⟩
  go_wp2_with fail
  refine (Left_any b 10 100 50 _ x4).mono ?_
  rintro e w5 ⟨rfl, rfl⟩
  have hlt := x4.lt
  have r5 := RowAt.lit w4 ([-1].map (Value.int .i64)) 3 1 1 rfl
  have x5 := x4.keep (World.grownBy_alloc w4 (.cells ([-1].map (Value.int .i64)).toArray 3) none)
  have G5 := grow_none G4 (World.grownBy_alloc w4 (.cells ([-1].map (Value.int .i64)).toArray 3) none)
  simp only [List.map_cons, List.map_nil] at r5 x5 G5
  go_wp2_with fail
  refine (Take_any b 10 100 50 _ [-1] _ x5 ⟨by omega, by omega, by omega, by omega, by omega, by omega⟩ r5 (by decide) (by rintro bb off n c e hn; injection e with e1; injection e1 with e1; injection e1 with e1; omega) (by decide)).mono ?_
  rintro e w6 ⟨rfl, x6, g6⟩
  have G6 := grow_new G5 hb0 g6
  rw [show takeN [-1] 50 = 0 from by decide]
  go_wp2
  go_ret
  exact ⟨rfl, G6⟩
set_option maxRecDepth 100000 in
set_option maxHeartbeats 1000000 in
theorem law_BucketNil (n : Int) (hn : -9223372036854775808 ≤ n ∧ n ≤ 9223372036854775807) (w : World) :
    Calls Try.prog 20 #[.int .i64 n] w fun e w' => e = .returned (.bool true) ∧ Below w.heap.size w w' := by
  have HN := Lib.hid hn
  clear hn
  go_enter Try.func20, Try.ntmps20
  go_wp2_with fail
  refine (Tick_nil _).mono ?_
  rintro e w2 ⟨rfl, rfl⟩
  go_wp2_with fail
  refine (awake16_any _).mono ?_
  rintro e w3 ⟨rfl, g3⟩
  go_wp2_with fail
  refine (Take_nil _ _).mono ?_
  rintro e w4 ⟨rfl, rfl⟩
  go_wp2_with fail
  refine (Left_nil _).mono ?_
  rintro e w4 ⟨rfl, rfl⟩
  go_wp2_with fail
  refine (Copy_nil _).mono ?_
  rintro e w4 ⟨rfl, g4⟩
  go_wp2
  go_ret
  exact ⟨rfl, below_of_none (grow_none g3 (grow_none (World.grownBy_alloc _ _ _) g4))⟩
end Go.Proofs.Ytkmpcncehicpmaa
