/- The law HuntAll: its walk. -/
import Derived.Test.YtjngbmepndhkpaaHuE
import Derived.Carry
namespace Go.Proofs.Ytjngbmepndhkpaa
open Go.RowKit
set_option linter.unusedVariables false
theorem mod_posN (a : Int) (m : Nat) (h0 : 0 < m) (hm : m ≤ 1000000000) : ∃ k : Nat, k < m ∧ (IntKind.u64.wrap a).tmod (m : Int) = (k : Int) := by
  have e : IntKind.u64.wrap a = a % 18446744073709551616 := by simp [IntKind.wrap, IntKind.signed, IntKind.bits]
  have h1 : 0 ≤ IntKind.u64.wrap a := by rw [e]; omega
  rw [Int.tmod_eq_emod_of_nonneg h1]
  have h2 := Int.emod_nonneg (IntKind.u64.wrap a) (b := (m : Int)) (by omega)
  have h3 := Int.emod_lt_of_pos (IntKind.u64.wrap a) (b := (m : Int)) (by omega)
  exact ⟨((IntKind.u64.wrap a) % (m : Int)).toNat, by omega, by omega⟩
theorem rowL_pos (l : List ByteArray) (k : Nat) (h : 0 < l.length) : 0 < (rowL l k).length ∧ (rowL l k).length ≤ 4 := by
  unfold rowL
  have h1 : 0 < rowsN l.length := by unfold rowsN; omega
  have h2 := Nat.mod_lt k h1
  have h3 : rowsN l.length = (l.length - 1) / 4 + 1 := rfl
  rw [List.length_take, List.length_drop]
  omega
theorem who_pos (me t : Nat) (l : List ByteArray) (hl : l ≠ []) (hme : me < 6) : ∃ x : Nat, whoT me t l = (x : Int) ∧ x < 6 ∧ x ≠ me := by
  unfold whoT; rw [if_neg hl]
  exact ⟨_, rfl, by omega, by omega⟩
theorem info6 (f : Nat → Bool) : (Try.prog.info? 39).map (·.size) = some (l6 f).toArray.size := (by kernel_rfl : (Try.prog.info? 39).map (·.size) = some 6)
theorem one6 (f : Nat → Bool) : (l6 f).toArray.all (·.oneCell') = true := by simp [l6, Value.oneCell']
theorem MapI.mono {w : World} {b n n' : Nat} {F : ByteArray → Nat → Bool} (h : MapI w b n F) (hn : n ≤ n') : MapI w b n' F := by
  obtain ⟨D, h, hD⟩ := h; exact ⟨D, h.mono hn, hD⟩
theorem mem_row {l : List ByteArray} {k i : Nat} (hi : i < (rowL l k).length) : (rowL l k).getD i ⟨#[]⟩ ∈ l := by
  rw [List.getD, List.getElem?_eq_getElem hi]
  exact List.mem_of_mem_drop (List.mem_of_mem_take (List.getElem_mem hi))
set_option maxRecDepth 100000 in
set_option maxHeartbeats 4000000 in
theorem law_HuntAll (n0 : Int) (hn0 : -9223372036854775808 ≤ n0 ∧ n0 ≤ 9223372036854775807) (t00 : Int) (ht00 : -9223372036854775808 ≤ t00 ∧ t00 ≤ 9223372036854775807) (v : Value) (l : List ByteArray) {w : World} (hr : RowAt w v (l.map Value.string)) (hs : ∀ s ∈ l, s.size ≤ maxLen) (hl : l.length ≤ maxLen) :
    Calls Try.prog 4 #[.int .i64 n0, .int .i64 t00, v] w fun e w' => e = .returned (.bool true) ∧ Below w.heap.size w w' := by
  obtain ⟨i0, hi, hz0, hz1, hz2⟩ := info_parts Try.info19_string
  obtain ⟨p, c, rfl⟩ := row_form hr
  obtain ⟨me, hme, hme2⟩ := mod_posN n0 6 (by decide) (by decide)
  obtain ⟨t0, ht0, ht02⟩ := mod_posN t00 200 (by decide) (by decide)
  have HMN : Hid (∀ W, w.grownBy W none → Calls Try.prog 7 #[.slice p l.length c] W fun e w' => ManyE l e ∧ W = w') := fun W hW => many19_any _ l W (hr.kept hW) hl hs
  have il : (l.length : Int) ≤ 9223372036854775807 := by unfold maxLen at hl; omega
  have m6 : (me : Int) < 6 := by omega
  have m200 : (t0 : Int) < 200 := by omega
  have HS := Lib.hid hs
  have hmm := @run_makeMap Try.prog
  have hme3 : (IntKind.u64.wrap n0).tmod 6 = (me : Int) := hme2
  have ht03 : (IntKind.u64.wrap t00).tmod 200 = (t0 : Int) := ht02
  clear hme2 ht02
  clear hl hs hn0 ht00
  go_enter Try.func4, Try.ntmps4
  go_wp2_with fail
  refine (New_yes me w hme).mono ?_
  rintro e w1 ⟨rfl, h1, g1⟩
  go_wp2_with fail
  refine (awake19_any _).mono ?_
  rintro e w2 ⟨rfl, g2⟩
  have H2 := h1.keep g2
  have G2 := grow_none g1 g2
  clear g1 g2 h1
  by_cases h100 : 100 < l.length
  · have d3 : decide ((100 : Int) < (l.length : Int)) = true := decide_eq_true (by omega)
    go_wp2_with fail
    refine (awake19_any _).mono ?_
    rintro e w3 ⟨rfl, g3⟩
    go_wp2_with fail
    go_ret
    exact ⟨rfl, below_of_none (grow_none G2 g3)⟩
  · have d3 : decide ((100 : Int) < (l.length : Int)) = false := decide_eq_false (by omega)
    have hl100 : l.length ≤ 100 := by omega
    go_wp2_with fail
    refine (HMN.out _ G2).mono ?_
    rintro e w3 ⟨he, rfl⟩
    clear HMN
    rcases he with rfl | ⟨rfl, _⟩
    · go_wp2_with fail
      refine (awake19_any _).mono ?_
      rintro e w3 ⟨rfl, g3⟩
      go_wp2_with fail
      go_ret
      exact ⟨rfl, below_of_none (grow_none G2 g3)⟩
    · go_wp2_with fail
      go_loopw [49] (fun i wr => ∃ k : Nat, k ≤ t0 ∧ i = .int .i64 k ∧ HAt wr w.heap.size me k ∧ w.grownBy wr none) (fun i _ => t0 - (intOf i).toNat)
      case atStart => exact ⟨0, Nat.zero_le _, rfl, H2, G2⟩
      case round =>
        obtain ⟨k, hk, rfl, H3, G3⟩ := hrel
        clear H2 G2
        by_cases hlt : k < t0
        · have hki : (k : Int) < t0 := by omega
          go_wp2_with fail
          refine (Tick_any w.heap.size me k _ [] _ H3 ⟨⟨none, 0, rfl, .inl rfl⟩, capok_lit _ _⟩ (by simp) hme (by omega) (by intro bb off n c e; cases e)).mono ?_
          rintro e w4 ⟨v4, rfl, _, H4, g4⟩
          have G4 := grow_new G3 (Nat.le_refl _) g4
          go_wp2_with fail
          go_roundw
          case rel => exact ⟨k + 1, by omega, by go_num, H4, G4⟩
          case measure => simp [intOf]; omega
        · have hkt : t0 = k := by omega
          subst hkt
          have M3 := MapI.made wr
          obtain ⟨mb, hmb⟩ : ∃ mb, mb = wr.heap.size := ⟨_, rfl⟩
          have hbm : w.heap.size < mb := by rw [hmb]; exact H3.lt
          have HMB := Lib.hid hmb
          rw [← hmb] at M3
          have H4 := H3.keep (World.grownBy_alloc wr (.map #[] 0) none)
          have G4 := grow_none G3 (World.grownBy_alloc wr (.map #[] 0) none)
          obtain ⟨R, hR⟩ : ∃ R, R = (l.length + 3) / 4 := ⟨_, rfl⟩
          obtain ⟨T, hT⟩ : ∃ T, T = 5 * R := ⟨_, rfl⟩
          have e1 : ((l.length : Int) + 3) / 4 = (R : Int) := by omega
          have e2 : 5 * (R : Int) = (T : Int) := by omega
          have hT2 : T ≤ 130 := by omega
          have HRT : Hid (T = 5 * ((l.length + 3) / 4)) := by show _ = _; rw [hT, hR]
          have hR2 : (R : Int) ≤ 26 := by omega
          have HLR : Hid (0 < T → 0 < l.length) := by show 0 < T → 0 < l.length; omega
          clear hR hT H3 G3
          clear hmb
          go_wp2_with fail
          rw [← HMB.out]
          clear e1 e2
          go_loopw [60] (fun i wr => ∃ (k : Nat) (F : ByteArray → Nat → Bool), k ≤ T ∧ i = .int .i64 k ∧ HAt wr w.heap.size me (t0 + k) ∧ MapI wr mb (4 * k) F ∧ w.grownBy wr none ∧
            (∀ t, t0 ≤ t → t < t0 + k → ∀ i, i < (rowL l (t / 5)).length → ∀ n : Nat, whoT me t l = (n : Int) → F ((rowL l (t / 5)).getD i ⟨#[]⟩) n = true)) (fun i _ => T - (intOf i).toNat)
          case atStart => exact ⟨0, _, Nat.zero_le _, rfl, H4, M3, G4, fun t h1 h2 => by omega⟩
          case round =>
            obtain ⟨k, F, hk, rfl, H5, M5, G5, hF⟩ := hrel
            clear M3 H4 G4
            by_cases hlt : k < T
            · have hki : (k : Int) < T := by omega
              have hl0 : 0 < l.length := HLR.out (by omega)
              obtain ⟨x, hx, hx6, hxm⟩ := who_pos me (t0 + k) l (by rintro rfl; simp at hl0) hme
              have hlp := rowL_pos l ((t0 + k) / 5) hl0
              have HF := Lib.hid hF
              clear hF
              rename_i wr
              have r4 := (hr.kept G5).kept (World.grownBy_alloc wr (.cells #[] 9) none)
              go_wp2_with (at_builtin; refine wpList_append_row _ rfl _ _ 28 rfl 9 i0 (.string ⟨#[]⟩) 16 Try.underlying28 hi hz0 hz1 hz2 rfl _ _ _ rfl (own_empty _ _ _) _ (l.map Value.string) rfl r4 (ones_str l) (by rw [List.length_map]; show _ ≤ 2^63-1; omega) (by rw [List.length_map]; omega) ?_)
              intro v5 w5 o5 g5 m5
              have X5 := grow_newblk (World.grownBy_alloc wr (.cells #[] 9) none) (newblk_at wr wr.heap.size 0 0 (Nat.le_refl _) 0) g5
              have N5 := (newblk_at wr wr.heap.size 0 0 (Nat.le_refl _) 0).moved (w1 := wr.alloc (.cells #[] 9)) (by simp) m5
              have H6 := H5.keep X5
              have M6 := M5.kept X5 (by simp)
              have G6 := grow_none G5 X5
              have hlb := H5.lt
              clear r4 g5 m5 X5 H5 M5 G5
              go_wp2_with fail
              refine (Tick_new w.heap.size me (t0 + k) v5 l _ H6 ⟨RowAt.of_own (by simpa using o5), own_cap o5⟩ (by omega) hme (by omega) (by rintro bb off n c rfl; have := N5 bb rfl; omega)).mono ?_
              rintro e w7 ⟨v7, rfl, r7, H7, g7, n7⟩
              have M7 := M6.kept g7 (by intro e; injection e with e; omega)
              have G7 := grow_new G6 (Nat.le_refl _) g7
              have hm5 := M6.lt
              rw [hx]
              have r77 := r7.1
              obtain ⟨L6, hL6⟩ : ∃ L, L = rowL l ((t0 + k) / 5) := ⟨_, rfl⟩
              rw [← hL6] at r77 hlp
              have HL6 := Lib.hid hL6
              obtain ⟨p7, c7, rfl⟩ := row_form r77
              have hfar7 : ∀ bb off n c, Value.slice p7 L6.length c7 = .slice (some ⟨bb, off, none⟩) n c → bb ≠ mb := by
                intro bb off n c e
                have := n7 bb (by rw [e]; rfl)
                omega
              have HX := Lib.hid hx
              have d4 : decide ((x : Int) < 0) = false := decide_eq_false (by omega)
              have d5 : decide ((5 : Int) < (x : Int)) = false := decide_eq_false (by omega)
              have d6 : ((x : Int) == (me : Int)) = false := by simp; omega
              have d7 : decide ((L6.length : Int) < 1) = false := decide_eq_false (by omega)
              have d8 : decide ((4 : Int) < (L6.length : Int)) = false := decide_eq_false (by omega)
              have hxI : (x : Int) < 6 := by omega
              clear H6 M6 G6 r7 n7 g7 o5 N5 hL6 hx hlb hm5
              go_wp2_with fail
              go_loopw [93] (fun j wr => ∃ (q : Nat) (F' : ByteArray → Nat → Bool), q ≤ L6.length ∧ j = .int .i64 q ∧ MapI wr mb (4 * k + q) F' ∧ w7.grownBy wr (some mb) ∧ (∀ s n, F s n = true → F' s n = true) ∧ (∀ i, i < q → F' (L6.getD i ⟨#[]⟩) x = true)) (fun j _ => L6.length - (intOf j).toNat)
              case atStart => exact ⟨0, F, Nat.zero_le _, rfl, M7, grow_refl _ _, fun s n h => h, fun i h => by omega⟩
              case round =>
                obtain ⟨q, F', hq, rfl, M8, G8, hmono, hdone⟩ := hrel
                clear M7
                by_cases hqlt : q < L6.length
                · obtain ⟨b8, o8, rfl, c8, _⟩ := row_string (r77.keptFar G8 hfar7) rfl hqlt
                  have hsm : (L6.getD q ⟨#[]⟩).size ≤ maxLen := HS.out _ (by rw [HL6.out] at hqlt ⊢; exact mem_row hqlt)
                  obtain ⟨s, hs⟩ : ∃ s, s = L6.getD q ⟨#[]⟩ := ⟨_, rfl⟩
                  rw [← hs] at c8 hsm
                  have HSQ := Lib.hid hs
                  have hlook := M8.look s hsm
                  have hqi : (q : Int) < L6.length := by omega
                  clear hs
                  have GA := World.grownBy_alloc wr (.cells #[.bool false, .bool false, .bool false, .bool false, .bool false, .bool false] 39) none
                  obtain ⟨w9, hw9⟩ : ∃ w9, w9 = (wr.alloc (.cells #[.bool false, .bool false, .bool false, .bool false, .bool false, .bool false] 39)).setRow wr.heap.size (l6 (F' s)).toArray := ⟨_, rfl⟩
                  have B9 : Blk w9 wr.heap.size 39 (l6 (F' s)) := by rw [hw9]; exact setRow_heap _ _ _ _ _ _ (heap_alloc_new _ _)
                  have G9 : wr.grownBy w9 none := by rw [hw9]; exact ⟨rfl, rfl, rfl, by simp, fun i hi _ => (setRow_other _ _ _ _ (by omega)).trans (GA.block i hi (by simp))⟩
                  have HW9 := Lib.hid hw9
                  clear hw9
                  have cx := B9.cell x hx6
                  have fx := B9.frozen x
                  rw [l6_get _ _ hx6] at cx
                  have B10 := Blk.set_ B9 x (.bool true)
                  rw [l6_set _ _ hx6] at B10
                  have G10 := grow_setnew G9 (a := ⟨wr.heap.size, x, none⟩) (Nat.le_refl _) (.bool true)
                  have M10 := M8.kept G10 (by simp)
                  have HB9 := Lib.hid B9
                  have HB10 := Lib.hid B10
                  clear B9 B10
                  go_wp2_with (first | (refine wpList_store_row rfl 39 (.tmp 14) (.tmp 99) (by with_reducible rfl) wr.heap.size (l6 (F' s)).toArray rfl rfl 39 _ (heap_alloc_new _ _) (info6 _) rfl (one6 _) ?_; rw [← HW9.out]) | (refine wpList_load_row rfl 39 (.tmp 14) (by with_reducible rfl) wr.heap.size rfl 39 (l6 (fun i => i == x || F' s i)).toArray (0, 0) _ HB10.out Try.underlying39 rfl (info6 _) ?_) | (refine wpList_put6 _ rfl (.tmp 102) (.tmp 103) (.tmp 104) (by with_reducible rfl) mb (4 * k + q) F' rfl M10 (by unfold maxLen; omega) s (fun i => i == x || F' s i) rfl rfl hsm ?_))
                  intro w11 M11 g11
                  have G11 := grow_same (grow_same G8 (grow_to G10)) g11
                  go_wp2_with fail
                  go_roundw
                  case rel =>
                    refine ⟨q + 1, _, by omega, by go_num, M11, G11, fun s' n h => ?_, fun i hi => ?_⟩
                    · unfold putF
                      split
                      · rename_i e; subst e; simp [hmono _ n h]
                      · exact hmono _ n h
                    · unfold putF
                      by_cases e : L6.getD i ⟨#[]⟩ = s
                      · rw [if_pos e]; simp
                      · rw [if_neg e]
                        have : i ≠ q := by rintro rfl; exact e HSQ.out.symm
                        exact hdone i (by omega)
                  case measure => simp [intOf]; omega
                · obtain rfl : q = L6.length := by omega
                  go_wp2_with fail
                  go_roundw
                  case rel =>
                    refine ⟨k + 1, F', by omega, by go_num, H7.kept G8 (by omega), M8.mono (by omega), grow_new G7 (by omega) G8, fun t h1 h2 i hi n hn => ?_⟩
                    by_cases e : t = t0 + k
                    · subst e
                      rw [HX.out] at hn
                      have : n = x := by omega
                      subst this
                      rw [← HL6.out] at hi ⊢
                      exact hdone i hi
                    · exact hmono _ _ (HF.out t h1 (by omega) i hi n hn)
                  case measure =>
                    show T - (intOf (Value.int .i64 ((k : Int) + 1))).toNat < T - (intOf (Value.int .i64 (k : Int))).toNat
                    simp [intOf]; omega
            · obtain rfl : k = T := by omega
              have hall : ∀ j, j < l.length → ∀ n, n < 6 → n ≠ me → F (l.getD j ⟨#[]⟩) n = true := fun j hj n hn hne => by
                obtain ⟨t, h1, h2, h3, i, h4, h5⟩ := all_asked l me t0 j n hj hme hn hne
                rw [← h5]
                exact hF t h1 (by rw [HRT.out]; exact h2) i h4 n h3
              have HALL := Lib.hid hall
              clear hall hF
              go_wp2_with fail
              go_loopw [109] (fun j wr => ∃ q : Nat, q ≤ l.length ∧ j = .int .i64 q ∧ MapI wr mb (4 * k) F ∧ w.grownBy wr none) (fun j _ => l.length - (intOf j).toNat)
              case atStart => exact ⟨0, Nat.zero_le _, rfl, M5, G5⟩
              case round =>
                obtain ⟨q, hq, rfl, M8, G8⟩ := hrel
                clear M5 G5 H5
                by_cases hqlt : q < l.length
                · obtain ⟨b8, o8, rfl, c8, _⟩ := row_string (hr.kept G8) rfl hqlt
                  have hsm : (l.getD q ⟨#[]⟩).size ≤ maxLen := HS.out _ (by rw [List.getD, List.getElem?_eq_getElem hqlt]; exact List.getElem_mem hqlt)
                  have hF8 := HALL.out q hqlt
                  obtain ⟨s, hs⟩ : ∃ s, s = l.getD q ⟨#[]⟩ := ⟨_, rfl⟩
                  rw [← hs] at c8 hsm hF8
                  have hlook := M8.look s hsm
                  have hqi : (q : Int) < l.length := by omega
                  have HF8 := Lib.hid hF8
                  clear hs hF8
                  have GA := World.grownBy_alloc wr (.cells #[.bool false, .bool false, .bool false, .bool false, .bool false, .bool false] 39) none
                  obtain ⟨w9, hw9⟩ : ∃ w9, w9 = (wr.alloc (.cells #[.bool false, .bool false, .bool false, .bool false, .bool false, .bool false] 39)).setRow wr.heap.size (l6 (F s)).toArray := ⟨_, rfl⟩
                  have B9 : Blk w9 wr.heap.size 39 (l6 (F s)) := by rw [hw9]; exact setRow_heap _ _ _ _ _ _ (heap_alloc_new _ _)
                  have G9 : wr.grownBy w9 none := by rw [hw9]; exact ⟨rfl, rfl, rfl, by simp, fun i hi _ => (setRow_other _ _ _ _ (by omega)).trans (GA.block i hi (by simp))⟩
                  have HW9 := Lib.hid hw9
                  have M9 := M8.kept G9 (by simp)
                  have G10 := grow_none G8 G9
                  have HB9 := Lib.hid B9
                  clear hw9 B9 GA
                  go_wp2_with (refine wpList_store_row rfl 39 (.tmp 17) (.tmp 115) (by with_reducible rfl) wr.heap.size (l6 (F s)).toArray rfl rfl 39 _ (heap_alloc_new _ _) (info6 _) rfl (one6 _) ?_; rw [← HW9.out])
                  go_loop [116] (fun i => ∃ r : Nat, r ≤ 6 ∧ i = .int .i64 r) (fun i => 6 - (intOf i).toNat)
                  case atStart => exact ⟨0, by omega, rfl⟩
                  case round =>
                    obtain ⟨r, hr6, rfl⟩ := hrel
                    by_cases hrlt : r < 6
                    · have hri : (r : Int) < 6 := by omega
                      have cr := HB9.out.cell r hrlt
                      rw [l6_get _ _ hrlt] at cr
                      by_cases hrm : r = me
                      · subst hrm
                        go_wp2_with fail
                        go_round
                        case rel => exact ⟨r + 1, by omega, by go_num⟩
                        case measure => simp [intOf]; omega
                      · have e5 : ((r : Int) == (me : Int)) = false := by simp; omega
                        have e6 : ((r : Int) != (me : Int)) = true := by simp; omega
                        rw [HF8.out r hrlt hrm] at cr
                        go_wp2_with fail
                        go_round
                        case rel => exact ⟨r + 1, by omega, by go_num⟩
                        case measure => simp [intOf]; omega
                    · obtain rfl : r = 6 := by omega
                      go_wp2_with fail
                      go_roundw
                      case rel => exact ⟨q + 1, by omega, by go_num, M9, G10⟩
                      case measure => simp [intOf]; omega
                · obtain rfl : q = l.length := by omega
                  go_wp2_with fail
                  go_ret
                  exact ⟨rfl, below_of_none G8⟩
end Go.Proofs.Ytjngbmepndhkpaa
