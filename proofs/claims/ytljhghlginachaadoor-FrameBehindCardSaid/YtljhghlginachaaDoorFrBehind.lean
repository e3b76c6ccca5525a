/- The law FrameBehind: its walk. -/
import Derived.Test.YtljhghlginachaaDoorFrJ
namespace Go.Proofs.YtljhghlginachaaDoor
open Go.RowKit
set_option linter.unusedVariables false
theorem app_bs (x : List UInt8) (s : ByteArray) : bs x ++ s = bs (x ++ s.data.toList) := by
  conv => lhs; rw [← bs_self s]
  exact ByteArray.mk_append_mk _ _
set_option maxRecDepth 100000 in
set_option maxHeartbeats 2000000 in
theorem law_FrameBehind (v : Value) (l : List ByteArray) {w : World} (hr : RowAt w v (l.map Value.string)) (hs : ∀ s ∈ l, s.size ≤ maxLen) (hl : l.length ≤ maxLen) (M : ByteArray) (hM : M.size ≤ maxLen) (hm : Mv w) :
    Calls Tryd.prog 6 #[v, .string M] w fun e w' => e = .returned (.bool true) ∧ Below w.heap.size w w' := by
  obtain ⟨i0, hi, hz0, hz1, hz2⟩ := info_parts Tryd.info04_string
  obtain ⟨av, cv, rfl⟩ := hr.len
  rw [List.length_map] at hr ⊢
  have hMi : (M.size : Int) ≤ 9223372036854775807 := by unfold maxLen at hM; omega
  have hli : (l.length : Int) ≤ 9223372036854775807 := by unfold maxLen at hl; omega
  have HL := Lib.hid hl
  have HS := Lib.hid hs
  obtain ⟨t, ht⟩ : ∃ t, decide ((4096 : Int) < M.size) = t := ⟨_, rfl⟩
  have HT := Lib.hid ht
  clear hl hs hM
  go_enter Tryd.func6, Tryd.ntmps6
  go_wp2_with fail
  refine (awake04_any _ hm).mono ?_
  rintro e w2 ⟨rfl, g2⟩
  have m2 := hm.kept g2
  go_wp2_with fail
  refine (many04_any _ l _ (hr.kept g2) HL.out HS.out).mono ?_
  rintro e w3 ⟨he, rfl⟩
  rcases he with rfl | ⟨rfl, hb⟩
  · go_wp2_with fail
    refine (awake04_any _ m2).mono ?_
    rintro e w3 ⟨rfl, g3⟩
    have G3 := grow_none g2 g3
    clear g2 g3
    go_wp2
    go_ret
    exact ⟨rfl, below_of_none G3⟩
  · cases t with
    | true =>
      go_wp2_with fail
      refine (awake04_any _ m2).mono ?_
      rintro e w3 ⟨rfl, g3⟩
      have G3 := grow_none g2 g3
      clear g2 g3
      go_wp2
      go_ret
      exact ⟨rfl, below_of_none G3⟩
    | false =>
      obtain ⟨hl8, hsz⟩ := many_sizes hb
      have hsz2 : ∀ s ∈ l, s.size ≤ 1048576 := fun s hs => by have := hsz s hs; omega
      have hft := frames_tot l hsz2
      have hMs : M.size ≤ 4096 := by have := of_decide_eq_false HT.out; omega
      have HSZ := Lib.hid hsz2
      obtain ⟨X, hX⟩ : ∃ X : ByteArray, X = ⟨(framesB l).toArray⟩ := ⟨_, rfl⟩
      have hXs : X.size ≤ 200000 := by rw [hX]; show (bs _).size ≤ _; rw [bs_size]; omega
      have hXM : ¬ (9223372036854775807 < X.size + M.size) := by omega
      obtain ⟨Y, hY⟩ : ∃ Y : ByteArray, Y = X ++ M := ⟨_, rfl⟩
      have hYs : Y.size = X.size + M.size := by rw [hY, ByteArray.size_append]
      have HYL : Hid (Y = bs (framesB l ++ M.data.toList)) := by show _ = _; rw [hY, hX]; exact app_bs _ _
      have hYb : Y.size ≤ 1000000000 := by omega
      have hMb : M.size ≤ 1000000000 := by omega
      have HYB := Lib.hid hYb
      have HMB := Lib.hid hMb
      have HYS := Lib.hid hYs
      have HX := Lib.hid hX
      have HY := Lib.hid hY
      have r2 := (hr.kept g2).kept (World.grownBy_alloc w2 (.cells #[] 9) none)
      clear hb hsz hsz2 hft ht hX hY hYs hYb hMb
      go_wp2_with (at_builtin; refine wpList_append_row _ rfl _ _ 22 rfl 9 i0 (.string ⟨#[]⟩) 16 Tryd.underlying22 hi hz0 hz1 hz2 rfl _ _ _ rfl (own_empty _ _ _) _ (l.map Value.string) rfl r2 (ones_str l) (by rw [List.length_map]; show _ ≤ 2^63-1; omega) (by rw [List.length_map]; omega) ?_)
      intro v3 w3 o3 g3 mv3
      have X3 := grow_newblk (World.grownBy_alloc w2 (.cells #[] 9) none) (newblk_at w2 w2.heap.size 0 0 (Nat.le_refl _) 0) g3
      have m3 := m2.kept X3
      have G3 := grow_none g2 X3
      have r3 := RowAt.of_own o3
      clear g2 g3 X3 r2 m2 mv3 o3
      go_wp2_with fail
      refine (Seal_any v3 l _ m3 (by simpa using r3) hl8 HSZ.out).mono ?_
      rintro e w4 ⟨rfl, g4⟩
      rw [← HX.out]
      have G4 := grow_none G3 g4
      have m4 := hm.kept G4
      clear r3 m3 g4 G3
      go_wp2_with fail
      rw [← HY.out]
      refine (Scan_any Y _ m4 HYB.out).mono ?_
      rintro e w5 ⟨p5, q5, l5, c5, k5, z5, y5, rfl, r5, g5⟩
      have K5 := Lib.hid k5
      have G5 := grow_none G4 g5
      have m5 := hm.kept G5
      clear k5 g5 G4 m4
      go_wp2_with fail
      refine (Scan_any M _ m5 HMB.out).mono ?_
      rintro e w6 ⟨p6, q6, l6, c6, k6, z6, y6, rfl, r6, g6⟩
      have G6 := grow_none G5 g6
      have r5' := r5.kept g6
      have hah : Scans Y (l ++ l6) c6 := by
        rw [HYL.out]
        exact Scans.ahead (by rw [bs_self]; exact k6) l HSZ.out
      obtain ⟨rfl, rfl⟩ := K5.out.same hah
      have hys := HYS.out
      rw [List.length_append] at z5 y5 r5' ⊢
      have rt := row_take r5' (Nat.le_add_right l.length l6.length) (by rw [List.length_append])
      have rd := row_drop r5' (Nat.le_add_right l.length l6.length) (by rw [List.length_append]) y5
      rw [List.take_left' rfl] at rt
      rw [List.drop_left' rfl, Nat.add_sub_cancel_left] at rd
      have rdA : q5 = l.length → RowAt w6 (.slice p5 l6.length 0) (l6.map Value.string) := by
        intro e
        rw [if_pos e, e, Nat.sub_self] at rd
        exact rd
      have rdB : ¬ q5 = l.length → RowAt w6 (.slice (Option.map (fun x => x.add l.length) p5) l6.length (q5 - l.length)) (l6.map Value.string) := by
        intro e
        rw [if_neg e] at rd
        exact rd
      have RDA := Lib.hid rdA
      have RDB := Lib.hid rdB
      clear rdA rdB rd
      have e1 : ((Y.size : Int) - (c5.size : Int) == (X.size : Int) + ((M.size : Int) - (c5.size : Int))) = true := by rw [beq_iff_eq]; omega
      have b1 : (Y.size : Int) ≤ 300000 := by omega
      have b2 : (M.size : Int) ≤ 4096 := by omega
      have b3 : (X.size : Int) ≤ 200000 := by omega
      have b4 : (c5.size : Int) ≤ (M.size : Int) := by omega
      have b5 : (l.length : Int) ≤ 8192 := by omega
      have b6 : (l6.length : Int) ≤ 4096 := by omega
      have b7 : (l.length : Int) ≤ q5 := by omega
      have b8 : l.length ≤ q5 := by omega
      have hl1 : l.length ≤ maxLen := by unfold maxLen; omega
      have hl6 : l6.length ≤ maxLen := by unfold maxLen; omega
      have r1 := hr.kept G6
      clear hys hah k6 g6 G5 m5 r5 r5' hMs hXs hXM
      go_wp2_with fail
      refine (Same_any _ _ _ _ _ rt r1 hl1 hl1).mono ?_
      rintro e w7 ⟨rfl, g7⟩
      rw [decide_eq_true rfl]
      have G7 := grow_none G6 g7
      go_wp2_with fail
      · refine (Same_any _ _ _ _ _ ((RDA.out (by assumption)).kept g7) (r6.kept g7) hl6 hl6).mono ?_
        rintro e w8 ⟨rfl, g8⟩
        rw [decide_eq_true rfl]
        have G8 := grow_none G7 g8
        clear G6 G7 g7 g8 rt r1 r6
        go_wp2
        go_ret
        exact ⟨rfl, below_of_none G8⟩
      · refine (Same_any _ _ _ _ _ ((RDB.out (by assumption)).kept g7) (r6.kept g7) hl6 hl6).mono ?_
        rintro e w8 ⟨rfl, g8⟩
        rw [decide_eq_true rfl]
        have G8 := grow_none G7 g8
        clear G6 G7 g7 g8 rt r1 r6
        go_wp2
        go_ret
        exact ⟨rfl, below_of_none G8⟩
end Go.Proofs.YtljhghlginachaaDoor
