/- The law FrameCuts: its walk. -/
import Derived.Test.YtljhghlginachaaDoorFrTurns
import Derived.Test.YtljhghlginachaaDoorOp6
namespace Go.Proofs.YtljhghlginachaaDoor
open Go.RowKit
set_option linter.unusedVariables false
set_option maxRecDepth 100000 in
set_option maxHeartbeats 4000000 in
theorem law_FrameCuts (v : Value) (l : List ByteArray) {w : World} (hrc : RowAt w v (l.map Value.string) ∧ ∀ p n c, v = .slice p n c → n ≤ c) (hs : ∀ s ∈ l, s.size ≤ maxLen) (hl : l.length ≤ maxLen) (n : Int) (hn : -9223372036854775808 ≤ n ∧ n ≤ 9223372036854775807) (hm : Mv w) :
    Calls Tryd.prog 5 #[v, .int .i64 n] w fun e w' => e = .returned (.bool true) ∧ Below w.heap.size w w' := by
  obtain ⟨hr, hcap⟩ := hrc
  obtain ⟨i0, hi, hz0, hz1, hz2⟩ := info_parts Tryd.info04_string
  obtain ⟨av, cv, rfl⟩ := hr.len
  rw [List.length_map] at hr hcap ⊢
  have hcl := hcap _ _ _ rfl
  have hli : (l.length : Int) ≤ 9223372036854775807 := by unfold maxLen at hl; omega
  have HL := Lib.hid hl
  have HS := Lib.hid hs
  clear hl hs hcap hn
  go_enter Tryd.func5, Tryd.ntmps5
  go_wp2_with fail
  refine (awake04_any _ hm).mono ?_
  rintro e w2 ⟨rfl, g2⟩
  have m2 := hm.kept g2
  go_wp2_with fail
  refine (many04_any _ l _ (hr.kept g2) HL.out HS.out).mono ?_
  rintro e w3 ⟨he, rfl⟩
  rcases he with rfl | ⟨rfl, hb⟩
  · go_wp2_with fail
    refine (awake04_any _ m2).mono ?_
    rintro e w3 ⟨rfl, g3⟩
    have G3 := grow_none g2 g3
    clear g2 g3
    go_wp2
    go_ret
    exact ⟨rfl, below_of_none G3⟩
  · obtain ⟨hl8, hsz⟩ := many_sizes hb
    have hsz2 : ∀ s ∈ l, s.size ≤ 1048576 := fun s hs => by have := hsz s hs; omega
    have hft := frames_tot l hsz2
    have HSZ := Lib.hid hsz2
    obtain ⟨X, hX⟩ : ∃ X : ByteArray, X = ⟨(framesB l).toArray⟩ := ⟨_, rfl⟩
    have hXl : X.data.toList = framesB l := by rw [hX]
    have hXs : X.size ≤ 200000 := by rw [← len_bs, hXl]; omega
    have hXn : X.size = (framesB l).length := by rw [← len_bs, hXl]
    obtain ⟨cut, hk, hkk⟩ := mod_posN n (X.size + 1) (by omega) (by omega)
    have hkk' : (IntKind.u64.wrap n).tmod ((X.size : Int) + 1) = (cut : Int) := by
      rw [← hkk]; congr 1
    obtain ⟨Y, hY⟩ : ∃ Y : ByteArray, Y = X.extract 0 cut := ⟨_, rfl⟩
    have hYl : Y = bs ((framesB l).take cut) := by rw [hY, extract_self, List.drop_zero, Nat.sub_zero, hXl]
    have hYs : Y.size = cut := by rw [hYl, bs_size, List.length_take]; omega
    have hYb : Y.size ≤ 1000000000 := by omega
    have b1 : (X.size : Int) ≤ 200000 := by omega
    have b2 : (cut : Int) ≤ X.size := by omega
    have b3 : (l.length : Int) ≤ 8192 := by omega
    have b4 : l.length ≤ maxLen := by unfold maxLen; omega
    have HX := Lib.hid hX
    have HXN := Lib.hid hXn
    have HY := Lib.hid hY.symm
    have HYL := Lib.hid hYl
    have HYS := Lib.hid hYs
    have HYB := Lib.hid hYb
    have HSM := Lib.hid hsz
    have r2 := (hr.kept g2).kept (World.grownBy_alloc w2 (.cells #[] 9) none)
    clear hb hsz hsz2 hft hX hXl hXs hXn hkk hY hYl hYs hYb
    go_wp2_with (at_builtin; refine wpList_append_row _ rfl _ _ 22 rfl 9 i0 (.string ⟨#[]⟩) 16 Tryd.underlying22 hi hz0 hz1 hz2 rfl _ _ _ rfl (own_empty _ _ _) _ (l.map Value.string) rfl r2 (ones_str l) (by rw [List.length_map]; show _ ≤ 2^63-1; omega) (by rw [List.length_map]; omega) ?_)
    intro v3 w3 o3 g3 mv3
    have X3 := grow_newblk (World.grownBy_alloc w2 (.cells #[] 9) none) (newblk_at w2 w2.heap.size 0 0 (Nat.le_refl _) 0) g3
    have m3 := m2.kept X3
    have G3 := grow_none g2 X3
    have r3 := RowAt.of_own o3
    clear g2 g3 X3 r2 m2 mv3 o3
    go_wp2_with fail
    refine (Seal_any v3 l _ m3 (by simpa using r3) hl8 HSZ.out).mono ?_
    rintro e w4 ⟨rfl, g4⟩
    rw [← HX.out]
    have G4 := grow_none G3 g4
    clear r3 m3 g4 G3
    go_wp2
    go_loopw [7, 8, 39] (fun wh tv i wr => ∃ k : Nat, k ≤ l.length ∧ i = .int .i64 k ∧ wh = .int .i64 k ∧ tv = .int .i64 ((framesB (l.take k)).length : Nat) ∧ (framesB (l.take k)).length ≤ cut ∧ w.grownBy wr none) (fun _ _ i _ => l.length - (intOf i).toNat)
    case atStart => exact ⟨0, Nat.zero_le _, rfl, rfl, rfl, Nat.zero_le _, G4⟩
    case round =>
      obtain ⟨k, hk2, rfl, rfl, rfl, hto, hg⟩ := hrel
      clear G4 w4
      have mr := hm.kept hg
      obtain ⟨T, hT⟩ : ∃ T, T = (framesB (l.take k)).length := ⟨_, rfl⟩
      rw [← hT] at hto ⊢
      have HT := Lib.hid hT
      clear hT
      have hTi : (T : Int) ≤ cut := by omega
      have gB := World.grownBy_alloc wr (.cells #[Value.string (l.getD k ⟨#[]⟩)] 9) none
      by_cases hlt : k < l.length
      · obtain ⟨b1', o1, rfl, c1, _⟩ := row_string (hr.kept hg) rfl hlt
        have hx0 : l.getD k ⟨#[]⟩ = l[k] := by rw [List.getD, List.getElem?_eq_getElem hlt]; rfl
        obtain ⟨x, hx⟩ : ∃ x, x = l.getD k ⟨#[]⟩ := ⟨_, rfl⟩
        rw [← hx] at c1 gB hx0
        have hxs := HSM.out l[k] (List.getElem_mem hlt)
        rw [← hx0] at hxs
        have hfx : framesB [x] = frB x := by unfold framesB; simp only [List.flatMap_cons, List.flatMap_nil, List.append_nil]
        obtain ⟨F, hF⟩ : ∃ F : ByteArray, F = ⟨(framesB [x]).toArray⟩ := ⟨_, rfl⟩
        have hFs : F.size = (frB x).length := by rw [hF, hfx]; exact bs_size _
        have hFb : F.size ≤ 10000 := by
          have := numB_len (n := (x.size : Int)) (by omega)
          rw [hFs, frB_size]; omega
        have hFi : (F.size : Int) ≤ 10000 := by omega
        have hki : (k : Int) < l.length := by omega
        have hsn := frames_snoc l k hlt
        have HX0 := Lib.hid hx0
        have HF := Lib.hid hF
        have HFS := Lib.hid hFs
        have HSN := Lib.hid hsn
        clear hx hx0 hfx hF hFs hsn
        by_cases hfit : T + F.size ≤ cut
        · have d1 : decide ((cut : Int) < (T : Int) + F.size) = false := decide_eq_false (by omega)
          have HREL : Hid ((framesB (l.take (k + 1))).length = T + F.size) := by
            show _ = _
            rw [HSN.out, List.length_append, ← HX0.out, ← HFS.out, ← HT.out]
          go_wp2_with fail
          refine (Seal_any _ [x] _ (mr.kept gB) (RowAt.lit wr [Value.string x] _ _ _ rfl) (by simp) (by intro s hs; rw [List.mem_singleton] at hs; rw [hs]; omega)).mono ?_
          rintro e w5 ⟨rfl, g5⟩
          rw [← HF.out]
          have G5 := grow_none (grow_none hg gB) g5
          clear gB g5
          go_wp2
          go_roundw
          case rel => exact ⟨k + 1, by omega, by go_num, by go_num, by rw [HREL.out]; go_num, by rw [HREL.out]; exact hfit, G5⟩
          case measure => simp [intOf]; omega
        · have d1 : decide ((cut : Int) < (T : Int) + F.size) = true := decide_eq_true (by omega)
          obtain ⟨c, hsc, hcs⟩ := cuts_math l HSZ.out cut k (by omega) (by rw [← HT.out]; exact hto) (by rw [← HXN.out]; omega) (fun h => by rw [← HT.out, ← HX0.out, ← HFS.out]; omega)
          rw [← HYL.out] at hsc
          rw [← HT.out] at hcs
          have HSC := Lib.hid hsc
          have HCS := Lib.hid hcs
          clear hsc hcs hfit
          go_wp2_with fail
          refine (Seal_any _ [x] _ (mr.kept gB) (RowAt.lit wr [Value.string x] _ _ _ rfl) (by simp) (by intro s hs; rw [List.mem_singleton] at hs; rw [hs]; omega)).mono ?_
          rintro e w5 ⟨rfl, g5⟩
          rw [← HF.out]
          have G5 := grow_none (grow_none hg gB) g5
          have m5 := hm.kept G5
          clear gB g5 mr
          go_wp2_with fail
          rw [HY.out]
          refine (Scan_any Y _ m5 HYB.out).mono ?_
          rintro e w6 ⟨p6, q6, l6, c6, k6, z6, y6, rfl, r6, g6⟩
          obtain ⟨rfl, rfl⟩ := k6.same HSC.out
          have hlen : (l.take k).length = k := by rw [List.length_take]; omega
          rw [hlen] at r6 ⊢
          clear hlen z6 y6
          have G6 := grow_none G5 g6
          have e1 : ((Y.size : Int) - (c6.size : Int) == (T : Int)) = true := by rw [beq_iff_eq]; have := HCS.out; have := HYS.out; omega
          have b5 : (Y.size : Int) ≤ 200000 := by have := HYS.out; omega
          have b6 : (c6.size : Int) ≤ Y.size := by have := HCS.out; have := HYS.out; omega
          have b7 : (k : Int) ≤ cv := by omega
          have b8 : k ≤ cv := by omega
          have rt := row_take (hr.kept G6) (show k ≤ l.length by omega) rfl
          have hlk : (l.take k).length ≤ maxLen := by rw [List.length_take]; unfold maxLen; omega
          clear g6 G5 m5 k6
          go_wp2_with fail
          refine (Same_any _ _ _ _ _ r6 rt hlk hlk).mono ?_
          rintro e w7 ⟨rfl, g7⟩
          rw [decide_eq_true rfl]
          have G7 := grow_none G6 g7
          clear r6 rt G6 g7
          go_wp2
          go_ret
          exact ⟨rfl, below_of_none G7⟩
      · obtain rfl : k = l.length := by omega
        obtain ⟨c, hsc, hcs⟩ := cuts_math l HSZ.out cut l.length (by omega) (by rw [← HT.out]; exact hto) (by rw [← HXN.out]; omega) (fun h => absurd h (by omega))
        rw [← HYL.out] at hsc
        rw [← HT.out] at hcs
        have HSC := Lib.hid hsc
        have HCS := Lib.hid hcs
        clear hsc hcs gB
        go_wp2_with fail
        rw [HY.out]
        refine (Scan_any Y _ mr HYB.out).mono ?_
        rintro e w6 ⟨p6, q6, l6, c6, k6, z6, y6, rfl, r6, g6⟩
        obtain ⟨rfl, rfl⟩ := k6.same HSC.out
        have hlen : (l.take l.length).length = l.length := by rw [List.length_take]; omega
        rw [hlen] at r6 ⊢
        clear hlen z6 y6
        have G6 := grow_none hg g6
        have e1 : ((Y.size : Int) - (c6.size : Int) == (T : Int)) = true := by rw [beq_iff_eq]; have := HCS.out; have := HYS.out; omega
        have b5 : (Y.size : Int) ≤ 200000 := by have := HYS.out; omega
        have b6 : (c6.size : Int) ≤ Y.size := by have := HCS.out; have := HYS.out; omega
        have b7 : (l.length : Int) ≤ cv := by omega
        have rt := row_take (hr.kept G6) (Nat.le_refl l.length) rfl
        have hlk : (l.take l.length).length ≤ maxLen := by rw [List.length_take]; unfold maxLen; omega
        clear g6 k6
        go_wp2_with fail
        refine (Same_any _ _ _ _ _ r6 rt hlk hlk).mono ?_
        rintro e w7 ⟨rfl, g7⟩
        rw [decide_eq_true rfl]
        have G7 := grow_none G6 g7
        clear r6 rt G6 g7
        go_wp2
        go_ret
        exact ⟨rfl, below_of_none G7⟩
end Go.Proofs.YtljhghlginachaaDoor
