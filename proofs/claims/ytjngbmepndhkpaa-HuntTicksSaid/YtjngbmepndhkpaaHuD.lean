/- Stage 19: the document's Tick. -/
import Derived.Test.YtjngbmepndhkpaaHuC
namespace Go.Proofs.Ytjngbmepndhkpaa
open Go.RowKit
set_option linter.unusedVariables false
theorem Try.info19_texts : (Try.prog.info? 28).map (fun i => (i.zero, i.size, i.bytes)) = some (some (.slice none 0 0), 1, 24) := by kernel_rfl
set_option maxRecDepth 100000 in
set_option maxHeartbeats 4000000 in
theorem refTick_any (me t : Nat) (v : Value) (l : List ByteArray) (w : World) (hr : RowAt w v (l.map Value.string)) (hl : l.length ≤ 1000000) (hme : me < 6) (ht : t ≤ 1000000) :
    Calls Try.prog 10 #[.int .i64 me, .int .i64 t, v] w fun e w' => ∃ v', e = .returned (.tuple #[.int .i64 (whoT me t l), v']) ∧ RowAt w' v' ((rowL l (t / 5)).map Value.string) ∧ w.grownBy w' none := by
  obtain ⟨i0, hi, hz0, hz1, hz2⟩ := info_parts Try.info19_string
  obtain ⟨i1, hj, hy0, hy1, hy2⟩ := info_parts Try.info19_texts
  obtain ⟨p, c, rfl⟩ := row_form hr
  by_cases hn : l = []
  · subst hn
    go_enter Try.func10, Try.ntmps10
    go_wp2_with fail
    go_ret2
    refine ⟨.slice none 0 0, rfl, ?_, grow_refl _ _⟩
    rw [rowL_nil]
    exact ⟨none, 0, rfl, .inl rfl⟩
  · have hn2 : 0 < l.length := List.length_pos_iff.2 hn
    have hn3 : ((l.length : Int) == 0) = false := by simp; exact hn
    have il : (l.length : Int) ≤ 1000000 := by omega
    have HNE := Lib.hid hn
    clear hn
    go_enter Try.func10, Try.ntmps10
    go_wp2_with fail
    go_loopw [8, 9] (fun v i wr => ∃ (k : Nat) (vs : List Value), k ≤ l.length ∧ i = .int .i64 k ∧ RowsI w wr v l k ((k + 3) / 4) vs ∧ w.grownBy wr none) (fun _ i _ => l.length - (intOf i).toNat)
    case atStart => exact ⟨0, [], Nat.zero_le _, rfl, RowsI.start _ _ _, grow_refl _ _⟩
    case round =>
      obtain ⟨k, vs3, hk, rfl, HI, G3⟩ := hrel
      by_cases hlt : k < l.length
      · obtain ⟨b1, o1, rfl, c3, hb1⟩ := row_string (hr.kept G3) rfl hlt
        obtain ⟨x, hx⟩ : ∃ x, x = l.getD k ⟨#[]⟩ := ⟨_, rfl⟩
        rw [← hx] at c3
        have HX := Lib.hid hx
        obtain ⟨m, hm⟩ : ∃ m, m = k / 4 := ⟨_, rfl⟩
        have HMK := Lib.hid hm
        obtain ⟨N, hN⟩ : ∃ N, m + 1 = N := ⟨_, rfl⟩
        have HN := Lib.hid hN
        have hmN : m < N := by omega
        have hm2 : m ≤ 1000000 := by omega
        have n1 : (N : Int) - 1 = (m : Int) := by omega
        have n2 : IntKind.i64.wrap (m : Int) = (m : Int) := wrapI (by omega) (by omega)
        have n3 : (m : Int) < (N : Int) := by omega
        obtain ⟨r, hr4⟩ : ∃ r, r = k % 4 := ⟨_, rfl⟩
        have r1 : (k : Int).tmod 4 = (r : Int) := by rw [Int.tmod_eq_emod_of_nonneg (by omega)]; omega
        have r2 : (k : Int) % 4 = (r : Int) := by omega
        have hki : (k : Int) < l.length := by omega
        by_cases h4 : k % 4 = 0
        · have hr0 : r = 0 := by omega
          subst hr0
          rw [show (k + 3) / 4 = m by omega] at HI
          have hkm : k ≤ m * 4 := by omega
          clear hx hm hN hr4
          have gX : wr.grownBy (wr.alloc (.cells #[Value.slice none 0 0] 28)) none := World.grownBy_alloc _ _ _
          have oX := (HI.kept gX).own
          have rX : RowAt (wr.alloc (.cells #[Value.slice none 0 0] 28)) (.slice (some ⟨wr.heap.size, 0, none⟩) 1 1) [Value.slice none 0 0] := RowAt.lit wr [Value.slice none 0 0] 28 1 1 rfl
          have HI0 := Lib.hid HI
          clear HI
          go_wp2_with (at_builtin; refine wpList_append_row _ rfl _ _ 22 rfl 28 i1 (.slice none 0 0) 24 Try.underlying22 hj hy0 hy1 hy2 rfl _ _ _ rfl oX _ [Value.slice none 0 0] rfl rX (by intro z hz; simp at hz; subst hz; rfl) (by show m + 1 ≤ 2^63-1; omega) (by show (m + 1) * 24 ≤ _; omega) ?_)
          intro v5 w5 o5 g5 m5
          have GX := grow_none G3 gX
          have HI := (HI0.out.kept gX).push hkm GX.size o5 g5 m5
          have G5 := grow_newblk GX HI0.out.new g5
          have c5 : w5.cell? ⟨b1, o1 + k, none⟩ = some (.string x) := by
            obtain ⟨b2, o2, e, h1, _⟩ := row_string (hr.kept G5) rfl hlt
            injection e with e; injection e with e1 e2
            subst e1 e2
            rw [HX.out]; exact h1
          rw [HN.out] at HI
          obtain ⟨g, c8', HV⟩ : ∃ g c', v5 = .slice (some ⟨g, 0, none⟩) N c' := by
            rcases HI.own.2 with ⟨_, h0⟩ | ⟨g, cap, cur, h0, _⟩
            · omega
            · exact ⟨g, cap, h0⟩
          subst HV
          obtain ⟨u, hu⟩ : ∃ u, u = (vs3 ++ [Value.slice none 0 0]).getD m undef := ⟨_, rfl⟩
          have hgu : u.ownBlock ≠ some g := by rw [hu]; intro e; exact HI.off m hmN g e rfl
          have hcg : w5.cell? ⟨g, m, none⟩ = some u := by rw [hu]; exact own_cell HI.own hmN
          have gA : w5.grownBy (w5.drew.alloc (.cells #[.string x] 9)) none := grow_drew _ (World.grownBy_alloc w5.drew _ none)
          have hcg2 : (w5.drew.alloc (.cells #[.string x] 9)).cell? ⟨g, m, none⟩ = some u := by rw [hu]; exact own_cell (HI.kept gA).own hmN
          have hcg3 : (w5.alloc (.cells #[.string x] 9)).cell? ⟨g, m, none⟩ = some u := hcg2
          have oA := (HI.kept gA).each m hmN
          rw [← hu] at oA
          have rA : RowAt (w5.drew.alloc (.cells #[.string x] 9)) (.slice (some ⟨w5.heap.size, 0, none⟩) 1 1) [.string x] := RowAt.lit w5.drew [.string x] 9 1 1 rfl
          have hl4 := chL_len l k m
          obtain ⟨au, cu, hua⟩ := own_form oA
          have F4 : Hid (∀ w4 : World, (w5.drew.alloc (.cells #[.string x] 9)).grownBy w4 u.ownBlock → w4.frozen? ⟨g, m, none⟩ = false ∧ w4.cell? ⟨g, m, none⟩ = some u) := fun w4 g4 => have h5 := (HI.kept gA).own.kept g4 (.inr (fun e => hgu e.symm)); ⟨own_frozen h5 m, by rw [hu]; exact own_cell h5 hmN⟩
          have HI' := Lib.hid HI
          have HUA := Lib.hid hua
          have HU := Lib.hid hu
          have HGU := Lib.hid hgu
          have HL4 := Lib.hid hl4
          clear HI hua hu hgu hl4
          go_wp2_with fail
          go_region_law (((with_reducible show (if Region.wanted (Oper.mk _ (Op.call { callee := .builtin .append, args := _, argTypes := _ }) _ _ _ _) _ = true then _ else _)); refine step_append_row (.tmp 34) (.tmp 39) 28 (by with_reducible rfl) 9 i0 (.string ⟨#[]⟩) 16 Try.underlying28 hi hz0 hz1 hz2 rfl _ _ _ rfl oA _ [.string x] rfl rA (by intro z hz; simp at hz; subst hz; rfl) (by have := HL4.out; show _ + 1 ≤ 2^63-1; omega) (by have := HL4.out; show (_ + 1) * 16 ≤ _; omega) rfl ?_; intro v4 w4 o4 g4 m4; obtain ⟨f4, f5⟩ := F4.out w4 g4; obtain ⟨av, cv, rfl⟩ := own_form o4))
          all_goals
            have GA := grow_none G5 gA
            have X4 := grow_newblk GA (by rw [HU.out]; exact (HI'.out.news m hmN)) g4
            have HB := (HI'.out.kept gA).store (w1 := w4) hlt (by rw [← HMK.out]; exact HN.out) GA.size (by rw [← HMK.out, ← HX.out]; exact o4) (by rw [← HMK.out, ← HU.out]; exact g4) (by rw [← HMK.out, ← HU.out]; exact m4)
            rw [← HMK.out] at HB
            have XG := grow_setnew X4 (a := ⟨g, m, none⟩) (HI'.out.new g rfl) (Value.slice av ((chL l k m).length + 1) cv)
            go_wp2_with fail
            go_roundw
            case rel => exact ⟨k + 1, _, by omega, by go_num, by rw [show (k + 1 + 3) / 4 = N by have := HMK.out; have := HN.out; omega]; exact HB, XG⟩
            case measure => simp [intOf]; omega
        · have r3 : ((r : Int) == 0) = false := by simp; omega
          rw [show (k + 3) / 4 = N by omega] at HI
          clear hx hm hN hr4
          obtain ⟨g, c8', HV⟩ : ∃ g c', u8 = .slice (some ⟨g, 0, none⟩) N c' := by
            rcases HI.own.2 with ⟨_, h0⟩ | ⟨g, cap, cur, h0, _⟩
            · omega
            · exact ⟨g, cap, h0⟩
          subst HV
          obtain ⟨u, hu⟩ : ∃ u, u = vs3.getD m undef := ⟨_, rfl⟩
          have hgu : u.ownBlock ≠ some g := by rw [hu]; intro e; exact HI.off m hmN g e rfl
          have hcg : wr.cell? ⟨g, m, none⟩ = some u := by rw [hu]; exact own_cell HI.own hmN
          have gA : wr.grownBy (wr.drew.alloc (.cells #[.string x] 9)) none := grow_drew _ (World.grownBy_alloc wr.drew _ none)
          have hcg2 : (wr.drew.alloc (.cells #[.string x] 9)).cell? ⟨g, m, none⟩ = some u := by rw [hu]; exact own_cell (HI.kept gA).own hmN
          have hcg3 : (wr.alloc (.cells #[.string x] 9)).cell? ⟨g, m, none⟩ = some u := hcg2
          have oA := (HI.kept gA).each m hmN
          rw [← hu] at oA
          have rA : RowAt (wr.drew.alloc (.cells #[.string x] 9)) (.slice (some ⟨wr.heap.size, 0, none⟩) 1 1) [.string x] := RowAt.lit wr.drew [.string x] 9 1 1 rfl
          have hl4 := chL_len l k m
          obtain ⟨au, cu, hua⟩ := own_form oA
          have F4 : Hid (∀ w4 : World, (wr.drew.alloc (.cells #[.string x] 9)).grownBy w4 u.ownBlock → w4.frozen? ⟨g, m, none⟩ = false ∧ w4.cell? ⟨g, m, none⟩ = some u) := fun w4 g4 => have h5 := (HI.kept gA).own.kept g4 (.inr (fun e => hgu e.symm)); ⟨own_frozen h5 m, by rw [hu]; exact own_cell h5 hmN⟩
          have HI' := Lib.hid HI
          have HUA := Lib.hid hua
          have HU := Lib.hid hu
          have HGU := Lib.hid hgu
          have HL4 := Lib.hid hl4
          clear HI hua hu hgu hl4
          go_wp2_with fail
          go_region_law (((with_reducible show (if Region.wanted (Oper.mk _ (Op.call { callee := .builtin .append, args := _, argTypes := _ }) _ _ _ _) _ = true then _ else _)); refine step_append_row (.tmp 34) (.tmp 39) 28 (by with_reducible rfl) 9 i0 (.string ⟨#[]⟩) 16 Try.underlying28 hi hz0 hz1 hz2 rfl _ _ _ rfl oA _ [.string x] rfl rA (by intro z hz; simp at hz; subst hz; rfl) (by have := HL4.out; show _ + 1 ≤ 2^63-1; omega) (by have := HL4.out; show (_ + 1) * 16 ≤ _; omega) rfl ?_; intro v4 w4 o4 g4 m4; obtain ⟨f4, f5⟩ := F4.out w4 g4; obtain ⟨av, cv, rfl⟩ := own_form o4))
          all_goals
            have GA := grow_none G3 gA
            have X4 := grow_newblk GA (by rw [HU.out]; exact (HI'.out.news m hmN)) g4
            have HB := (HI'.out.kept gA).store (w1 := w4) hlt (by rw [← HMK.out]; exact HN.out) GA.size (by rw [← HMK.out, ← HX.out]; exact o4) (by rw [← HMK.out, ← HU.out]; exact g4) (by rw [← HMK.out, ← HU.out]; exact m4)
            rw [← HMK.out] at HB
            have XG := grow_setnew X4 (a := ⟨g, m, none⟩) (HI'.out.new g rfl) (Value.slice av ((chL l k m).length + 1) cv)
            go_wp2_with fail
            go_roundw
            case rel => exact ⟨k + 1, _, by omega, by go_num, by rw [show (k + 1 + 3) / 4 = N by have := HMK.out; have := HN.out; omega]; exact HB, XG⟩
            case measure => simp [intOf]; omega
      · obtain rfl : k = l.length := by omega
        obtain ⟨R, hR⟩ : ∃ R, R = (l.length + 3) / 4 := ⟨_, rfl⟩
        rw [← hR] at HI
        have hRN : R = rowsN l.length := by rw [hR]; unfold rowsN; omega
        have hR0 : 0 < R := by omega
        obtain ⟨g, c8', HV⟩ : ∃ g c', u8 = .slice (some ⟨g, 0, none⟩) R c' := by
          rcases HI.own.2 with ⟨_, h0⟩ | ⟨g, cap, cur, h0, _⟩
          · omega
          · exact ⟨g, cap, h0⟩
        subst HV
        obtain ⟨q, hq⟩ : ∃ q, q = t / 5 := ⟨_, rfl⟩
        obtain ⟨j, hj⟩ : ∃ j, j = q % R := ⟨_, rfl⟩
        have hjR : j < R := by rw [hj]; exact Nat.mod_lt _ hR0
        obtain ⟨u, hu⟩ : ∃ u, u = vs3.getD j undef := ⟨_, rfl⟩
        have hcg : wr.cell? ⟨g, j, none⟩ = some u := by rw [hu]; exact own_cell HI.own hjR
        have hrow := RowAt.of_own (HI.each j hjR)
        rw [← hu, chL_all, show (l.drop (j * 4)).take 4 = rowL l (t / 5) by unfold rowL; rw [← hRN, hj, hq]] at hrow
        have HROW := Lib.hid hrow
        obtain ⟨x5, hx5⟩ : ∃ x, x = t % 5 := ⟨_, rfl⟩
        obtain ⟨x6, hx6⟩ : ∃ x, x = me + 1 + x5 := ⟨_, rfl⟩
        obtain ⟨x7, hx7⟩ : ∃ x, x = x6 % 6 := ⟨_, rfl⟩
        have q1 : (t : Int).tdiv 5 = (q : Int) := by rw [Int.tdiv_eq_ediv_of_nonneg (by omega)]; omega
        have q2 : (t : Int) / 5 = (q : Int) := by omega
        have q3 : IntKind.i64.wrap (q : Int) = (q : Int) := wrapI (by omega) (by omega)
        have q4 : (q : Int).tmod (R : Int) = (j : Int) := by rw [Int.tmod_eq_emod_of_nonneg (by omega), hj]; simp
        have q5 : (q : Int) % (R : Int) = (j : Int) := by rw [hj]; simp
        have q6 : ((R : Int) == 0) = false := by simp; omega
        have q7 : (0 : Int) < (R : Int) := by omega
        have wb : (t : Int).tmod 5 = (x5 : Int) := by rw [Int.tmod_eq_emod_of_nonneg (by omega)]; omega
        have wb2 : (t : Int) % 5 = (x5 : Int) := by omega
        have wa : IntKind.i64.wrap ((me : Int) + 1) = (me : Int) + 1 := wrapI (by omega) (by omega)
        have wc : IntKind.i64.wrap ((me : Int) + 1 + (x5 : Int)) = (x6 : Int) := by rw [wrapI (by omega) (by omega)]; omega
        have wd : (x6 : Int).tmod 6 = (x7 : Int) := by rw [Int.tmod_eq_emod_of_nonneg (by omega)]; omega
        have we : (x6 : Int) % 6 = (x7 : Int) := by omega
        have HW : Hid (whoT me t l = (x7 : Int)) := by show _ = _; unfold whoT; rw [if_neg HNE.out, hx7, hx6, hx5]
        have hjI : (j : Int) < (R : Int) := by omega
        clear hrow HI hx5 hx6 hx7 hq hj hu hR hRN
        go_wp2_with fail
        go_quiet (fail)
        go_wp2_with fail
        go_ret2
        rw [HW.out]
        exact ⟨u, rfl, HROW.out, grow_drawnN _ G3⟩
end Go.Proofs.Ytjngbmepndhkpaa
