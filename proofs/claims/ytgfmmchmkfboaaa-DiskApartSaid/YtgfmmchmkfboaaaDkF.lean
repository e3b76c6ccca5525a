/- Stage 5: Append. -/
import Derived.Test.YtgfmmchmkfboaaaDkE
namespace Go.Proofs.Ytgfmmchmkfboaaa
open Go.RowKit
set_option linter.unusedVariables false
def noE : Ent := ⟨⟨#[]⟩, ⟨#[]⟩, false⟩
def entOf (d : Dk) (s : ByteArray) : Ent := (d.F s).getD noE
def appC (d : Dk) (s x : ByteArray) : Int := if refC d s ≠ 0 then refC d s else if 1048576 < x.size + (entOf d s).sz then 52 else stepC d
def appD (d : Dk) (s x : ByteArray) : Dk :=
  if refC d s ≠ 0 then d else if 1048576 < x.size + (entOf d s).sz then d else if stepC d ≠ 0 then stepD d else { stepD d with F := putE d.F s (some ⟨(entOf d s).l, (entOf d s).w ++ x, (entOf d s).s⟩) }
theorem noE_fb (w : World) : FB (w.alloc (.cells #[.string ⟨#[]⟩, .string ⟨#[]⟩, .bool false] 72)) w.heap.size noE := Blk.new w 72 [.string ⟨#[]⟩, .string ⟨#[]⟩, .bool false]
theorem putE_twice (F : ByteArray → Option Ent) (s : ByteArray) (a c : Option Ent) : putE (putE F s a) s c = putE F s c := by
  funext x
  unfold putE
  split <;> rfl
set_option maxRecDepth 100000 in
set_option maxHeartbeats 4000000 in
theorem Append_any (b mb n : Nat) (G : ByteArray → Option Nat) (d : Dk) (s x : ByteArray) (w : World) (h : DAt w b mb n G d) (hs : s.size ≤ maxLen) (hx : x.size ≤ maxLen) (hst : d.steps < 1000000) (hn : n < 1000000) :
    Calls Try.prog 25 #[.pointer (some ⟨b, 0, none⟩), .string s, .string x] w fun e w' => e = .returned (.int .i64 (appC d s x)) ∧ ∃ n', n' ≤ n + 1 ∧ DEnd b mb G n' (appD d s x) w w' := by
  have c0 := h.c0
  have hlk := h.map.look s hs
  have H := Lib.hid h
  have hmn := mapNil mb
  have RF := Lib.hid (refuses_any b mb n G d s w h hs)
  have HST := Lib.hid hst
  have HN := Lib.hid hn
  have HS := Lib.hid hs
  have hxI : (x.size : Int) ≤ 9223372036854775807 := by unfold maxLen at hx; omega
  clear hst hn hs hx
  by_cases hr : refC d s = 0
  · have HR := Lib.hid hr
    clear hr
    obtain ⟨e, he⟩ : ∃ e, e = entOf d s := ⟨_, rfl⟩
    have HEE := Lib.hid he
    have hfile : (∃ g, G s = some g) ∨ G s = none := by cases G s <;> simp
    rcases hfile with ⟨g, hg⟩ | hg
    · obtain ⟨e', he', hb, hz⟩ := h.ent s g hg
      have e2 : e = e' := by rw [he]; unfold entOf; rw [he']; rfl
      subst e2
      have HGB := Lib.hid (h.far s g hg)
      have HG := Lib.hid hg
      rw [hg] at hlk
      unfold Pp at hlk
      have HZ := Lib.hid hz
      have HB := Lib.hid hb
      have GW := Lib.hid (grow_refl w none)
      have hzI : (e.sz : Int) ≤ 1048576 := by omega
      have hz0 : (0 : Int) ≤ (e.sz : Int) := by omega
      clear h hg he he' hb hz
      by_cases hbig : 1048576 < x.size + e.sz
      · have HC : Hid (appC d s x = 52 ∧ appD d s x = d) := by
          refine ⟨?_, ?_⟩
          · unfold appC; rw [HR.out, if_neg (fun y => y rfl), ← HEE.out, if_pos hbig]
          · unfold appD; rw [HR.out, if_neg (fun y => y rfl), ← HEE.out, if_pos hbig]
        have d1 : (1048576 : Int) - (e.sz : Int) < (x.size : Int) := by omega
        clear hbig
        go_enter Try.func25, Try.ntmps25
        go_wp2_with fail
        refine RF.out.mono ?_
        rintro e1 w1 ⟨rfl, rfl⟩
        rw [HR.out]
        go_wp2_with fail
        refine (size_any g e _ HB.out HZ.out).mono ?_
        rintro e1 w1 ⟨rfl, g1⟩
        go_wp2
        go_ret
        exact ⟨by rw [HC.out.1]; rfl, n, by omega, by rw [HC.out.2]; exact DEnd.same H.out (grow_none GW.out g1)⟩
      · have d1 : (x.size : Int) ≤ (1048576 : Int) - (e.sz : Int) := by omega
        have hxs : e.sz + x.size ≤ 1048576 := by omega
        have HXS := Lib.hid hxs
        have HNB : Hid (¬ 1048576 < x.size + e.sz) := hbig
        clear hbig hxs
        by_cases hsc : stepC d = 0
        · have HC : Hid (appC d s x = 0 ∧ appD d s x = { stepD d with F := putE (stepD d).F s (some ⟨e.l, e.w ++ x, e.s⟩) }) := by
            refine ⟨?_, ?_⟩
            · unfold appC; rw [HR.out, if_neg (fun y => y rfl), ← HEE.out, if_neg HNB.out, hsc]
            · unfold appD; rw [HR.out, if_neg (fun y => y rfl), ← HEE.out, if_neg HNB.out, hsc, if_neg (fun y => y rfl), stepD_F]
          have HSC := Lib.hid hsc
          clear hsc
          go_enter Try.func25, Try.ntmps25
          go_wp2_with fail
          refine RF.out.mono ?_
          rintro e1 w1 ⟨rfl, rfl⟩
          rw [HR.out]
          go_wp2_with fail
          refine (size_any g e _ HB.out HZ.out).mono ?_
          rintro e1 w1 ⟨rfl, g1⟩
          have G1 := Lib.hid (grow_none GW.out g1)
          have B1 := Lib.hid (Blk.keep HB.out g1 : FB w1 g e)
          have H1 := Lib.hid (H.out.keep G1.out)
          clear g1
          go_wp2_with fail
          refine (step_any b mb n G d _ H1.out HST.out).mono ?_
          rintro e1 w2 ⟨rfl, h2, g2⟩
          rw [HSC.out]
          have H2 := Lib.hid h2
          have B2 := Lib.hid (Blk.kept B1.out g2 (fun y => HGB.out.1 (by injection y)) : FB w2 g e)
          have C2 := Lib.hid ((Chg.of_none G1.out (S := DS b mb G)).trans (Chg.of_row g2 (S := DS b mb G) (fun k hk _ => .inl (by injection hk with hk; exact hk.symm))) (fun _ _ h => h))
          clear h2 g2
          go_wp2_with fail
          refine (put_any g e x _ B2.out HXS.out).mono ?_
          rintro e1 w3 ⟨rfl, b3, g3⟩
          have c3 := (H2.out.blk.kept g3 (fun y => HGB.out.1 (by injection y with y; exact y.symm))).cell 0 (by simp)
          have M3 := Lib.hid (H2.out.map.kept g3 (fun y => HGB.out.2 (by injection y with y; exact y.symm)))
          have B3 := Lib.hid b3
          have G3 := Lib.hid g3
          clear b3 g3
          go_wp2_with (refine wpList_putG _ rfl _ _ _ rfl mb n G rfl M3.out (by have := HN.out; show n < 2^63-1; omega) s g rfl rfl HS.out ?_)
          intro w4 m4 g4
          have HE : Hid (DEnd b mb G (n + 1) (appD d s x) w w4) := by
            show DEnd _ _ _ _ _ _ _
            rw [HC.out.2]
            have hd3 := H2.out.file s g HG.out ⟨e.l, e.w ++ x, e.s⟩ B3.out (by have := HXS.out; unfold Ent.sz at *; simp only [ByteArray.size_append]; omega) G3.out
            have hk := DAt.mapPut hd3 s g ⟨e.l, e.w ++ x, e.s⟩ B3.out (by have := HXS.out; unfold Ent.sz at *; simp only [ByteArray.size_append]; omega) (.inl ⟨HG.out, by show putE _ _ _ _ = _; unfold putE; rw [if_pos rfl]⟩) m4 g4 (by have := HN.out; omega)
            simp only [putE_twice] at hk
            refine ⟨_, hk, (C2.out.trans (Chg.of_row G3.out (S := DS b mb G) (fun k hk _ => by injection hk with hk; subst hk; exact .inr (.inr ⟨s, HG.out⟩))) (fun _ _ h => h)).trans (Chg.of_row g4 (S := DS b mb G) (fun k hk _ => by injection hk with hk; exact .inr (.inl hk.symm))) (fun _ _ h => h), fun t y hy => ?_⟩
            rw [putG_same HG.out] at hy
            exact .inl ⟨t, hy⟩
          clear m4 g4
          go_wp2
          go_ret
          exact ⟨by rw [HC.out.1]; rfl, n + 1, Nat.le_refl _, HE.out⟩
        · have HC : Hid (appC d s x = stepC d ∧ appD d s x = stepD d) := by
            refine ⟨?_, ?_⟩
            · unfold appC; rw [HR.out, if_neg (fun y => y rfl), ← HEE.out, if_neg HNB.out]
            · unfold appD; rw [HR.out, if_neg (fun y => y rfl), ← HEE.out, if_neg HNB.out, if_pos hsc]
          have e3 : (stepC d != 0) = true := by simpa using hsc
          clear hsc
          go_enter Try.func25, Try.ntmps25
          go_wp2_with fail
          refine RF.out.mono ?_
          rintro e1 w1 ⟨rfl, rfl⟩
          rw [HR.out]
          go_wp2_with fail
          refine (size_any g e _ HB.out HZ.out).mono ?_
          rintro e1 w1 ⟨rfl, g1⟩
          have G1 := Lib.hid (grow_none GW.out g1)
          have H1 := Lib.hid (H.out.keep G1.out)
          clear g1
          go_wp2_with fail
          refine (step_any b mb n G d _ H1.out HST.out).mono ?_
          rintro e1 w2 ⟨rfl, h2, g2⟩
          have HE := Lib.hid (DEnd.front G1.out (DEnd.of_b h2 g2))
          clear h2 g2
          go_wp2
          go_ret
          exact ⟨by rw [HC.out.1]; rfl, n, by omega, by rw [HC.out.2]; exact HE.out⟩
    · have e2 : e = noE := by rw [he]; unfold entOf; rw [h.non s hg]; rfl
      subst e2
      have HG := Lib.hid hg
      rw [hg] at hlk
      unfold Pp at hlk
      have HLV := Lib.hid h.live
      have HGB : Hid (w.heap.size ≠ b ∧ w.heap.size ≠ mb) := ⟨by have := h.lt; omega, by have := h.map.lt; omega⟩
      have HB := Lib.hid (noE_fb w)
      have HZ : Hid (noE.sz ≤ 1048576) := by show _ ≤ _; decide
      have GW := Lib.hid (World.grownBy_alloc w (.cells #[.string ⟨#[]⟩, .string ⟨#[]⟩, .bool false] 72) none)
      have hb := h.lt
      have hzI : (noE.sz : Int) ≤ 1048576 := by decide
      have hz0 : (0 : Int) ≤ (noE.sz : Int) := by decide
      obtain ⟨e, he2⟩ : ∃ e, e = noE := ⟨_, rfl⟩
      rw [← he2] at HEE HB HZ hzI hz0
      clear h hg he he2
      by_cases hbig : 1048576 < x.size + e.sz
      · have HC : Hid (appC d s x = 52 ∧ appD d s x = d) := by
          refine ⟨?_, ?_⟩
          · unfold appC; rw [HR.out, if_neg (fun y => y rfl), ← HEE.out, if_pos hbig]
          · unfold appD; rw [HR.out, if_neg (fun y => y rfl), ← HEE.out, if_pos hbig]
        have d1 : (1048576 : Int) - (e.sz : Int) < (x.size : Int) := by omega
        clear hbig
        go_enter Try.func25, Try.ntmps25
        go_wp2_with fail
        refine RF.out.mono ?_
        rintro e1 w1 ⟨rfl, rfl⟩
        rw [HR.out]
        go_wp2_with fail
        refine (size_any w.heap.size e _ HB.out HZ.out).mono ?_
        rintro e1 w1 ⟨rfl, g1⟩
        go_wp2
        go_ret
        exact ⟨by rw [HC.out.1]; rfl, n, by omega, by rw [HC.out.2]; exact DEnd.same H.out (grow_none GW.out g1)⟩
      · have d1 : (x.size : Int) ≤ (1048576 : Int) - (e.sz : Int) := by omega
        have hxs : e.sz + x.size ≤ 1048576 := by omega
        have HXS := Lib.hid hxs
        have HNB : Hid (¬ 1048576 < x.size + e.sz) := hbig
        clear hbig hxs
        by_cases hsc : stepC d = 0
        · have HC : Hid (appC d s x = 0 ∧ appD d s x = { stepD d with F := putE (stepD d).F s (some ⟨e.l, e.w ++ x, e.s⟩) }) := by
            refine ⟨?_, ?_⟩
            · unfold appC; rw [HR.out, if_neg (fun y => y rfl), ← HEE.out, if_neg HNB.out, hsc]
            · unfold appD; rw [HR.out, if_neg (fun y => y rfl), ← HEE.out, if_neg HNB.out, hsc, if_neg (fun y => y rfl), stepD_F]
          have HSC := Lib.hid hsc
          clear hsc
          go_enter Try.func25, Try.ntmps25
          go_wp2_with fail
          refine RF.out.mono ?_
          rintro e1 w1 ⟨rfl, rfl⟩
          rw [HR.out]
          go_wp2_with fail
          refine (size_any w.heap.size e _ HB.out HZ.out).mono ?_
          rintro e1 w1 ⟨rfl, g1⟩
          have G1 := Lib.hid (grow_none GW.out g1)
          have B1 := Lib.hid (Blk.keep HB.out g1 : FB w1 w.heap.size e)
          have H1 := Lib.hid (H.out.keep G1.out)
          clear g1
          go_wp2_with fail
          refine (step_any b mb n G d _ H1.out HST.out).mono ?_
          rintro e1 w2 ⟨rfl, h2, g2⟩
          rw [HSC.out]
          have H2 := Lib.hid h2
          have B2 := Lib.hid (Blk.kept B1.out g2 (fun y => HGB.out.1 (by injection y)) : FB w2 w.heap.size e)
          have C2 := Lib.hid ((Chg.of_none G1.out (S := DS b mb G)).trans (Chg.of_row g2 (S := DS b mb G) (fun k hk _ => .inl (by injection hk with hk; exact hk.symm))) (fun _ _ h => h))
          clear h2 g2
          go_wp2_with fail
          refine (put_any w.heap.size e x _ B2.out HXS.out).mono ?_
          rintro e1 w3 ⟨rfl, b3, g3⟩
          have c3 := (H2.out.blk.kept g3 (fun y => HGB.out.1 (by injection y with y; exact y.symm))).cell 0 (by simp)
          have M3 := Lib.hid (H2.out.map.kept g3 (fun y => HGB.out.2 (by injection y with y; exact y.symm)))
          have B3 := Lib.hid b3
          have G3 := Lib.hid g3
          clear b3 g3
          go_wp2_with (refine wpList_putG _ rfl _ _ _ rfl mb n G rfl M3.out (by have := HN.out; show n < 2^63-1; omega) s w.heap.size rfl rfl HS.out ?_)
          intro w4 m4 g4
          have HE : Hid (DEnd b mb G (n + 1) (appD d s x) w w4) := by
            show DEnd _ _ _ _ _ _ _
            rw [HC.out.2]
            have hnd : ¬ DS b mb G w.heap.size := fun y => by have := HLV.out _ y; omega
            have hd3 := H2.out.chg (Chg.of_row G3.out (S := fun i => i = w.heap.size) (fun k hk _ => by injection hk with hk; exact hk.symm)) (fun i hi y => hnd (by rw [← y]; exact hi))
            have hk := DAt.mapPut hd3 s w.heap.size ⟨e.l, e.w ++ x, e.s⟩ B3.out (by have := HXS.out; unfold Ent.sz at *; simp only [ByteArray.size_append]; omega) (.inr hnd) m4 g4 (by have := HN.out; omega)
            refine ⟨_, hk, (C2.out.trans (Chg.of_row G3.out (S := fun i => i = w.heap.size) (fun k hk _ => by injection hk with hk; exact hk.symm)) (fun i hi y => by omega)).trans (Chg.of_row g4 (S := DS b mb G) (fun k hk _ => by injection hk with hk; exact .inr (.inl hk.symm))) (fun _ _ h => h), fun t y hy => ?_⟩
            unfold putG at hy
            by_cases ht : t = s
            · rw [if_pos ht] at hy; injection hy with hy; exact .inr (by omega)
            · rw [if_neg ht] at hy; exact .inl ⟨t, hy⟩
          clear m4 g4
          go_wp2
          go_ret
          exact ⟨by rw [HC.out.1]; rfl, n + 1, Nat.le_refl _, HE.out⟩
        · have HC : Hid (appC d s x = stepC d ∧ appD d s x = stepD d) := by
            refine ⟨?_, ?_⟩
            · unfold appC; rw [HR.out, if_neg (fun y => y rfl), ← HEE.out, if_neg HNB.out]
            · unfold appD; rw [HR.out, if_neg (fun y => y rfl), ← HEE.out, if_neg HNB.out, if_pos hsc]
          have e3 : (stepC d != 0) = true := by simpa using hsc
          clear hsc
          go_enter Try.func25, Try.ntmps25
          go_wp2_with fail
          refine RF.out.mono ?_
          rintro e1 w1 ⟨rfl, rfl⟩
          rw [HR.out]
          go_wp2_with fail
          refine (size_any w.heap.size e _ HB.out HZ.out).mono ?_
          rintro e1 w1 ⟨rfl, g1⟩
          have G1 := Lib.hid (grow_none GW.out g1)
          have H1 := Lib.hid (H.out.keep G1.out)
          clear g1
          go_wp2_with fail
          refine (step_any b mb n G d _ H1.out HST.out).mono ?_
          rintro e1 w2 ⟨rfl, h2, g2⟩
          have HE := Lib.hid (DEnd.front G1.out (DEnd.of_b h2 g2))
          clear h2 g2
          go_wp2
          go_ret
          exact ⟨by rw [HC.out.1]; rfl, n, by omega, by rw [HC.out.2]; exact HE.out⟩
  · have HC : Hid (appC d s x = refC d s ∧ appD d s x = d) := ⟨by unfold appC; rw [if_pos hr], by unfold appD; rw [if_pos hr]⟩
    have e1 : (refC d s != 0) = true := by simpa using hr
    clear hr h hlk
    go_enter Try.func25, Try.ntmps25
    go_wp2_with fail
    refine RF.out.mono ?_
    rintro e w1 ⟨rfl, rfl⟩
    go_wp2
    go_ret
    exact ⟨by rw [HC.out.1]; rfl, n, by omega, by rw [HC.out.2]; exact DEnd.same H.out (grow_refl _ _)⟩
end Go.Proofs.Ytgfmmchmkfboaaa
