/- Stage 5: Crash. -/
import Derived.Test.YtgfmmchmkfboaaaDkH
namespace Go.Proofs.Ytgfmmchmkfboaaa
open Go.RowKit Go.Maps Go.Sort
set_option linter.unusedVariables false
abbrev ints (l : List Int) : List Value := l.map (Value.int .i64)
theorem RowN.int {S : Nat → Prop} {w : World} {v : Value} {l : List Int} (h : RowN S w v (ints l)) : ∃ a cap, v = .slice a l.length cap ∧ l.length ≤ cap ∧ (l = [] ∨ ∃ b off, a = some ⟨b, off, none⟩ ∧ w.cell? ⟨b, off, none⟩ = some (.int .i64 (l.headD 0)) ∧
    RowN S w (.slice (some ⟨b, off + 1, none⟩) (l.length - 1) (cap - 1)) (ints l.tail) ∧ (cap = 1 → l.tail = [])) := by
  obtain ⟨a, cap, rfl, hc, h⟩ := h
  rw [List.length_map] at *
  refine ⟨a, cap, rfl, hc, ?_⟩
  rcases h with h | ⟨b, off, rfl, hb, hn, h⟩
  · exact .inl (by simpa using h)
  · cases l with
    | nil => exact .inl rfl
    | cons x t =>
      refine .inr ⟨b, off, rfl, by have := h 0 (by simp); simpa using this, ⟨_, cap - 1, by simp, by simp at hc ⊢; omega, .inr ⟨b, off + 1, rfl, hb, hn, fun j hj => ?_⟩⟩, fun h1 => by simp at hc; exact List.eq_nil_of_length_eq_zero (by show t.length = 0; omega)⟩
      have := h (j + 1) (by simp at hj ⊢; omega)
      rw [show off + 1 + j = off + (j + 1) by omega, this]
      simp
def SS (b mb : Nat) (G : ByteArray → Option Nat) (n0 : Nat) : Nat → Prop := fun i => DS b mb G i ∨ n0 ≤ i
theorem RowN.more {b mb : Nat} {G : ByteArray → Option Nat} {w : World} {v : Value} {xs : List Value} (h : RowN (DS b mb G) w v xs) : RowN (SS b mb G w.heap.size) w v xs := by
  obtain ⟨a, cap, rfl, hc, h⟩ := h
  refine ⟨a, cap, rfl, hc, ?_⟩
  rcases h with h | ⟨b', off, rfl, hb, hn, h⟩
  · exact .inl h
  · exact .inr ⟨b', off, rfl, hb, fun x => x.elim hn (fun y => by omega), h⟩
/-- What a drive is behind a loss of power. -/
def crashD (d : Dk) (ks : List Int) (ts : List (List UInt8)) : Dk := { d with F := (crK d.F ks ts ts.length).1, lit := false, fuse := 0, down := false }
set_option maxRecDepth 100000 in
set_option maxHeartbeats 2000000 in
theorem Crash_any (b mb n : Nat) (G : ByteArray → Option Nat) (d : Dk) (ks : List Int) (v : Value) (w : World) (h : DAt w b mb n G d) (hk : RowN (DS b mb G) w v (ints ks)) :
    Calls Try.prog 21 #[.pointer (some ⟨b, 0, none⟩), v] w fun e w' => e = .returned (.tuple #[]) ∧ ∃ ts, Names G ts ∧ ts.length ≤ n ∧ DEnd b mb G n (crashD d ks ts) w w' := by
  have H := Lib.hid h
  have HKS := Lib.hid hk
  clear h hk
  go_enter Try.func21, Try.ntmps21
  go_wp2_with fail
  refine (all_any b mb n G d w H.out).mono ?_
  rintro e w1 ⟨vl, ts, rfl, hN, hln, hown, g1⟩
  have HN := Lib.hid hN
  have HLN := Lib.hid hln
  have HG1 := Lib.hid g1
  have hL := RowN.of_own (S := DS b mb G) hown (fun i hi hs => by have := H.out.live i hs; omega)
  have HK1 := Lib.hid ((HKS.out.chg (Chg.of_none g1)).more)
  have HD1 := Lib.hid (H.out.keep g1)
  have hlen : (ts.length : Int) ≤ 1000000 := by have := H.out.n1; omega
  obtain ⟨al, cl, rfl, hcl, hcells⟩ := hL
  have HCELL := Lib.hid hcells
  rw [List.length_map]
  clear hN hln g1 hown hcl hcells
  go_wp2
  go_loopw [1, 13] (fun v i wr => ∃ k : Nat, k ≤ ts.length ∧ i = .int .i64 k ∧ RowN (SS b mb G w1.heap.size) wr v (ints (crK d.F ks ts k).2) ∧ DEnd b mb G n { d with F := (crK d.F ks ts k).1 } w1 wr) (fun _ i _ => ts.length - (intOf i).toNat)
  case atStart => exact ⟨0, Nat.zero_le _, rfl, HK1.out, DEnd.same HD1.out (grow_refl _ _)⟩
  case round =>
    obtain ⟨k, hk, rfl, hrow, hE⟩ := hrel
    by_cases hlt : k < ts.length
    · obtain ⟨s, hs⟩ : ∃ s, s = nm ts[k] := ⟨_, rfl⟩
      have HK := Lib.hid hlt
      have i1 : (k : Int) < ts.length := by omega
      have i0 : (0 : Int) ≤ k := by omega
      have HSZ : Hid (s.size ≤ maxLen) := by show _ ≤ _; rw [hs]; exact HN.out.le _ (List.getElem_mem _)
      have HCK : Hid (crK d.F ks ts (k + 1) = crS (crK d.F ks ts k) s) := by show _ = _; rw [hs]; exact crK_succ _ _ _ _ hlt
      have HE0 : Hid (∃ e, (crK d.F ks ts k).1 s = some e) := by
        show ∃ _, _
        rw [hs, crK_here _ _ _ HN.out.nodup _ hlt]
        have := (HN.out.mem ts[k]).1 (List.getElem_mem _)
        cases hx : G (nm ts[k]) with
        | none => have this2 : (G (nm ts[k])).isSome = true := this; rw [hx] at this2; cases this2
        | some x => obtain ⟨e, he, _⟩ := H.out.ent _ x hx; exact ⟨e, he⟩
      obtain ⟨bl, ol, rfl, hbl, hnl, hcl⟩ : ∃ bl ol, al = some ⟨bl, ol, none⟩ ∧ bl < w1.heap.size ∧ ¬ DS b mb G bl ∧ w1.cell? ⟨bl, ol + k, none⟩ = some (.string s) := by
        rcases HCELL.out with y | ⟨bl, ol, y1, y2, y3, y4⟩
        · have : ts.length = 0 := by have := congrArg List.length y; simpa using this
          omega
        · refine ⟨bl, ol, y1, y2, y3, ?_⟩
          rw [y4 k (by simpa using hlt), hs]
          simp [List.getD, List.getElem?_eq_getElem hlt]
      obtain ⟨G1, h1, x1, x2⟩ := hE
      have cl1 : wr.cell? ⟨bl, ol + k, none⟩ = some (.string s) := by rw [← hcl]; exact World.cell?_of_block (x1.block bl hbl hnl)
      have X1 := Lib.hid x1
      have X2 := Lib.hid x2
      have H1 := Lib.hid h1
      have c0 := h1.c0
      have hlk := h1.map.look s HSZ.out
      obtain ⟨F1, ks1, hp⟩ : ∃ F1 ks1, crK d.F ks ts k = (F1, ks1) := ⟨_, _, rfl⟩
      rw [hp] at HCK HE0 hrow h1 H1
      obtain ⟨e, he⟩ := HE0.out
      have HEE : Hid (F1 s = some e) := he
      cases hg : G1 s with
      | none => have := h1.non s hg; rw [show ({ d with F := (F1, ks1).1 } : Dk).F s = F1 s from rfl, HEE.out] at this; cases this
      | some g =>
        obtain ⟨e', he', hb, hz⟩ := h1.ent s g hg
        obtain rfl : e = e' := by rw [show ({ d with F := (F1, ks1).1 } : Dk).F s = F1 s from rfl, HEE.out] at he'; injection he'
        rw [hg] at hlk
        unfold Pp at hlk
        have HG := Lib.hid hg
        have d1 := hb.c1
        have HB := Lib.hid hb
        have HZ := Lib.hid hz
        have XG : Hid (SS b mb G w1.heap.size g) := by
          rcases x2 s g hg with ⟨t, y⟩ | y
          · exact .inl (.inr (.inr ⟨t, y⟩))
          · exact .inr y
        have HROW := Lib.hid hrow
        obtain ⟨a1, cap1, rfl, hc1, hr1⟩ := hrow.int
        clear h1 x1 x2 hg he' hb hz hrow hcl hbl hnl he hs hlt hk hp
        by_cases hw : e.w.size = 0
        · have HW := Lib.hid hw
          have ew := toList_nil hw
          clear hw
          go_wp2_with fail
          refine (settle_any g e 0 _ HB.out HZ.out).mono ?_
          rintro e' w2 ⟨rfl, hb2, g2⟩
          obtain ⟨e2, he2⟩ : ∃ z, z = settleE e 0 := ⟨_, rfl⟩
          rw [← he2] at hb2
          have HP : Hid (crS (F1, ks1) s = (putE F1 s (if e2.s = false ∧ e2.l.size = 0 then none else some { e2 with s := true }), ks1)) := by
            show _ = _
            unfold crS
            rw [show (F1, ks1).1 s = some e from HEE.out]
            simp only [HW.out, if_true, he2]; rfl
          have hz2 : e2.sz ≤ 1048576 := by rw [he2]; exact Nat.le_trans (settle_sz e _) HZ.out
          have q0 := hb2.c0
          have q2 := hb2.c2
          have f2 := hb2.fr 2
          have HB2 := Lib.hid hb2
          have HG2 := Lib.hid g2
          have HZ2 := Lib.hid hz2
          have HD2 := Lib.hid (H1.out.file s g HG.out e2 hb2 hz2 g2)
          have c2 := HD2.out.c0
          have HR2 := Lib.hid (RowN.chg HROW.out (Chg.of_row (S := SS b mb G w1.heap.size) g2 (fun i hi hl => by injection hi with hi; subst hi; exact XG.out)))
          clear hb2 g2 he2 hz2
          cases hes : e2.s
          · rw [hes] at q2
            by_cases hl : e2.l.size = 0
            · have HP2 : Hid (crS (F1, ks1) s = (putE F1 s none, ks1)) := by show _ = _; rw [HP.out, if_pos ⟨hes, hl⟩]
              have el := toList_nil hl
              clear hes hl
              go_wp2_with (at_delete; refine wpList_delG rfl _ _ rfl mb n G1 rfl HD2.out.map s rfl HSZ.out ?_
                           intro w3 hm3 g3
                           have f3 : w3.frozen? ⟨g, 2, none⟩ = false := grow_fr g3 f2 (Blk.lt HB2.out) (fun y => (H1.out.far s g HG.out).2 (by injection y))
                           have k3 : w3.cell? ⟨g, 2, none⟩ = some (.bool false) := (World.cell?_of_block (g3.block g (Blk.lt HB2.out) (fun y => (H1.out.far s g HG.out).2 (by injection y)))).trans q2
                           have HM3 := Lib.hid hm3
                           have HG3 := Lib.hid g3
                           clear hm3 g3)
              go_roundw
              case rel =>
                refine ⟨k + 1, by have := HK.out; omega, by go_num, ?_, ?_⟩
                · rw [HCK.out, HP2.out]
                  exact HR2.out.chg ((Chg.of_row HG3.out (fun i hi _ => by injection hi with hi; exact .inl (.inr (.inl hi.symm)))).trans (T := SS b mb G w1.heap.size) (Chg.of_row (grow_set w3 ⟨g, 2, none⟩ _) (fun i hi hl => by injection hi with hi; subst hi; exact XG.out)) (fun _ _ x => x))
                · rw [HCK.out, HP2.out]
                  exact DEnd.after X1.out X2.out (DEnd.crDel H1.out s g HG.out e2 HB2.out HZ2.out HG2.out HM3.out HG3.out _)
              case measure => first | (simp [intOf]; done) | (have := HK.out; simp [intOf]; omega)
            · have HP2 : Hid (crS (F1, ks1) s = (putE F1 s (some { e2 with s := true }), ks1)) := by show _ = _; rw [HP.out, if_neg (fun y => hl y.2)]
              have el : e2.l.toList.isEmpty = false := by rw [List.isEmpty_eq_false_iff]; exact toList_ne hl
              have el2 : ¬ e2.l.toList = [] := toList_ne hl
              clear hes hl
              go_wp2
              go_roundw
              case rel =>
                refine ⟨k + 1, by have := HK.out; omega, by go_num, ?_, ?_⟩
                · rw [HCK.out, HP2.out]
                  exact HR2.out.chg (Chg.of_row (grow_set w2 ⟨g, 2, none⟩ _) (fun i hi hl => by injection hi with hi; subst hi; exact XG.out))
                · rw [HCK.out, HP2.out]
                  exact DEnd.after X1.out X2.out (DEnd.file H1.out s g HG.out { e2 with s := true } (HB2.out.set2 true) HZ2.out (grow_same HG2.out (grow_set w2 ⟨g, 2, none⟩ (.bool true))))
              case measure => first | (simp [intOf]; done) | (have := HK.out; simp [intOf]; omega)
          · rw [hes] at q2
            have HP2 : Hid (crS (F1, ks1) s = (putE F1 s (some { e2 with s := true }), ks1)) := by show _ = _; rw [HP.out, if_neg (fun y => by rw [hes] at y; cases y.1)]
            clear hes
            go_wp2
            go_roundw
            case rel =>
              refine ⟨k + 1, by have := HK.out; omega, by go_num, ?_, ?_⟩
              · rw [HCK.out, HP2.out]
                exact HR2.out.chg (Chg.of_row (grow_set w2 ⟨g, 2, none⟩ _) (fun i hi hl => by injection hi with hi; subst hi; exact XG.out))
              · rw [HCK.out, HP2.out]
                exact DEnd.after X1.out X2.out (DEnd.file H1.out s g HG.out { e2 with s := true } (HB2.out.set2 true) HZ2.out (grow_same HG2.out (grow_set w2 ⟨g, 2, none⟩ (.bool true))))
            case measure => first | (simp [intOf]; done) | (have := HK.out; simp [intOf]; omega)
        · have HW := Lib.hid hw
          have ew : e.w.toList.isEmpty = false := by rw [List.isEmpty_eq_false_iff]; exact toList_ne hw
          have ew2 : ¬ e.w.toList = [] := toList_ne hw
          clear hw
          cases ks1 with
          | nil =>
            clear hr1 hc1
            go_wp2_with fail
            refine (settle_any g e 0 _ HB.out HZ.out).mono ?_
            rintro e' w2 ⟨rfl, hb2, g2⟩
            obtain ⟨e2, he2⟩ : ∃ z, z = settleE e 0 := ⟨_, rfl⟩
            rw [← he2] at hb2
            have HP : Hid (crS (F1, []) s = (putE F1 s (if e2.s = false ∧ e2.l.size = 0 then none else some { e2 with s := true }), [])) := by
              show _ = _
              unfold crS
              rw [show (F1, []).1 s = some e from HEE.out]
              simp only [HW.out, if_false, he2]; rfl
            have hz2 : e2.sz ≤ 1048576 := by rw [he2]; exact Nat.le_trans (settle_sz e _) HZ.out
            have q0 := hb2.c0
            have q2 := hb2.c2
            have f2 := hb2.fr 2
            have HB2 := Lib.hid hb2
            have HG2 := Lib.hid g2
            have HZ2 := Lib.hid hz2
            have HD2 := Lib.hid (H1.out.file s g HG.out e2 hb2 hz2 g2)
            have c2 := HD2.out.c0
            have HR2 := Lib.hid (RowN.chg HROW.out (Chg.of_row (S := SS b mb G w1.heap.size) g2 (fun i hi hl => by injection hi with hi; subst hi; exact XG.out)))
            clear hb2 g2 he2 hz2
            cases hes : e2.s
            · rw [hes] at q2
              by_cases hl : e2.l.size = 0
              · have HP2 : Hid (crS (F1, []) s = (putE F1 s none, [])) := by show _ = _; rw [HP.out, if_pos ⟨hes, hl⟩]
                have el := toList_nil hl
                clear hes hl
                go_wp2_with (at_delete; refine wpList_delG rfl _ _ rfl mb n G1 rfl HD2.out.map s rfl HSZ.out ?_
                             intro w3 hm3 g3
                             have f3 : w3.frozen? ⟨g, 2, none⟩ = false := grow_fr g3 f2 (Blk.lt HB2.out) (fun y => (H1.out.far s g HG.out).2 (by injection y))
                             have k3 : w3.cell? ⟨g, 2, none⟩ = some (.bool false) := (World.cell?_of_block (g3.block g (Blk.lt HB2.out) (fun y => (H1.out.far s g HG.out).2 (by injection y)))).trans q2
                             have HM3 := Lib.hid hm3
                             have HG3 := Lib.hid g3
                             clear hm3 g3)
                go_roundw
                case rel =>
                  refine ⟨k + 1, by have := HK.out; omega, by go_num, ?_, ?_⟩
                  · rw [HCK.out, HP2.out]
                    exact HR2.out.chg ((Chg.of_row HG3.out (fun i hi _ => by injection hi with hi; exact .inl (.inr (.inl hi.symm)))).trans (T := SS b mb G w1.heap.size) (Chg.of_row (grow_set w3 ⟨g, 2, none⟩ _) (fun i hi hl => by injection hi with hi; subst hi; exact XG.out)) (fun _ _ x => x))
                  · rw [HCK.out, HP2.out]
                    exact DEnd.after X1.out X2.out (DEnd.crDel H1.out s g HG.out e2 HB2.out HZ2.out HG2.out HM3.out HG3.out _)
                case measure => first | (simp [intOf]; done) | (have := HK.out; simp [intOf]; omega)
              · have HP2 : Hid (crS (F1, []) s = (putE F1 s (some { e2 with s := true }), [])) := by show _ = _; rw [HP.out, if_neg (fun y => hl y.2)]
                have el : e2.l.toList.isEmpty = false := by rw [List.isEmpty_eq_false_iff]; exact toList_ne hl
                have el2 : ¬ e2.l.toList = [] := toList_ne hl
                clear hes hl
                go_wp2
                go_roundw
                case rel =>
                  refine ⟨k + 1, by have := HK.out; omega, by go_num, ?_, ?_⟩
                  · rw [HCK.out, HP2.out]
                    exact HR2.out.chg (Chg.of_row (grow_set w2 ⟨g, 2, none⟩ _) (fun i hi hl => by injection hi with hi; subst hi; exact XG.out))
                  · rw [HCK.out, HP2.out]
                    exact DEnd.after X1.out X2.out (DEnd.file H1.out s g HG.out { e2 with s := true } (HB2.out.set2 true) HZ2.out (grow_same HG2.out (grow_set w2 ⟨g, 2, none⟩ (.bool true))))
                case measure => first | (simp [intOf]; done) | (have := HK.out; simp [intOf]; omega)
            · rw [hes] at q2
              have HP2 : Hid (crS (F1, []) s = (putE F1 s (some { e2 with s := true }), [])) := by show _ = _; rw [HP.out, if_neg (fun y => by rw [hes] at y; cases y.1)]
              clear hes
              go_wp2
              go_roundw
              case rel =>
                refine ⟨k + 1, by have := HK.out; omega, by go_num, ?_, ?_⟩
                · rw [HCK.out, HP2.out]
                  exact HR2.out.chg (Chg.of_row (grow_set w2 ⟨g, 2, none⟩ _) (fun i hi hl => by injection hi with hi; subst hi; exact XG.out))
                · rw [HCK.out, HP2.out]
                  exact DEnd.after X1.out X2.out (DEnd.file H1.out s g HG.out { e2 with s := true } (HB2.out.set2 true) HZ2.out (grow_same HG2.out (grow_set w2 ⟨g, 2, none⟩ (.bool true))))
              case measure => first | (simp [intOf]; done) | (have := HK.out; simp [intOf]; omega)
          | cons x t =>
            rcases hr1 with y | ⟨kb, ko, rfl, ck, hrt, ht1⟩
            · cases y
            have HRT := Lib.hid hrt
            have HT1 := Lib.hid ht1
            clear hrt ht1 hc1
            by_cases hcap : cap1 = 1
            · subst hcap
              obtain rfl : t = [] := HT1.out rfl
              go_wp2_with fail
              refine (settle_any g e x _ HB.out HZ.out).mono ?_
              rintro e' w2 ⟨rfl, hb2, g2⟩
              obtain ⟨e2, he2⟩ : ∃ z, z = settleE e x := ⟨_, rfl⟩
              rw [← he2] at hb2
              have HP : Hid (crS (F1, [x]) s = (putE F1 s (if e2.s = false ∧ e2.l.size = 0 then none else some { e2 with s := true }), [])) := by
                show _ = _
                unfold crS
                rw [show (F1, [x]).1 s = some e from HEE.out]
                simp only [HW.out, if_false, he2]; rfl
              have hz2 : e2.sz ≤ 1048576 := by rw [he2]; exact Nat.le_trans (settle_sz e _) HZ.out
              have q0 := hb2.c0
              have q2 := hb2.c2
              have f2 := hb2.fr 2
              have HB2 := Lib.hid hb2
              have HG2 := Lib.hid g2
              have HZ2 := Lib.hid hz2
              have HD2 := Lib.hid (H1.out.file s g HG.out e2 hb2 hz2 g2)
              have c2 := HD2.out.c0
              have HR2 := Lib.hid (RowN.chg (RowN.nil _ _ (some ⟨kb, ko, none⟩) 0) (Chg.of_row (S := SS b mb G w1.heap.size) g2 (fun i hi hl => by injection hi with hi; subst hi; exact XG.out)))
              clear hb2 g2 he2 hz2
              cases hes : e2.s
              · rw [hes] at q2
                by_cases hl : e2.l.size = 0
                · have HP2 : Hid (crS (F1, [x]) s = (putE F1 s none, [])) := by show _ = _; rw [HP.out, if_pos ⟨hes, hl⟩]
                  have el := toList_nil hl
                  clear hes hl
                  go_wp2_with (at_delete; refine wpList_delG rfl _ _ rfl mb n G1 rfl HD2.out.map s rfl HSZ.out ?_
                               intro w3 hm3 g3
                               have f3 : w3.frozen? ⟨g, 2, none⟩ = false := grow_fr g3 f2 (Blk.lt HB2.out) (fun y => (H1.out.far s g HG.out).2 (by injection y))
                               have k3 : w3.cell? ⟨g, 2, none⟩ = some (.bool false) := (World.cell?_of_block (g3.block g (Blk.lt HB2.out) (fun y => (H1.out.far s g HG.out).2 (by injection y)))).trans q2
                               have HM3 := Lib.hid hm3
                               have HG3 := Lib.hid g3
                               clear hm3 g3)
                  go_roundw
                  case rel =>
                    refine ⟨k + 1, by have := HK.out; omega, by go_num, ?_, ?_⟩
                    · rw [HCK.out, HP2.out]
                      exact HR2.out.chg ((Chg.of_row HG3.out (fun i hi _ => by injection hi with hi; exact .inl (.inr (.inl hi.symm)))).trans (T := SS b mb G w1.heap.size) (Chg.of_row (grow_set w3 ⟨g, 2, none⟩ _) (fun i hi hl => by injection hi with hi; subst hi; exact XG.out)) (fun _ _ x => x))
                    · rw [HCK.out, HP2.out]
                      exact DEnd.after X1.out X2.out (DEnd.crDel H1.out s g HG.out e2 HB2.out HZ2.out HG2.out HM3.out HG3.out _)
                  case measure => first | (simp [intOf]; done) | (have := HK.out; simp [intOf]; omega)
                · have HP2 : Hid (crS (F1, [x]) s = (putE F1 s (some { e2 with s := true }), [])) := by show _ = _; rw [HP.out, if_neg (fun y => hl y.2)]
                  have el : e2.l.toList.isEmpty = false := by rw [List.isEmpty_eq_false_iff]; exact toList_ne hl
                  have el2 : ¬ e2.l.toList = [] := toList_ne hl
                  clear hes hl
                  go_wp2
                  go_roundw
                  case rel =>
                    refine ⟨k + 1, by have := HK.out; omega, by go_num, ?_, ?_⟩
                    · rw [HCK.out, HP2.out]
                      exact HR2.out.chg (Chg.of_row (grow_set w2 ⟨g, 2, none⟩ _) (fun i hi hl => by injection hi with hi; subst hi; exact XG.out))
                    · rw [HCK.out, HP2.out]
                      exact DEnd.after X1.out X2.out (DEnd.file H1.out s g HG.out { e2 with s := true } (HB2.out.set2 true) HZ2.out (grow_same HG2.out (grow_set w2 ⟨g, 2, none⟩ (.bool true))))
                  case measure => first | (simp [intOf]; done) | (have := HK.out; simp [intOf]; omega)
              · rw [hes] at q2
                have HP2 : Hid (crS (F1, [x]) s = (putE F1 s (some { e2 with s := true }), [])) := by show _ = _; rw [HP.out, if_neg (fun y => by rw [hes] at y; cases y.1)]
                clear hes
                go_wp2
                go_roundw
                case rel =>
                  refine ⟨k + 1, by have := HK.out; omega, by go_num, ?_, ?_⟩
                  · rw [HCK.out, HP2.out]
                    exact HR2.out.chg (Chg.of_row (grow_set w2 ⟨g, 2, none⟩ _) (fun i hi hl => by injection hi with hi; subst hi; exact XG.out))
                  · rw [HCK.out, HP2.out]
                    exact DEnd.after X1.out X2.out (DEnd.file H1.out s g HG.out { e2 with s := true } (HB2.out.set2 true) HZ2.out (grow_same HG2.out (grow_set w2 ⟨g, 2, none⟩ (.bool true))))
                case measure => first | (simp [intOf]; done) | (have := HK.out; simp [intOf]; omega)
            · have kl : (0 : Int) < ((t.length + 1 : Nat) : Int) := by omega
              have kl1 : (1 : Int) ≤ ((t.length + 1 : Nat) : Int) := by omega
              go_wp2_with fail
              refine (settle_any g e x _ HB.out HZ.out).mono ?_
              rintro e' w2 ⟨rfl, hb2, g2⟩
              obtain ⟨e2, he2⟩ : ∃ z, z = settleE e x := ⟨_, rfl⟩
              rw [← he2] at hb2
              have HP : Hid (crS (F1, (x :: t)) s = (putE F1 s (if e2.s = false ∧ e2.l.size = 0 then none else some { e2 with s := true }), t)) := by
                show _ = _
                unfold crS
                rw [show (F1, (x :: t)).1 s = some e from HEE.out]
                simp only [HW.out, if_false, he2]; rfl
              have hz2 : e2.sz ≤ 1048576 := by rw [he2]; exact Nat.le_trans (settle_sz e _) HZ.out
              have q0 := hb2.c0
              have q2 := hb2.c2
              have f2 := hb2.fr 2
              have HB2 := Lib.hid hb2
              have HG2 := Lib.hid g2
              have HZ2 := Lib.hid hz2
              have HD2 := Lib.hid (H1.out.file s g HG.out e2 hb2 hz2 g2)
              have c2 := HD2.out.c0
              have HR2 := Lib.hid (RowN.chg HRT.out (Chg.of_row (S := SS b mb G w1.heap.size) g2 (fun i hi hl => by injection hi with hi; subst hi; exact XG.out)))
              clear hb2 g2 he2 hz2
              cases hes : e2.s
              · rw [hes] at q2
                by_cases hl : e2.l.size = 0
                · have HP2 : Hid (crS (F1, (x :: t)) s = (putE F1 s none, t)) := by show _ = _; rw [HP.out, if_pos ⟨hes, hl⟩]
                  have el := toList_nil hl
                  clear hes hl
                  go_wp2_with (at_delete; refine wpList_delG rfl _ _ rfl mb n G1 rfl HD2.out.map s rfl HSZ.out ?_
                               intro w3 hm3 g3
                               have f3 : w3.frozen? ⟨g, 2, none⟩ = false := grow_fr g3 f2 (Blk.lt HB2.out) (fun y => (H1.out.far s g HG.out).2 (by injection y))
                               have k3 : w3.cell? ⟨g, 2, none⟩ = some (.bool false) := (World.cell?_of_block (g3.block g (Blk.lt HB2.out) (fun y => (H1.out.far s g HG.out).2 (by injection y)))).trans q2
                               have HM3 := Lib.hid hm3
                               have HG3 := Lib.hid g3
                               clear hm3 g3)
                  go_roundw
                  case rel =>
                    refine ⟨k + 1, by have := HK.out; omega, by go_num, ?_, ?_⟩
                    · rw [HCK.out, HP2.out]
                      exact HR2.out.chg ((Chg.of_row HG3.out (fun i hi _ => by injection hi with hi; exact .inl (.inr (.inl hi.symm)))).trans (T := SS b mb G w1.heap.size) (Chg.of_row (grow_set w3 ⟨g, 2, none⟩ _) (fun i hi hl => by injection hi with hi; subst hi; exact XG.out)) (fun _ _ x => x))
                    · rw [HCK.out, HP2.out]
                      exact DEnd.after X1.out X2.out (DEnd.crDel H1.out s g HG.out e2 HB2.out HZ2.out HG2.out HM3.out HG3.out _)
                  case measure => first | (simp [intOf]; done) | (have := HK.out; simp [intOf]; omega)
                · have HP2 : Hid (crS (F1, (x :: t)) s = (putE F1 s (some { e2 with s := true }), t)) := by show _ = _; rw [HP.out, if_neg (fun y => hl y.2)]
                  have el : e2.l.toList.isEmpty = false := by rw [List.isEmpty_eq_false_iff]; exact toList_ne hl
                  have el2 : ¬ e2.l.toList = [] := toList_ne hl
                  clear hes hl
                  go_wp2
                  go_roundw
                  case rel =>
                    refine ⟨k + 1, by have := HK.out; omega, by go_num, ?_, ?_⟩
                    · rw [HCK.out, HP2.out]
                      exact HR2.out.chg (Chg.of_row (grow_set w2 ⟨g, 2, none⟩ _) (fun i hi hl => by injection hi with hi; subst hi; exact XG.out))
                    · rw [HCK.out, HP2.out]
                      exact DEnd.after X1.out X2.out (DEnd.file H1.out s g HG.out { e2 with s := true } (HB2.out.set2 true) HZ2.out (grow_same HG2.out (grow_set w2 ⟨g, 2, none⟩ (.bool true))))
                  case measure => first | (simp [intOf]; done) | (have := HK.out; simp [intOf]; omega)
              · rw [hes] at q2
                have HP2 : Hid (crS (F1, (x :: t)) s = (putE F1 s (some { e2 with s := true }), t)) := by show _ = _; rw [HP.out, if_neg (fun y => by rw [hes] at y; cases y.1)]
                clear hes
                go_wp2
                go_roundw
                case rel =>
                  refine ⟨k + 1, by have := HK.out; omega, by go_num, ?_, ?_⟩
                  · rw [HCK.out, HP2.out]
                    exact HR2.out.chg (Chg.of_row (grow_set w2 ⟨g, 2, none⟩ _) (fun i hi hl => by injection hi with hi; subst hi; exact XG.out))
                  · rw [HCK.out, HP2.out]
                    exact DEnd.after X1.out X2.out (DEnd.file H1.out s g HG.out { e2 with s := true } (HB2.out.set2 true) HZ2.out (grow_same HG2.out (grow_set w2 ⟨g, 2, none⟩ (.bool true))))
                case measure => first | (simp [intOf]; done) | (have := HK.out; simp [intOf]; omega)
    · obtain rfl : k = ts.length := by omega
      have HE := Lib.hid hE
      obtain ⟨G1, h1, x1, x2⟩ := hE
      have H1 := Lib.hid h1
      have FU := Lib.hid (Fuse_any b mb n G1 _ (-1) wr h1 (by omega))
      have X1 := Lib.hid x1
      have X2 := Lib.hid x2
      clear h1 x1 x2 hrow hk hlt
      go_wp2_with fail
      refine FU.out.mono ?_
      rintro e w2 ⟨rfl, hE2⟩
      obtain ⟨G2, h2, y1, y2⟩ := hE2
      have c3 := h2.c3
      have f3 := h2.fr 3
      have HH2 := Lib.hid h2
      have HE2 := Lib.hid (DEnd.after X1.out X2.out ⟨G2, h2, y1, y2⟩)
      clear h2 y1 y2
      go_wp2
      go_end0
      refine ⟨rfl, ts, HN.out, HLN.out, DEnd.front HG1.out (HE2.out.more fun G3 h3 => ?_)⟩
      exact DEnd.setb h3 3 _ (crashD d ks ts) rfl (Nat.zero_le _) h3.s1 rfl
end Go.Proofs.Ytgfmmchmkfboaaa
