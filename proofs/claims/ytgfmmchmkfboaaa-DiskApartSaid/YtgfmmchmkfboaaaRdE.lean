/- The document's drive: Append. -/
import Derived.Test.YtgfmmchmkfboaaaRdD
namespace Go.Proofs.Ytgfmmchmkfboaaa
open Go.RowKit
set_option linter.unusedVariables false
def entR (d : Rk) (s : ByteArray) : Rf := if isAt d.L s = true then d.L.getD (placeL d.L s) ⟨s, ⟨#[]⟩, ⟨#[]⟩, false⟩ else ⟨s, ⟨#[]⟩, ⟨#[]⟩, false⟩
def moreF (f : Rf) (x : ByteArray) : Rf := ⟨f.n, f.l, f.w ++ x, f.s⟩
def rappC (d : Rk) (s x : ByteArray) : Int := if nameB s = false then 1 else if d.off = true then 50 else if 1048576 < x.size + (entR d s).sz then 52 else if rstepB d = false then 50 else 0
def rappL (d : Rk) (s x : ByteArray) : List Rf := if isAt d.L s = true then d.L.set (placeL d.L s) (moreF (entR d s) x) else d.L.take (placeL d.L s) ++ [moreF (entR d s) x] ++ d.L.drop (placeL d.L s)
def rappD (d : Rk) (s x : ByteArray) : Rk := if nameB s = false then d else if d.off = true then d else if 1048576 < x.size + (entR d s).sz then d else if rstepB d = false then rstepD d else { rstepD d with L := rappL d s x }
theorem nameB_80 {s : ByteArray} (h : nameB s = true) : s.size ≤ 80 := by
  unfold nameB at h
  simp only [Bool.and_eq_true, decide_eq_true_eq] at h
  exact h.2
theorem insert_end {w2 w4 : World} {b k : Nat} {v v4 : Value} {D : Rk} {L M : List Rf} {s x : ByteArray} (h2 : RAt w2 b v D) (hDL : D.L = L) (hk : k ≤ L.length) (hl : L.length < 1000000) (h80 : s.size ≤ 80) (hx : x.size ≤ 1048576)
    (g4 : w2.grownBy w4 none) (o4 : OwnK Rf.cells 4 66 w4 v4 M) (hM : M = L.take k ++ [⟨s, ⟨#[]⟩, ⟨#[]⟩, false⟩] ++ L.drop k) (n4 : NewBlk w2 v4) :
    ∃ q c N, v4 = .slice (some ⟨q, 0, none⟩) N c ∧ N ≤ c ∧ c ≤ maxLen ∧ k < N ∧ N ≤ 1000000 ∧ b < w4.heap.size ∧ w4.cell? ⟨b, 0, none⟩ = some v ∧ w4.frozen? ⟨b, 0, none⟩ = false ∧
      (w4.setCell ⟨b, 0, none⟩ v4).cell? ⟨b, 0, none⟩ = some v4 ∧ (w4.setCell ⟨b, 0, none⟩ v4).cell? ⟨q, k * 4 + 2, none⟩ = some (.string ⟨#[]⟩) ∧ (w4.setCell ⟨b, 0, none⟩ v4).frozen? ⟨q, k * 4 + 2, none⟩ = false ∧
      REnd b v { D with L := L.take k ++ [⟨s, ⟨#[]⟩, x, false⟩] ++ L.drop k } w2 ((w4.setCell ⟨b, 0, none⟩ v4).setCell ⟨q, k * 4 + 2, none⟩ (.string x)) := by
  subst hDL
  have hlk : (D.L.take k).length = k := by rw [List.length_take]; omega
  have hml : M.length = D.L.length + 1 := by rw [hM, List.length_append, List.length_append, hlk, List.length_drop, List.length_singleton]; omega
  have hMk : M[k]? = some ⟨s, ⟨#[]⟩, ⟨#[]⟩, false⟩ := by
    rw [hM, List.append_assoc, List.getElem?_append_right (by omega), hlk, Nat.sub_self]; rfl
  have hset : M.set k ⟨s, ⟨#[]⟩, x, false⟩ = D.L.take k ++ [⟨s, ⟨#[]⟩, x, false⟩] ++ D.L.drop k := by
    rw [hM, List.append_assoc, List.append_assoc, List.set_append_right _ _ (by omega), hlk, Nat.sub_self]; rfl
  have hin : ∀ f ∈ M, f ∈ D.L ∨ f = ⟨s, ⟨#[]⟩, ⟨#[]⟩, false⟩ := by
    intro f hf
    rw [hM] at hf
    rcases List.mem_append.1 hf with y | y
    · rcases List.mem_append.1 y with z | z
      · exact .inl (List.mem_of_mem_take z)
      · exact .inr (List.mem_singleton.1 z)
    · exact .inl (List.mem_of_mem_drop y)
  obtain ⟨v5, h5, c5, k5⟩ := h2.store (d' := { D with L := M }) g4 (fun g' hg' => .inr (n4 g' hg')) (OwnX.of o4) rfl rfl rfl (by show M.length ≤ _; omega)
    (fun f hf => by rcases hin f hf with y | y; exact h2.sz f y; rw [y]; exact Nat.zero_le _) (fun f hf => by rcases hin f hf with y | y; exact h2.nm f y; rw [y]; exact h80)
  have b4 := h2.blk.keep g4
  have h50 := h5.c0
  have e50 : (w4.setCell ⟨b, 0, none⟩ v4).cell? ⟨b, 0, none⟩ = some v4 := (b4.set_ 0 v4).cell 0 (by simp)
  have : v5 = v4 := by rw [e50] at h50; injection h50 with h50; exact h50.symm
  subst this
  obtain ⟨q, c, hv, hc1, hc2⟩ := h5.blkOf (k := k) (by show k < M.length; omega)
  subst hv
  have hlt : k < M.length := by omega
  have hMg : M[k] = ⟨s, ⟨#[]⟩, ⟨#[]⟩, false⟩ := by
    have := List.getElem?_eq_getElem hlt
    rw [hMk] at this; injection this with this; exact this.symm
  obtain ⟨_, _, r2, _⟩ := h5.cells (k := k) ⟨s, ⟨#[]⟩, ⟨#[]⟩, false⟩ rfl hlt hMk
  have h6 := h5.set1 k hlt ⟨s, ⟨#[]⟩, x, false⟩ 2 (by omega) (.string x) (by show _ = (M[k]).cells.set 2 _; rw [hMg]; rfl) (by show 0 + x.size ≤ _; omega) (by show _ = (M[k]).n; rw [hMg])
  refine ⟨q, c, M.length, rfl, hc1, hc2, hlt, by omega, b4.lt, b4.cell 0 (by simp), b4.frozen 0, e50, r2, h5.own.frozen _, ?_⟩
  have hE : REnd b v { D with L := M } w2 (w4.setCell ⟨b, 0, none⟩ (.slice (some ⟨q, 0, none⟩) M.length c)) := ⟨_, h5, c5, k5⟩
  refine hE.more fun v1 hv1 => ?_
  have : v1 = .slice (some ⟨q, 0, none⟩) M.length c := by
    have e1 := hv1.c0
    rw [e50] at e1
    injection e1 with e1; exact e1.symm
  subst this
  have hD : setL { D with L := M } k ⟨s, ⟨#[]⟩, x, false⟩ = { D with L := D.L.take k ++ [⟨s, ⟨#[]⟩, x, false⟩] ++ D.L.drop k } := by
    show ({ D with L := M.set k _ } : Rk) = _
    rw [hset]
  rw [hD] at h6
  exact REnd.of_row h6 (grow_set _ ⟨q, k * 4 + 2, none⟩ _)
set_option maxRecDepth 100000 in
set_option maxHeartbeats 4000000 in
theorem refAppend_any (b : Nat) (v : Value) (d : Rk) (s x : ByteArray) (w : World) (h : RAt w b v d) (hs : s.size ≤ maxLen) (hx : x.size ≤ maxLen) (hst : d.cnt < 1000000) (hl1 : d.L.length < 1000000) :
    Calls Try.prog 31 #[.pointer (some ⟨b, 0, none⟩), .string s, .string x] w fun e w' => e = .returned (.int .i64 (rappC d s x)) ∧ REnd b v (rappD d s x) w w' := by
  obtain ⟨ii, hi, hz0, hz1, hz2⟩ := info_parts info_rf
  have H := Lib.hid h
  have HS := Lib.hid hs
  have HST := Lib.hid hst
  have HL1 := Lib.hid hl1
  have c2 := h.c2
  have hxI : (x.size : Int) ≤ 9223372036854775807 := by unfold maxLen at hx; omega
  clear h hs hst hx
  cases hn : nameB s
  · have HC : Hid (rappC d s x = 1 ∧ rappD d s x = d) := ⟨by unfold rappC; rw [if_pos hn], by unfold rappD; rw [if_pos hn]⟩
    have HN := Lib.hid hn
    clear hn
    go_enter Try.func31, Try.ntmps31
    go_wp2_with fail
    refine (Named_any s _ HS.out).mono ?_
    rintro e w1 ⟨rfl, rfl⟩
    rw [HN.out]
    go_wp2
    go_ret
    exact ⟨by rw [HC.out.1]; rfl, by rw [HC.out.2]; exact REnd.same H.out (grow_refl _ _)⟩
  have HN := Lib.hid hn
  have HNF : Hid (¬ nameB s = false) := by intro x; rw [hn] at x; cases x
  have HN80 := Lib.hid (nameB_80 hn)
  clear hn
  cases ho : d.off
  rotate_left
  · rw [ho] at c2
    have HC : Hid (rappC d s x = 50 ∧ rappD d s x = d) := ⟨by unfold rappC; rw [if_neg HNF.out, if_pos ho], by unfold rappD; rw [if_neg HNF.out, if_pos ho]⟩
    clear ho
    go_enter Try.func31, Try.ntmps31
    go_wp2_with fail
    refine (Named_any s _ HS.out).mono ?_
    rintro e w1 ⟨rfl, rfl⟩
    rw [HN.out]
    go_wp2
    go_ret
    exact ⟨by rw [HC.out.1]; rfl, by rw [HC.out.2]; exact REnd.same H.out (grow_refl _ _)⟩
  rw [ho] at c2
  have HOF : Hid (¬ d.off = true) := by intro x; rw [ho] at x; cases x
  clear ho
  have hll := H.out.len
  have hli : (d.L.length : Int) ≤ 1000000 := by omega
  obtain ⟨k, hk⟩ : ∃ k, k = placeL d.L s := ⟨_, rfl⟩
  have hkl : k ≤ d.L.length := by rw [hk]; exact place_le _ _
  have HK := Lib.hid hk
  have i0 : (0 : Int) ≤ k := by omega
  clear hk
  cases ha : isAt d.L s
  rotate_left
  · -- the file is there
    obtain ⟨f, hf, hfn, hlt⟩ := isAt_yes ha
    rw [← HK.out] at hf hlt
    have HA := Lib.hid ha
    have HF := Lib.hid hf
    have HEN : Hid (entR d s = f) := by show _ = _; unfold entR; rw [if_pos ha, ← HK.out, List.getD, hf]; rfl
    have hsz := H.out.sz f (List.mem_of_getElem? hf)
    have HFZ := Lib.hid hsz
    unfold Rf.sz at hsz
    have z1 : (f.l.size : Int) ≤ 1048576 := by omega
    have z2 : (f.w.size : Int) ≤ 1048576 := by omega
    have z3 : (0 : Int) ≤ f.l.size := by omega
    have z4 : (0 : Int) ≤ f.w.size := by omega
    have z5 : (0 : Int) ≤ x.size := by omega
    obtain ⟨g, c, rfl, hc1, hc2⟩ := H.out.blkOf hlt
    have hcm : (c : Int) ≤ 9223372036854775807 := by unfold maxLen at hc2; omega
    have i1 : (k : Int) < d.L.length := by omega
    have w1' : IntKind.i64.wrap (1048576 - (f.l.size : Int)) = 1048576 - (f.l.size : Int) := by rw [IntKind.wrap_i64]; omega
    have w2' : IntKind.i64.wrap (1048576 - (f.l.size : Int) - (f.w.size : Int)) = 1048576 - (f.l.size : Int) - (f.w.size : Int) := by rw [IntKind.wrap_i64]; omega
    clear ha hf
    by_cases hbig : 1048576 < x.size + f.sz
    · have HC : Hid (rappC d s x = 52 ∧ rappD d s x = d) := ⟨by unfold rappC; rw [if_neg HNF.out, if_neg HOF.out, HEN.out, if_pos hbig], by unfold rappD; rw [if_neg HNF.out, if_neg HOF.out, HEN.out, if_pos hbig]⟩
      have d1 : decide ((1048576 : Int) - (f.l.size : Int) - (f.w.size : Int) < (x.size : Int)) = true := decide_eq_true (by unfold Rf.sz at hbig; omega)
      clear hbig
      go_enter Try.func31, Try.ntmps31
      go_wp2_with fail
      refine (Named_any s _ HS.out).mono ?_
      rintro e w1 ⟨rfl, rfl⟩
      rw [HN.out]
      go_wp2_with fail
      refine (At_any b _ d s _ H.out).mono ?_
      rintro e w1 ⟨rfl, g1⟩
      rw [HA.out, ← HK.out]
      have H1 := H.out.keep g1
      obtain ⟨r0, r1, r2, r3⟩ := H1.cells f rfl hlt HF.out
      have c0 := H1.c0
      have HH1 := Lib.hid H1
      have G1 := Lib.hid g1
      clear H1 g1 r0 r3
      go_wp2
      go_quiet (fail)
      go_wp2
      go_ret
      exact ⟨by rw [HC.out.1]; rfl, by rw [HC.out.2]; exact REnd.same H.out (grow_drawnN _ G1.out)⟩
    have HNB := Lib.hid hbig
    have d1 : decide ((1048576 : Int) - (f.l.size : Int) - (f.w.size : Int) < (x.size : Int)) = false := decide_eq_false (by unfold Rf.sz at hbig; omega)
    have d2 : decide ((1048576 : Int) < (x.size : Int)) = false := decide_eq_false (by unfold Rf.sz at hbig; omega)
    clear hbig
    cases hp : rstepB d
    · have HC : Hid (rappC d s x = 50 ∧ rappD d s x = rstepD d) := ⟨by unfold rappC; rw [if_neg HNF.out, if_neg HOF.out, HEN.out, if_neg HNB.out, if_pos hp], by unfold rappD; rw [if_neg HNF.out, if_neg HOF.out, HEN.out, if_neg HNB.out, if_pos hp]⟩
      have HP := Lib.hid hp
      clear hp
      go_enter Try.func31, Try.ntmps31
      go_wp2_with fail
      refine (Named_any s _ HS.out).mono ?_
      rintro e w1 ⟨rfl, rfl⟩
      rw [HN.out]
      go_wp2_with fail
      refine (At_any b _ d s _ H.out).mono ?_
      rintro e w1 ⟨rfl, g1⟩
      rw [HA.out, ← HK.out]
      have H1 := H.out.keep g1
      obtain ⟨r0, r1, r2, r3⟩ := H1.cells f rfl hlt HF.out
      have c0 := H1.c0
      have HH1 := Lib.hid H1
      have G1 := Lib.hid g1
      clear H1 g1 r0 r3
      go_wp2
      go_quiet (fail)
      go_wp2_with fail
      refine (rstep_any b _ d _ (HH1.out.drewN _) HST.out).mono ?_
      rintro e w2 ⟨rfl, h2, g2⟩
      rw [HP.out]
      go_wp2
      go_ret
      exact ⟨by rw [HC.out.1]; rfl, by rw [HC.out.2]; exact REnd.front (grow_drawnN _ G1.out) (REnd.of_b h2 g2)⟩
    have HP := Lib.hid hp
    have HC : Hid (rappC d s x = 0 ∧ rappD d s x = setL (rstepD d) k (moreF f x)) := by
      have hpf : ¬ rstepB d = false := by rw [hp]; simp
      refine ⟨by unfold rappC; rw [if_neg HNF.out, if_neg HOF.out, HEN.out, if_neg HNB.out, if_neg hpf], ?_⟩
      unfold rappD; rw [if_neg HNF.out, if_neg HOF.out, HEN.out, if_neg HNB.out, if_neg hpf]
      unfold rappL setL; rw [if_pos HA.out, HEN.out, ← HK.out, rstepD_L]
    clear hp
    go_enter Try.func31, Try.ntmps31
    go_wp2_with fail
    refine (Named_any s _ HS.out).mono ?_
    rintro e w1 ⟨rfl, rfl⟩
    rw [HN.out]
    go_wp2_with fail
    refine (At_any b _ d s _ H.out).mono ?_
    rintro e w1 ⟨rfl, g1⟩
    rw [HA.out, ← HK.out]
    have H1 := H.out.keep g1
    obtain ⟨r0, r1, r2, r3⟩ := H1.cells f rfl hlt HF.out
    have c0 := H1.c0
    have HH1 := Lib.hid H1
    have G1 := Lib.hid g1
    clear H1 g1 r0 r3
    go_wp2
    go_quiet (fail)
    go_wp2_with fail
    refine (rstep_any b _ d _ (HH1.out.drewN _) HST.out).mono ?_
    rintro e w2 ⟨rfl, h2, g2⟩
    rw [HP.out]
    have hDL : (rstepD d).L = d.L := rstepD_L d
    have hlt2 : k < (rstepD d).L.length := by rw [hDL]; exact hlt
    have hf2 : (rstepD d).L[k]? = some f := by rw [hDL]; exact HF.out
    have hfk : (rstepD d).L[k] = f := by
      have := List.getElem?_eq_getElem hlt2
      rw [hf2] at this; injection this with this; exact this.symm
    obtain ⟨s0, s1, s2, s3⟩ := h2.cells f (by rw [hDL]) hlt hf2
    have d0 := h2.c0
    have e2 := h2.own.frozen (k * 4 + 2)
    have hb1 : ¬ 9223372036854775807 < f.w.size + x.size := by have := HNB.out; unfold Rf.sz at this; omega
    have q1 := h2.set1 k hlt2 (moreF f x) 2 (by omega) (.string (f.w ++ x)) (by rw [hfk]; rfl) (by have := HNB.out; unfold Rf.sz at this ⊢; unfold moreF; dsimp only; rw [ByteArray.size_append]; omega) (by rw [hfk]; rfl)
    have HE := Lib.hid (REnd.front (grow_drawnN _ G1.out) ((REnd.of_b h2 g2).more (d2 := setL (rstepD d) k (moreF f x)) (w' := w2.setCell ⟨g, k * 4 + 2, none⟩ (.string (f.w ++ x))) fun v1 hv1 => by
      have : v1 = .slice (some ⟨g, 0, none⟩) d.L.length c := by
        have e1 := hv1.c0
        rw [h2.c0] at e1
        injection e1 with e1; exact e1.symm
      subst this
      exact REnd.of_row q1 (grow_set _ ⟨g, k * 4 + 2, none⟩ _)))
    clear q1 h2 g2 hfk hf2 hlt2 hDL s0 s1 s3 r1 r2 c0
    go_wp2
    go_ret
    exact ⟨by rw [HC.out.1]; rfl, by rw [HC.out.2]; exact HE.out⟩
  -- the file isn't there
  have HA := Lib.hid ha
  have HEN : Hid (entR d s = ⟨s, ⟨#[]⟩, ⟨#[]⟩, false⟩) := by show _ = _; unfold entR; rw [if_neg (by rw [ha]; simp)]
  have hne : Rf.sz ⟨s, ⟨#[]⟩, ⟨#[]⟩, false⟩ = 0 := rfl
  clear ha
  by_cases hbig : 1048576 < x.size
  · have HC : Hid (rappC d s x = 52 ∧ rappD d s x = d) := ⟨by unfold rappC; rw [if_neg HNF.out, if_neg HOF.out, HEN.out, hne, if_pos (by omega)], by unfold rappD; rw [if_neg HNF.out, if_neg HOF.out, HEN.out, hne, if_pos (by omega)]⟩
    have d1 : decide ((1048576 : Int) < (x.size : Int)) = true := decide_eq_true (by omega)
    clear hbig
    go_enter Try.func31, Try.ntmps31
    go_wp2_with fail
    refine (Named_any s _ HS.out).mono ?_
    rintro e w1 ⟨rfl, rfl⟩
    rw [HN.out]
    go_wp2_with fail
    refine (At_any b _ d s _ H.out).mono ?_
    rintro e w1 ⟨rfl, g1⟩
    rw [HA.out, ← HK.out]
    have G1 := Lib.hid g1
    clear g1
    go_wp2
    go_quiet (fail)
    go_wp2
    go_ret
    exact ⟨by rw [HC.out.1]; rfl, by rw [HC.out.2]; exact REnd.same H.out (grow_drawnN _ G1.out)⟩
  have HNB : Hid (¬ 1048576 < x.size + Rf.sz ⟨s, ⟨#[]⟩, ⟨#[]⟩, false⟩) := by show ¬ _; rw [hne]; omega
  have d1 : decide ((1048576 : Int) < (x.size : Int)) = false := decide_eq_false (by omega)
  clear hbig
  cases hp : rstepB d
  · have HC : Hid (rappC d s x = 50 ∧ rappD d s x = rstepD d) := ⟨by unfold rappC; rw [if_neg HNF.out, if_neg HOF.out, HEN.out, if_neg HNB.out, if_pos hp], by unfold rappD; rw [if_neg HNF.out, if_neg HOF.out, HEN.out, if_neg HNB.out, if_pos hp]⟩
    have HP := Lib.hid hp
    clear hp
    go_enter Try.func31, Try.ntmps31
    go_wp2_with fail
    refine (Named_any s _ HS.out).mono ?_
    rintro e w1 ⟨rfl, rfl⟩
    rw [HN.out]
    go_wp2_with fail
    refine (At_any b _ d s _ H.out).mono ?_
    rintro e w1 ⟨rfl, g1⟩
    rw [HA.out, ← HK.out]
    have HH1 := Lib.hid (H.out.keep g1)
    have G1 := Lib.hid g1
    clear g1
    go_wp2
    go_quiet (fail)
    go_wp2_with fail
    refine (rstep_any b _ d _ (HH1.out.drewN _) HST.out).mono ?_
    rintro e w2 ⟨rfl, h2, g2⟩
    rw [HP.out]
    go_wp2
    go_ret
    exact ⟨by rw [HC.out.1]; rfl, by rw [HC.out.2]; exact REnd.front (grow_drawnN _ G1.out) (REnd.of_b h2 g2)⟩
  have HP := Lib.hid hp
  have HC : Hid (rappC d s x = 0 ∧ rappD d s x = { rstepD d with L := d.L.take k ++ [⟨s, ⟨#[]⟩, x, false⟩] ++ d.L.drop k }) := by
    have hpf : ¬ rstepB d = false := by rw [hp]; simp
    have hem : moreF ⟨s, ⟨#[]⟩, ⟨#[]⟩, false⟩ x = ⟨s, ⟨#[]⟩, x, false⟩ := by
      show Rf.mk s ⟨#[]⟩ (⟨#[]⟩ ++ x) false = _
      have : (⟨#[]⟩ : ByteArray) ++ x = x := by apply ByteArray.ext; simp
      rw [this]
    refine ⟨by unfold rappC; rw [if_neg HNF.out, if_neg HOF.out, HEN.out, if_neg HNB.out, if_neg hpf], ?_⟩
    unfold rappD; rw [if_neg HNF.out, if_neg HOF.out, HEN.out, if_neg HNB.out, if_neg hpf]
    unfold rappL; rw [if_neg (by rw [HA.out]; simp), HEN.out, ← HK.out, hem]
  clear hp
  have HXS : Hid (x.size ≤ 1048576) := by have := HNB.out; rw [hne] at this; show _ ≤ _; omega
  rcases H.out.own.form with ⟨rfl, hnil⟩ | ⟨g, c, rfl, hac, had⟩
  · obtain rfl : k = 0 := by rw [hnil] at hkl; exact Nat.le_zero.1 hkl
    go_enter Try.func31, Try.ntmps31
    go_wp2_with fail
    refine (Named_any s _ HS.out).mono ?_
    rintro e w1 ⟨rfl, rfl⟩
    rw [HN.out]
    go_wp2_with fail
    refine (At_any b _ d s _ H.out).mono ?_
    rintro e w1 ⟨rfl, g1⟩
    rw [HA.out, ← HK.out]
    have HH1 := Lib.hid (H.out.keep g1)
    have G1 := Lib.hid g1
    clear g1
    go_wp2
    go_quiet (fail)
    go_wp2_with fail
    refine (rstep_any b _ d _ (HH1.out.drewN _) HST.out).mono ?_
    rintro e w2 ⟨rfl, h2, g2⟩
    rw [HP.out]
    have hDL : (rstepD d).L = d.L := rstepD_L d
    have d0 := h2.c0
    have hb2 := h2.lt
    have H2 := Lib.hid h2
    have G2 := Lib.hid g2
    clear h2 g2
    have oE := OwnK.empty (enc := Rf.cells) (k := 4) 66 w2
    have rN : ReadK Rf.cells 4 (w2.alloc (.cells #[] 66)) (.slice none 0 0) [] := ⟨none, 0, rfl, .inl rfl⟩
    go_wp2_with (at_builtin; refine wpList_append_k rfl _ _ 58 rfl 66 ii _ 56 Rf.len Rf.ones (by omega) Try.underlying58 hi hz0 hz1 hz2 rfl _ rfl oE _ rfl rN (by show (0 : Nat) + 0 ≤ 2^63-1; omega) (by show (0 + 0) * 56 ≤ _; omega) ?_)
    intro v4 w4 o4 g4 m4
    have G4 := Lib.hid (grow_newblk (World.grownBy_alloc w2 (.cells #[] 66) none) (newblk_at w2 w2.heap.size 0 0 (Nat.le_refl _) 0) g4)
    have d4 := (H2.out.keep G4.out).c0
    have b4 := (H2.out.keep G4.out).lt
    obtain ⟨a4, k4, hv4⟩ := o4.read.len
    subst hv4
    have O4 := Lib.hid o4
    clear o4 g4 m4 oE rN
    have rF := ReadK.one Rf.len w4 ⟨s, ⟨#[]⟩, ⟨#[]⟩, false⟩ 66 1 #[.string s, .string ⟨#[]⟩, .string ⟨#[]⟩, .bool false] rfl
    go_wp2_with (at_builtin; refine wpList_append_x (L := []) rfl _ _ 58 rfl 66 ii _ 56 Rf.len Rf.ones (by omega) Try.underlying58 hi hz0 hz1 hz2 rfl _ rfl (.inl rfl) (OwnX.nil _ _) _ rfl rF (by show (0 : Nat) + 1 ≤ 2^63-1; omega) (by show (0 + 1) * 56 ≤ _; omega) ?_)
    intro v5 w5 g5 o5 n5
    have G5 := Lib.hid (grow_none (World.grownBy_alloc w4 _ none) g5)
    have N5 : Hid (NewBlk w2 v5) := fun j hj => by have := n5 j hj; have := G4.out.size; simp at *; omega
    have d5 := (H2.out.keep (grow_none G4.out G5.out)).c0
    have r5 := O4.out.read.kept G5.out
    clear g5 n5 rF
    go_wp2_with (at_builtin; refine wpList_append_k rfl _ _ 58 rfl 66 ii _ 56 Rf.len Rf.ones (by omega) Try.underlying58 hi hz0 hz1 hz2 rfl _ rfl o5 _ rfl r5 (by show (1 : Nat) + 0 ≤ 2^63-1; omega) (by show (1 + 0) * 56 ≤ _; omega) ?_)
    intro v6 w6 o6 g6 m6
    have G6 := Lib.hid (grow_newblk (grow_none G4.out G5.out) N5.out g6)
    have N6 := N5.out.moved (grow_none G4.out G5.out).size m6
    obtain ⟨q, c6, N, hv6, p1, p2, p3, p4, p5, p6, p7, p8, p9, p10, p11⟩ := insert_end (x := x) H2.out hDL hkl HL1.out HN80.out HXS.out G6.out o6 (by rw [hnil]; simp) N6
    have HE := Lib.hid (REnd.front (grow_drawnN nq G1.out) ((REnd.of_b H2.out G2.out).more (d2 := { rstepD d with L := d.L.take 0 ++ [⟨s, ⟨#[]⟩, x, false⟩] ++ d.L.drop 0 }) (w' := (w6.setCell ⟨b, 0, none⟩ v6).setCell ⟨q, 0 * 4 + 2, none⟩ (.string x)) fun v1 hv1 => by
      have : v1 = .slice none 0 0 := by
        have e1 := hv1.c0
        rw [H2.out.c0] at e1
        injection e1 with e1; exact e1.symm
      subst this
      exact p11))
    subst hv6
    have u1 : (0 : Int) < N := by omega
    have u2 : (N : Int) ≤ 1000000 := by omega
    have p9' : (w6.setCell ⟨b, 0, none⟩ (.slice (some ⟨q, 0, none⟩) N c6)).cell? ⟨q, 2, none⟩ = some (.string ⟨#[]⟩) := p9
    have p10' : (w6.setCell ⟨b, 0, none⟩ (.slice (some ⟨q, 0, none⟩) N c6)).frozen? ⟨q, 2, none⟩ = false := p10
    have hex : (⟨#[]⟩ : ByteArray) ++ x = x := by apply ByteArray.ext; simp
    have hb1 : ¬ 9223372036854775807 < (0 : Nat) + x.size := by omega
    clear p11 o5 o6 g6 m6 N6 r5 d0 d4 d5 p9 p10
    go_wp2
    go_ret
    exact ⟨by rw [HC.out.1]; rfl, by rw [HC.out.2]; exact HE.out⟩
  have hcm : (c : Int) ≤ 9223372036854775807 := by unfold maxLen at had; omega
  have hci : (d.L.length : Int) ≤ c := by omega
  have q1 : k ≤ c := by omega
  have i1 : (k : Int) ≤ d.L.length := by omega
  have i2 : (k : Int) ≤ c := by omega
  obtain ⟨ad, hadr, hor⟩ : ∃ ad : Addr, (if c = k then some (⟨g, 0, none⟩ : Addr) else some ⟨g, k * 4, none⟩) = some ad ∧ (k < d.L.length → ad = ⟨g, k * 4, none⟩) := by
    by_cases hc : c = k
    · exact ⟨_, if_pos hc, fun x => by omega⟩
    · exact ⟨_, if_neg hc, fun _ => rfl⟩
  have hlk : (d.L.take k).length = k := by rw [List.length_take]; omega
  go_enter Try.func31, Try.ntmps31
  go_wp2_with fail
  refine (Named_any s _ HS.out).mono ?_
  rintro e w1 ⟨rfl, rfl⟩
  rw [HN.out]
  go_wp2_with fail
  refine (At_any b _ d s _ H.out).mono ?_
  rintro e w1 ⟨rfl, g1⟩
  rw [HA.out, ← HK.out]
  have HH1 := Lib.hid (H.out.keep g1)
  have G1 := Lib.hid g1
  clear g1
  go_wp2
  go_quiet (fail)
  go_wp2_with fail
  refine (rstep_any b _ d _ (HH1.out.drewN _) HST.out).mono ?_
  rintro e w2 ⟨rfl, h2, g2⟩
  rw [HP.out]
  have hDL : (rstepD d).L = d.L := rstepD_L d
  have d0 := h2.c0
  have hb2 := h2.lt
  have hown := h2.own
  have hrd := h2.read
  rw [hDL] at hown hrd
  have HO2 := Lib.hid hown
  have H2 := Lib.hid h2
  have G2 := Lib.hid g2
  have oE := OwnK.empty (enc := Rf.cells) (k := 4) 66 w2
  have rN : ReadK Rf.cells 4 (w2.alloc (.cells #[] 66)) (.slice (some ad) (d.L.length - k) (c - k)) (d.L.drop k) :=
    (ReadK.drop Rf.len hrd k hkl _ _ _ rfl (fun hlt' b off e => by injection e with e; injection e with e1 e2; rw [hor hlt', e1, ← e2, Nat.zero_add])).kept (World.grownBy_alloc _ _ _)
  have hdl : (d.L.drop k).length = d.L.length - k := List.length_drop
  clear h2 g2 hown hrd
  go_wp2_with (at_builtin; refine wpList_append_k rfl _ _ 58 rfl 66 ii _ 56 Rf.len Rf.ones (by omega) Try.underlying58 hi hz0 hz1 hz2 rfl _ rfl oE _ rfl rN (by rw [hdl]; show (0 : Nat) + _ ≤ 2^63-1; omega) (by rw [hdl]; show (0 + _) * 56 ≤ _; omega) ?_)
  intro v4 w4 o4 g4 m4
  have G4 := Lib.hid (grow_newblk (World.grownBy_alloc w2 (.cells #[] 66) none) (newblk_at w2 w2.heap.size 0 0 (Nat.le_refl _) 0) g4)
  have d4 := (H2.out.keep G4.out).c0
  have b4 := (H2.out.keep G4.out).lt
  obtain ⟨R, hR⟩ : ∃ R, R = d.L.drop k := ⟨_, rfl⟩
  rw [← hR] at o4
  obtain ⟨a4, k4, hv4⟩ := o4.read.len
  have hRl : R.length = d.L.length - k := by rw [hR, hdl]
  obtain ⟨N4, hN4⟩ : ∃ N4, N4 = R.length := ⟨_, rfl⟩
  rw [← hN4] at hv4
  subst hv4
  have O4 := Lib.hid o4
  have HR := Lib.hid hR
  have HRL := Lib.hid hRl
  have oX : OwnX Rf.cells 4 66 (w4.alloc (.cells #[.string s, .string ⟨#[]⟩, .string ⟨#[]⟩, .bool false] 66)) (.slice (some ⟨g, 0, none⟩) k k) (d.L.take k) := (HO2.out.cut Rf.len k hkl).keep (grow_none G4.out (World.grownBy_alloc _ _ _))
  clear o4 g4 m4 oE rN hR hRl hN4
  have rF := ReadK.one Rf.len w4 ⟨s, ⟨#[]⟩, ⟨#[]⟩, false⟩ 66 1 #[.string s, .string ⟨#[]⟩, .string ⟨#[]⟩, .bool false] rfl
  go_wp2_with (at_builtin; refine wpList_append_x (L := d.L.take k) rfl _ _ 58 rfl 66 ii _ 56 Rf.len Rf.ones (by omega) Try.underlying58 hi hz0 hz1 hz2 rfl (.slice (some ⟨g, 0, none⟩) k k) rfl (.inr ⟨g, by rw [hlk]⟩) oX _ rfl rF (by rw [hlk]; show _ + 1 ≤ 2^63-1; omega) (by rw [hlk]; show (_ + 1) * 56 ≤ _; omega) ?_)
  intro v5 w5 g5 o5 n5
  have G5 := Lib.hid (grow_none (World.grownBy_alloc w4 _ none) g5)
  have N5 : Hid (NewBlk w2 v5) := fun j hj => by have := n5 j hj; have := G4.out.size; simp at *; omega
  have d5 := (H2.out.keep (grow_none G4.out G5.out)).c0
  have r5 := O4.out.read.kept G5.out
  clear g5 n5 rF oX
  have bnd1 : (d.L.take k ++ [(⟨s, ⟨#[]⟩, ⟨#[]⟩, false⟩ : Rf)]).length + R.length ≤ maxLen := by rw [HRL.out, List.length_append, hlk, List.length_singleton]; show _ ≤ 2^63-1; omega
  have bnd2 : ((d.L.take k ++ [(⟨s, ⟨#[]⟩, ⟨#[]⟩, false⟩ : Rf)]).length + R.length) * 56 ≤ 140737488355328 := by rw [HRL.out, List.length_append, hlk, List.length_singleton]; omega
  go_wp2_with (at_builtin; refine wpList_append_k rfl _ _ 58 rfl 66 ii _ 56 Rf.len Rf.ones (by omega) Try.underlying58 hi hz0 hz1 hz2 rfl _ rfl o5 _ rfl r5 bnd1 bnd2 ?_)
  intro v6 w6 o6 g6 m6
  have G6 := Lib.hid (grow_newblk (grow_none G4.out G5.out) N5.out g6)
  have N6 := N5.out.moved (grow_none G4.out G5.out).size m6
  obtain ⟨q, c6, N, hv6, p1, p2, p3, p4, p5, p6, p7, p8, p9, p10, p11⟩ := insert_end (x := x) H2.out hDL hkl HL1.out HN80.out HXS.out G6.out o6 (by rw [HR.out]; simp) N6
  have HE := Lib.hid (REnd.front (grow_drawnN nq G1.out) ((REnd.of_b H2.out G2.out).more (d2 := { rstepD d with L := d.L.take k ++ [⟨s, ⟨#[]⟩, x, false⟩] ++ d.L.drop k }) (w' := (w6.setCell ⟨b, 0, none⟩ v6).setCell ⟨q, k * 4 + 2, none⟩ (.string x)) fun v1 hv1 => by
    have : v1 = .slice (some ⟨g, 0, none⟩) d.L.length c := by
      have e1 := hv1.c0
      rw [H2.out.c0] at e1
      injection e1 with e1; exact e1.symm
    subst this
    exact p11))
  subst hv6
  have u1 : (k : Int) < N := by omega
  have u2 : (N : Int) ≤ 1000000 := by omega
  have hex : (⟨#[]⟩ : ByteArray) ++ x = x := by apply ByteArray.ext; simp
  have hb1 : ¬ 9223372036854775807 < (0 : Nat) + x.size := by omega
  clear p11 o5 o6 g6 m6 N6 r5 d0 d4 d5
  go_wp2
  go_ret
  exact ⟨by rw [HC.out.1]; rfl, by rw [HC.out.2]; exact HE.out⟩
end Go.Proofs.Ytgfmmchmkfboaaa
