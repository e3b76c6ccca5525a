/- The document's drive: Sync, Remove. -/
import Derived.Test.YtgfmmchmkfboaaaRdB
import Derived.Deep.RegionWith
namespace Go.Proofs.Ytgfmmchmkfboaaa
open Go.RowKit
set_option linter.unusedVariables false
theorem RAt.cells {w : World} {b g n c k : Nat} {d : Rk} (h : RAt w b (.slice (some ⟨g, 0, none⟩) n c) d) (f : Rf) (hn : n = d.L.length) (hk : k < n) (hf : d.L[k]? = some f) :
    w.cell? ⟨g, k * 4, none⟩ = some (.string f.n) ∧ w.cell? ⟨g, k * 4 + 1, none⟩ = some (.string f.l) ∧ w.cell? ⟨g, k * 4 + 2, none⟩ = some (.string f.w) ∧ w.cell? ⟨g, k * 4 + 3, none⟩ = some (.bool f.s) :=
  ⟨h.own.at_ Rf.len k hk f hf 0 (by omega), h.own.at_ Rf.len k hk f hf 1 (by omega), h.own.at_ Rf.len k hk f hf 2 (by omega), h.own.at_ Rf.len k hk f hf 3 (by omega)⟩
open Go.Sort in
theorem setCell_swap (w : World) (g i j : Nat) (u v : Value) (h : i ≠ j) : (w.setCell ⟨g, i, none⟩ u).setCell ⟨g, j, none⟩ v = (w.setCell ⟨g, j, none⟩ v).setCell ⟨g, i, none⟩ u := by
  rw [setCell_eq, setCell_eq, mapBlock_mapBlock, setCell_eq, setCell_eq, mapBlock_mapBlock]
  congr 1
  funext c
  exact Array.setIfInBounds_comm _ _ h
theorem setL_get {d : Rk} {k : Nat} (hk : k < d.L.length) (f : Rf) : (setL d k f).L[k]? = some f := by
  show (d.L.set k f)[k]? = _
  rw [List.getElem?_set_self hk]
theorem setL_twice (d : Rk) (k : Nat) (f f2 : Rf) : setL (setL d k f) k f2 = setL d k f2 := by
  unfold setL
  dsimp only
  rw [List.set_set]
set_option maxRecDepth 100000 in
set_option maxHeartbeats 2000000 in
theorem refSync_any (b : Nat) (v : Value) (d : Rk) (s : ByteArray) (w : World) (h : RAt w b v d) (hs : s.size ≤ maxLen) (hst : d.cnt < 1000000) :
    Calls Try.prog 32 #[.pointer (some ⟨b, 0, none⟩), .string s] w fun e w' => e = .returned (.int .i64 (rstepOfC d s)) ∧ REnd b v (rsyncD d s) w w' := by
  have H := Lib.hid h
  have HS := Lib.hid hs
  have HST := Lib.hid hst
  have c2 := h.c2
  clear h hs hst
  cases hn : nameB s
  · have HC : Hid (rstepOfC d s = 1 ∧ rsyncD d s = d) := by
      have e1 : rstepOfC d s = 1 := by unfold rstepOfC; rw [if_pos hn]
      refine ⟨e1, ?_⟩
      unfold rsyncD; rw [e1, if_neg (by decide)]; unfold rstepOfD; rw [if_pos hn]
    have HN := Lib.hid hn
    clear hn
    go_enter Try.func32, Try.ntmps32
    go_wp2_with fail
    refine (Named_any s _ HS.out).mono ?_
    rintro e w1 ⟨rfl, rfl⟩
    rw [HN.out]
    go_wp2
    go_ret
    exact ⟨by rw [HC.out.1]; rfl, by rw [HC.out.2]; exact REnd.same H.out (grow_refl _ _)⟩
  have HN := Lib.hid hn
  have HNF : Hid (¬ nameB s = false) := by intro x; rw [hn] at x; cases x
  clear hn
  cases ho : d.off
  rotate_left
  · rw [ho] at c2
    have HC : Hid (rstepOfC d s = 50 ∧ rsyncD d s = d) := by
      have e1 : rstepOfC d s = 50 := by unfold rstepOfC; rw [if_neg HNF.out, if_pos ho]
      refine ⟨e1, ?_⟩
      unfold rsyncD; rw [e1, if_neg (by decide)]; unfold rstepOfD; rw [if_neg HNF.out, if_pos ho]
    clear ho
    go_enter Try.func32, Try.ntmps32
    go_wp2_with fail
    refine (Named_any s _ HS.out).mono ?_
    rintro e w1 ⟨rfl, rfl⟩
    rw [HN.out]
    go_wp2
    go_ret
    exact ⟨by rw [HC.out.1]; rfl, by rw [HC.out.2]; exact REnd.same H.out (grow_refl _ _)⟩
  rw [ho] at c2
  have HOF : Hid (¬ d.off = true) := by intro x; rw [ho] at x; cases x
  clear ho
  cases ha : isAt d.L s
  · have HC : Hid (rstepOfC d s = 51 ∧ rsyncD d s = d) := by
      have e1 : rstepOfC d s = 51 := by unfold rstepOfC; rw [if_neg HNF.out, if_neg HOF.out, if_pos ha]
      refine ⟨e1, ?_⟩
      unfold rsyncD; rw [e1, if_neg (by decide)]; unfold rstepOfD; rw [if_neg HNF.out, if_neg HOF.out, if_pos ha]
    have HA := Lib.hid ha
    clear ha
    go_enter Try.func32, Try.ntmps32
    go_wp2_with fail
    refine (Named_any s _ HS.out).mono ?_
    rintro e w1 ⟨rfl, rfl⟩
    rw [HN.out]
    go_wp2_with fail
    refine (At_any b v d s _ H.out).mono ?_
    rintro e w1 ⟨rfl, g1⟩
    rw [HA.out]
    go_wp2
    go_ret
    exact ⟨by rw [HC.out.1]; rfl, by rw [HC.out.2]; exact REnd.same H.out g1⟩
  have HA := Lib.hid ha
  have HAF : Hid (¬ isAt d.L s = false) := by intro x; rw [ha] at x; cases x
  obtain ⟨f, hf, _, hlt⟩ := isAt_yes ha
  obtain ⟨k, hk⟩ : ∃ k, k = placeL d.L s := ⟨_, rfl⟩
  rw [← hk] at hf hlt
  have HK := Lib.hid hk
  have HF := Lib.hid hf
  clear ha hk hf
  cases hp : rstepB d
  · have HC : Hid (rstepOfC d s = 50 ∧ rsyncD d s = rstepD d) := by
      have e1 : rstepOfC d s = 50 := by unfold rstepOfC; rw [if_neg HNF.out, if_neg HOF.out, if_neg HAF.out, if_pos hp]
      refine ⟨e1, ?_⟩
      unfold rsyncD; rw [e1, if_neg (by decide)]; unfold rstepOfD; rw [if_neg HNF.out, if_neg HOF.out, if_neg HAF.out]
    have HP := Lib.hid hp
    clear hp
    go_enter Try.func32, Try.ntmps32
    go_wp2_with fail
    refine (Named_any s _ HS.out).mono ?_
    rintro e w1 ⟨rfl, rfl⟩
    rw [HN.out]
    go_wp2_with fail
    refine (At_any b v d s _ H.out).mono ?_
    rintro e w1 ⟨rfl, g1⟩
    rw [HA.out]
    have H1 := Lib.hid (H.out.keep g1)
    have G1 := Lib.hid g1
    clear g1
    go_wp2_with fail
    refine (rstep_any b v d w1 H1.out HST.out).mono ?_
    rintro e w2 ⟨rfl, h2, g2⟩
    rw [HP.out]
    go_wp2
    go_ret
    exact ⟨by rw [HC.out.1]; rfl, by rw [HC.out.2]; exact REnd.front G1.out (REnd.of_b h2 g2)⟩
  have HP := Lib.hid hp
  have HC : Hid (rstepOfC d s = 0 ∧ rsyncD d s = setL (rstepD d) k (rsyncF f)) := by
    have e1 : rstepOfC d s = 0 := by unfold rstepOfC; rw [if_neg HNF.out, if_neg HOF.out, if_neg HAF.out, if_neg (by rw [hp]; simp)]
    refine ⟨e1, ?_⟩
    unfold rsyncD; rw [e1, if_pos rfl, ← HK.out, List.getD, HF.out]; rfl
  obtain ⟨g, c, rfl, hc1, hc2⟩ := H.out.blkOf hlt
  have hcm : (c : Int) ≤ 9223372036854775807 := by unfold maxLen at hc2; omega
  have hll := H.out.len
  have hli : (d.L.length : Int) ≤ 1000000 := by omega
  have i0 : (0 : Int) ≤ k := by omega
  have i1 : (k : Int) < d.L.length := by omega
  clear hp
  go_enter Try.func32, Try.ntmps32
  go_wp2_with fail
  refine (Named_any s _ HS.out).mono ?_
  rintro e w1 ⟨rfl, rfl⟩
  rw [HN.out]
  go_wp2_with fail
  refine (At_any b _ d s _ H.out).mono ?_
  rintro e w1 ⟨rfl, g1⟩
  rw [HA.out, ← HK.out]
  have H1 := Lib.hid (H.out.keep g1)
  have G1 := Lib.hid g1
  clear g1
  go_wp2_with fail
  refine (rstep_any b _ d w1 H1.out HST.out).mono ?_
  rintro e w2 ⟨rfl, h2, g2⟩
  rw [HP.out]
  obtain ⟨D, hD⟩ : ∃ D, D = rstepD d := ⟨_, rfl⟩
  have hDL : D.L = d.L := by rw [hD, rstepD_L]
  rw [← hD] at h2 HC
  have hlt2 : k < D.L.length := by rw [hDL]; exact hlt
  have hf2 : D.L[k]? = some f := by rw [hDL]; exact HF.out
  have hfk : D.L[k] = f := by
    have := List.getElem?_eq_getElem hlt2
    rw [hf2] at this; injection this with this; exact this.symm
  have hsz := h2.sz f (List.mem_of_getElem? hf2)
  unfold Rf.sz at hsz
  obtain ⟨r0, r1, r2, r3⟩ := h2.cells f (by rw [hDL]) hlt hf2
  have d0 := h2.c0
  have f1 := h2.own.frozen (k * 4 + 1)
  have f2 := h2.own.frozen (k * 4 + 2)
  have f3 := h2.own.frozen (k * 4 + 3)
  have q1 := h2.set1 k hlt2 ⟨f.n, f.l ++ f.w, f.w, f.s⟩ 1 (by omega) (.string (f.l ++ f.w)) (by rw [hfk]; rfl)
  have hb1 : ¬ 9223372036854775807 < f.l.size + f.w.size := by omega
  have hgb : ¬ g = b := fun e => h2.far (by rw [← e]; rfl)
  have HSQ : Hid (∀ w2', RAt w2' b (.slice (some ⟨g, 0, none⟩) d.L.length c) D → RAt (((w2'.setCell ⟨g, k * 4 + 1, none⟩ (.string (f.l ++ f.w))).setCell ⟨g, k * 4 + 2, none⟩ (.string ⟨#[]⟩)).setCell ⟨g, k * 4 + 3, none⟩ (.bool true)) b (.slice (some ⟨g, 0, none⟩) d.L.length c) (setL D k (rsyncF f))) := by
    intro w2' h2
    have hemp : (⟨#[]⟩ : ByteArray).size = 0 := rfl
    have hap : ∀ f : Rf, f = f := fun _ => rfl
    have s0 : RAt (w2'.setCell ⟨g, k * 4 + 2, none⟩ (.string ⟨#[]⟩)) b (.slice (some ⟨g, 0, none⟩) d.L.length c) (setL D k ⟨f.n, f.l, ⟨#[]⟩, f.s⟩) :=
      h2.set1 k hlt2 ⟨f.n, f.l, ⟨#[]⟩, f.s⟩ 2 (by omega) (.string ⟨#[]⟩) (by rw [hfk]; rfl) (by unfold Rf.sz; dsimp only; omega) (by rw [hfk])
    have s1 := s0.set1 k (by show k < (D.L.set k _).length; rw [List.length_set]; exact hlt2) ⟨f.n, f.l ++ f.w, ⟨#[]⟩, f.s⟩ 1 (by omega) (.string (f.l ++ f.w)) (by show _ = (((D.L.set k _)[k]'_).cells).set 1 _; rw [List.getElem_set_self]; rfl) (by unfold Rf.sz; dsimp only; rw [ByteArray.size_append]; omega) (by show _ = ((D.L.set k _)[k]'_).n; rw [List.getElem_set_self])
    rw [setL_twice] at s1
    have s2 := s1.set1 k (by show k < (D.L.set k _).length; rw [List.length_set]; exact hlt2) (rsyncF f) 3 (by omega) (.bool true) (by show _ = (((D.L.set k _)[k]'_).cells).set 3 _; rw [List.getElem_set_self]; rfl) (by unfold Rf.sz rsyncF; dsimp only; rw [ByteArray.size_append]; omega) (by show _ = ((D.L.set k _)[k]'_).n; rw [List.getElem_set_self]; rfl)
    rw [setL_twice] at s2
    have hcomm : (w2'.setCell ⟨g, k * 4 + 1, none⟩ (.string (f.l ++ f.w))).setCell ⟨g, k * 4 + 2, none⟩ (.string ⟨#[]⟩) = (w2'.setCell ⟨g, k * 4 + 2, none⟩ (.string ⟨#[]⟩)).setCell ⟨g, k * 4 + 1, none⟩ (.string (f.l ++ f.w)) := by
      exact setCell_swap _ _ _ _ _ _ (by omega)
    rw [hcomm]
    exact s2
  have HE : Hid (∀ w2' w3, RAt w2' b (.slice (some ⟨g, 0, none⟩) d.L.length c) D → w.grownBy w1 none → w1.grownBy w2' (some b) → w2'.grownBy w3 (some g) → RAt w3 b (.slice (some ⟨g, 0, none⟩) d.L.length c) (setL D k (rsyncF f)) → REnd b (.slice (some ⟨g, 0, none⟩) d.L.length c) (setL D k (rsyncF f)) w w3) := by
    intro w2' w3 h2 k1 k2 k3 k4
    exact REnd.front k1 ((REnd.of_b h2 k2).more fun v1 hv1 => by
      have : v1 = .slice (some ⟨g, 0, none⟩) d.L.length c := by
        have e1 := hv1.c0
        rw [h2.c0] at e1
        injection e1 with e1; exact e1.symm
      subst this
      exact REnd.of_row k4 k3)
  have HH2 := Lib.hid h2
  have G2 := Lib.hid g2
  clear q1 h2 g2 hsz hfk hf2 hlt2 hD hDL
  go_wp2
  go_region
  all_goals
    go_wp2
  all_goals
    go_ret
    exact ⟨by rw [HC.out.1]; rfl, by rw [HC.out.2]; exact HE.out _ _ HH2.out.drew G1.out (grow_drawn G2.out) (grow_same (grow_same (grow_set _ ⟨g, k * 4 + 1, none⟩ _) (grow_set _ ⟨g, k * 4 + 2, none⟩ _)) (grow_set _ ⟨g, k * 4 + 3, none⟩ _)) (HSQ.out _ HH2.out.drew)⟩
end Go.Proofs.Ytgfmmchmkfboaaa
