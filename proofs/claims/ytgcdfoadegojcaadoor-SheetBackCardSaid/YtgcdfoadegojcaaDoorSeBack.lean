/- The law SheetBack: its walk. -/
import Derived.Test.YtgcdfoadegojcaaDoorShtB
namespace Go.Proofs.YtgcdfoadegojcaaDoor
open Go.RowKit
set_option linter.unusedVariables false
theorem Cut_rel {w0 : World} (s : ByteArray) (w : World) (hs : s.size ≤ 1000000) (hI : w0.grownBy w none) :
    Calls Tryd.prog 28 #[.string s] w fun e w' => ∃ u, e = .returned u ∧ VC ((chunks s.data.toList).map Value.string) u w' ∧ w0.grownBy w' none ∧ w.grownBy w' none :=
  (Cut_any s w hs).mono fun e w' ⟨v, he, hr, hn, g, hc⟩ => ⟨v, he, ⟨hc, hr⟩, grow_none hI g, g⟩
set_option maxRecDepth 100000 in
set_option maxHeartbeats 4000000 in
theorem law_SheetBack (s : ByteArray) (hs : s.size ≤ maxLen) {w : World} (hm : Tb w) :
    Calls Tryd.prog 7 #[.string s] w fun e w' => e = .returned (.bool true) ∧ Below w.heap.size w w' := by
  clear hs
  by_cases h2 : 512 < s.size
  · have e1 : decide ((512 : Int) < s.size) = true := decide_eq_true (by omega)
    clear h2
    go_enter Tryd.func7, Tryd.ntmps7
    go_wp2_with fail
    refine (awake08_any _ hm).mono ?_
    rintro e w2 ⟨rfl, g2⟩
    have m2 := hm.kept g2
    go_wp2_with fail
    refine (awake08_any _ m2).mono ?_
    rintro e w3 ⟨rfl, g3⟩
    have G3 := grow_none g2 g3
    clear g2 g3
    go_wp2
    go_ret
    exact ⟨rfl, below_of_none G3⟩
  · have e1 : decide ((512 : Int) < s.size) = false := decide_eq_false (by omega)
    have hs5 : s.size ≤ 512 := by omega
    have hok := made_ok hs5
    have hbv := made_good hs5
    have hMk := fun w => Make_any s w hs5
    have hCu := fun (w0 w : World) (hI : w0.grownBy w none) => Cut_rel s w (by omega) hI
    have hcl : (chunks s.data.toList).length ≤ 1000000 := by rw [chunks_len', data_len]; unfold cntN; omega
    have hcb : (allB (chunks s.data.toList)).length ≤ 100000000 := by rw [chunks_all, data_len]; omega
    obtain ⟨M, hM⟩ : ∃ M, M = chunks s.data.toList := ⟨_, rfl⟩
    obtain ⟨L, hL⟩ : ∃ L, L = hashes M := ⟨_, rfl⟩
    have hN : -9223372036854775808 ≤ (s.size : Int) ∧ (s.size : Int) ≤ 9223372036854775807 := by omega
    rw [← hM] at hcl hcb
    simp only [← hM, ← hL] at hok hbv hMk hCu
    obtain ⟨q1, q2, q3⟩ := parse_pack hok
    obtain ⟨z1, z2⟩ := pack_size hok
    have hlm : L.length ≤ maxLen := Nat.le_trans (ok_len hok) (by decide)
    have hPk := fun (p : Option Addr) (c : Nat) (w : World) (hr : RowAt w (.slice p L.length c) (L.map Value.string)) => Pack_any s.size p c L w hr hN z2
    have hck : ckN s.size L = 0 := by unfold ckN; rw [hok]; rfl
    have hPa := fun w => Parse_any (bs (packB s.size L)) w z1
    unfold Parsed at hPa
    simp only [q1, q2, q3, if_true] at hPa
    have hPk : ∀ (p : Option Addr) (c : Nat) (w : World) (hr : RowAt w (.slice p L.length c) (L.map Value.string)), Calls Tryd.prog 26 #[.agg #[.int .i64 s.size, .slice p L.length c]] w fun e w' => e = .returned (.string (bs (packB s.size L))) ∧ w.grownBy w' none := hPk
    obtain ⟨X, hX⟩ : ∃ X, X = bs (packB s.size L) := ⟨_, rfl⟩
    simp only [← hX] at hPa hPk
    have HM := Lib.hid hMk
    have HC := Lib.hid hCu
    have HPK := Lib.hid hPk
    have HPA := Lib.hid hPa
    have HBV := Lib.hid hbv
    have HLM := Lib.hid hlm
    have HCL := Lib.hid hcl
    have HCB := Lib.hid hcb
    have HN := Lib.hid hN
    have HCK := Lib.hid hck
    clear hMk hCu hPk hPa hbv hok hlm hcl hcb hN hM hL hX q1 q2 q3 z1 z2 h2 hs5 hck
    go_enter Tryd.func7, Tryd.ntmps7
    go_wp2_with fail
    refine (awake08_any _ hm).mono ?_
    rintro e w2 ⟨rfl, g2⟩
    have m2 := hm.kept g2
    go_wp2_with fail
    refine (HM.out w2 m2).mono ?_
    rintro e w3 ⟨p, c, rfl, r3, g3, _⟩
    have g4 := World.grownBy_alloc w3 (.cells #[.int .i64 s.size, .slice p L.length c] 30) none
    have s4 := ShB.new w3 s.size (.slice p L.length c)
    have r4 := r3.kept g4
    have G4 := grow_none (grow_none g2 g3) g4
    have x0 := s4.c0
    have x1 := s4.c1
    clear g2 g3 g4 r3 m2
    go_wp2_with fail
    refine (HPK.out p c _ r4).mono ?_
    rintro e w5 ⟨rfl, g5⟩
    go_wp2_with fail
    refine (HPA.out w5).mono ?_
    rintro e w6 ⟨p6, c6, rfl, r6, g6, _⟩
    have g7 := World.grownBy_alloc w6 (.cells #[.int .i64 s.size, .slice p6 L.length c6] 30) none
    have s7 := ShB.new w6 s.size (.slice p6 L.length c6)
    have S8 := Lib.hid ((s4.keep g5).keep (grow_none g6 g7))
    have R8 := Lib.hid ((r4.kept g5).kept (grow_none g6 g7))
    have r7 := r6.kept g7
    have G7 := grow_none (grow_none (grow_none G4 g5) g6) g7
    obtain ⟨b, hb⟩ : ∃ b, b = w6.heap.size := ⟨_, rfl⟩
    obtain ⟨w7, hw7⟩ : ∃ w7, w7 = w6.alloc (.cells #[.int .i64 s.size, .slice p6 L.length c6] 30) := ⟨_, rfl⟩
    rw [← hb, ← hw7] at s7
    rw [← hw7] at S8 R8 r7 G7
    have S7 := Lib.hid s7
    have R7 := Lib.hid r7
    have GG := Lib.hid G7
    have M7 := Lib.hid (hm.kept G7)
    have HB := Lib.hid hb
    have HW := Lib.hid hw7
    clear s4 r4 G4 g5 r6 g6 g7 s7 r7 G7 hb hw7 x0 x1
    go_wp2_with fail
    rw [← HB.out, ← HW.out]
    refine wp_region_rel (fun W => w7.grownBy W none) (fun W W' => W.grownBy W' none) (by kernel_rfl) (by kernel_rfl) (fun W => grow_refl W none) (grow_drawn (grow_refl _ _)) ?_
    iterate 2 (refine wpRel_det ?_; apply Exists.intro; refine ⟨fun W hI => ?_, ?_⟩; focus (have x0 := (S7.out.keep hI).c0; have x1 := (S7.out.keep hI).c1; go_simp; first | exact ⟨rfl, grow_refl _ _⟩ | exact ⟨rfl, hI, grow_refl _ _⟩))
    refine wpRel_step (VC (M.map Value.string)) (fun v w w' g h => VC.kept h g) (fun W hI => ?_) ?_
    · go_simp
      exact HC.out w7 W hI
    refine wpRel_det ?_; apply Exists.intro; refine ⟨fun W hI => ?_, ?_⟩
    · go_simp
      intro vv hv
      have := rel_of (Build_any s.size p6 c6 L vv M W (R7.out.kept hI) hv HN.out HLM.out HCL.out HCB.out (M7.out.kept hI)) hI
      rw [HBV.out] at this
      exact this
    iterate 5 (refine wpRel_det ?_; apply Exists.intro; refine ⟨fun W hI => ?_, ?_⟩; focus (go_simp; first | exact ⟨rfl, grow_refl _ _⟩ | exact ⟨rfl, hI, grow_refl _ _⟩))
    refine wpRel_nil ?_
    intro w8 hI8
    have S9 := Lib.hid (S8.out.keep hI8)
    have R9 := Lib.hid (R8.out.kept hI8)
    have G9 := Lib.hid (grow_none GG.out hI8)
    clear hI8
    have x0 := S9.out.c0
    have x1 := S9.out.c1
    go_simp
    intro vz hvz
    clear hvz
    go_wp2_with fail
    refine (Check_any s.size p c L w8 R9.out HN.out HLM.out).mono ?_
    rintro e w9 ⟨rfl, g9⟩
    rw [HCK.out]
    have GZ := Lib.hid (grow_none G9.out g9)
    clear x0 x1 g9
    go_wp2
    go_ret
    exact ⟨rfl, below_of_none GZ.out⟩
end Go.Proofs.YtgcdfoadegojcaaDoor
