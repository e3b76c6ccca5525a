/- The law SheetParses: its walk. -/
import Derived.Test.YtgcdfoadegojcaaDoorSeBuilds
namespace Go.Proofs.YtgcdfoadegojcaaDoor
open Go.RowKit
set_option linter.unusedVariables false
theorem same_selfP (n : Int) (l : List ByteArray) : sameS n l n l = true := by unfold sameS; rw [decide_eq_true rfl, decide_eq_true rfl]; rfl
theorem room_tot (l : List ByteArray) : roomB l = (allB l).length + 10 * l.length := by
  induction l with
  | nil => rfl
  | cons s l ih =>
    have e1 : roomB (s :: l) = s.size + 10 + roomB l := by simp only [roomB, List.map_cons, List.sum_cons]
    have e2 : (allB (s :: l)).length = s.size + (allB l).length := by
      unfold allB
      rw [List.flatMap_cons, List.length_append]
      rw [Array.length_toList]; rfl
    rw [e1, e2, ih, List.length_cons]; omega
theorem pack_rel {w0 : World} (n : Int) (l : List ByteArray) (u : Value) (w : World) (h : VO n l u w) (hn : -9223372036854775808 ≤ n ∧ n ≤ 9223372036854775807) (hl : roomB l ≤ 1000000000000) (hI : w0.grownBy w none) :
    Calls Tryd.prog 26 #[u] w fun e w' => ∃ x, e = .returned x ∧ x = .string ⟨(packB n l).toArray⟩ ∧ w0.grownBy w' none ∧ w.grownBy w' none := by
  obtain ⟨p, c, rfl, r⟩ := h
  exact rel_of (Pack_any n p c l w r hn hl) hI
theorem prL_len (s : ByteArray) : (prL s).length ≤ s.size := by
  unfold prL
  split
  · unfold psL; rw [txT_len]; exact psC_le s
  · exact Nat.zero_le _
set_option maxRecDepth 100000 in
set_option maxHeartbeats 4000000 in
theorem law_SheetParses (n : Int) (p : Option Addr) (c : Nat) (l : List ByteArray) (s : ByteArray) {w : World} (hS : ShOk w n p c l) (hs : s.size ≤ maxLen) (hm : Tb w) :
    Calls Tryd.prog 6 #[.agg #[.int .i64 n, .slice p l.length c], .string s] w fun e w' => e = .returned (.bool true) ∧ Below w.heap.size w w' := by
  have gA := World.grownBy_alloc w (.cells #[.int .i64 n, .slice p l.length c] 30) none
  have sA := ShB.new w n (.slice p l.length c)
  obtain ⟨b, hb⟩ : ∃ b, b = w.heap.size := ⟨_, rfl⟩
  obtain ⟨wA, hwA⟩ : ∃ wA, wA = w.alloc (.cells #[.int .i64 n, .slice p l.length c] 30) := ⟨_, rfl⟩
  have rA := hS.tx.row.kept gA
  have mA := hm.kept gA
  rw [← hb, ← hwA] at sA
  rw [← hwA] at gA rA mA
  have HB := Lib.hid hb
  have HWA := Lib.hid hwA
  have HN := Lib.hid hS.num
  have HS := Lib.hid hS.tx.each
  have HLM : Hid (l.length + ([] : List ByteArray).length ≤ 1000000000000000) := by have h1 := hS.tx.len; show _ ≤ _; simp; omega
  clear hS hm hb hwA hs
  go_enter Tryd.func6, Tryd.ntmps6
  go_wp2_with fail
  rw [← HB.out, ← HWA.out]
  refine (awake08_any _ mA).mono ?_
  rintro e w2 ⟨rfl, g2⟩
  have s2 := sA.keep g2
  have r2 := rA.kept g2
  have m2 := mA.kept g2
  have G2 := grow_none gA g2
  clear sA rA mA gA g2
  have x0 := s2.c0
  have x1 := s2.c1
  go_wp2_with fail
  refine (great08_any n p none c 0 l [] w2 r2 ⟨none, 0, rfl, .inl rfl⟩ HS.out (by simp) HLM.out).mono ?_
  rintro e w3 ⟨t, rfl, htot, g3⟩
  have s3 := s2.keep g3
  have r3 := r2.kept g3
  have m3 := m2.kept g3
  have G3 := grow_none G2 g3
  clear s2 r2 m2 G2 g3 x0 x1
  by_cases hbig : t = true ∨ 3000 < s.size
  · clear htot
    rcases hbig with rfl | h3
    · go_wp2_with fail
      refine (awake08_any _ m3).mono ?_
      rintro e w4 ⟨rfl, g4⟩
      have G4 := grow_none G3 g4
      clear g4
      go_wp2
      go_ret
      exact ⟨rfl, below_of_none G4⟩
    · have h3i : decide ((3000 : Int) < s.size) = true := decide_eq_true (by omega)
      clear h3
      cases t with
      | true =>
        go_wp2_with fail
        refine (awake08_any _ m3).mono ?_
        rintro e w4 ⟨rfl, g4⟩
        have G4 := grow_none G3 g4
        clear g4
        go_wp2
        go_ret
        exact ⟨rfl, below_of_none G4⟩
      | false =>
        go_wp2_with fail
        refine (awake08_any _ m3).mono ?_
        rintro e w4 ⟨rfl, g4⟩
        have G4 := grow_none G3 g4
        clear g4
        go_wp2
        go_ret
        exact ⟨rfl, below_of_none G4⟩
  · have htf : t = false := by
      cases t with
      | false => rfl
      | true => exact absurd (.inl rfl) hbig
    subst htf
    have h3i : decide ((3000 : Int) < s.size) = false := decide_eq_false (by omega)
    obtain ⟨t1, _, t3, _⟩ := tot_parts (htot rfl)
    have HT1 := Lib.hid t1
    have hroom := room_tot l
    have HRM : Hid (roomB l ≤ 1000000000000) := by show _ ≤ _; omega
    have hs6 : s.size ≤ 1000000 := by omega
    have hpl := prL_len s
    have HPL : Hid ((prL s).length ≤ maxLen) := by show _ ≤ 2^63-1; omega
    have HPA := Lib.hid (fun w => Parse_any s w hs6)
    have HRP := Lib.hid (fun w => refParse_any s w hs6)
    clear htot t1 t3 hroom hs6 hpl hbig
    go_wp2_with fail
    refine (HPA.out w3).mono ?_
    rintro e w4 ⟨p4, c4, rfl, r4, g4, _⟩
    have HSF := Lib.hid (same_selfP (prN s) (prL s))
    obtain ⟨N, hN⟩ : ∃ N, N = prN s := ⟨_, rfl⟩
    obtain ⟨L, hL⟩ : ∃ L, L = prL s := ⟨_, rfl⟩
    obtain ⟨O, hO⟩ : ∃ O, O = psOk s := ⟨_, rfl⟩
    rw [← hN, ← hL] at HSF
    rw [← hL] at HPL r4
    rw [← hN, ← hL, ← hO]
    obtain ⟨E, hE⟩ : ∃ E : Int, E = if O = true then 0 else 3 := ⟨_, rfl⟩
    rw [← hE]
    have HE := Lib.hid hE
    clear hE
    have g5 := World.grownBy_alloc w4 (.cells #[.int .i64 N, .slice p4 L.length c4] 30) none
    have s5 := ShB.new w4 N (.slice p4 L.length c4)
    have r5 := r4.kept g5
    have S5 := (s3.keep g4).keep g5
    have R5 := (r3.kept g4).kept g5
    have G5 := grow_none (grow_none G3 g4) g5
    clear s3 r3 m3 G3 r4 g4 g5
    have HNN := Lib.hid hN
    have HLL := Lib.hid hL
    have HOO := Lib.hid hO
    clear hN hL hO
    go_wp2_with fail
    refine (HRP.out _).mono ?_
    rintro e w6 ⟨p6, c6, rfl, r6, g6, _⟩
    rw [← HLL.out] at r6
    rw [← HNN.out, ← HLL.out, ← HOO.out]
    have g7 := World.grownBy_alloc w6 (.cells #[.int .i64 N, .slice p6 L.length c6] 30) none
    have s7 := ShB.new w6 N (.slice p6 L.length c6)
    have r7 := r6.kept g7
    have q7 := (r5.kept g6).kept g7
    have t7 := (s5.keep g6).keep g7
    have S7 := (S5.keep g6).keep g7
    have R7 := (R5.kept g6).kept g7
    have G7 := grow_none (grow_none G5 g6) g7
    obtain ⟨b4, hb4⟩ : ∃ b4, b4 = w4.heap.size := ⟨_, rfl⟩
    obtain ⟨b6, hb6⟩ : ∃ b6, b6 = w6.heap.size := ⟨_, rfl⟩
    obtain ⟨w7, hw7⟩ : ∃ w7, w7 = w6.alloc (.cells #[.int .i64 N, .slice p6 L.length c6] 30) := ⟨_, rfl⟩
    rw [← hw7] at s7 r7 q7 t7 S7 R7 G7
    rw [← hb6] at s7
    rw [← hb4] at t7
    have HB4 := Lib.hid hb4
    have HB6 := Lib.hid hb6
    have HW7 := Lib.hid hw7
    have HS7 := Lib.hid s7
    have HR7 := Lib.hid r7
    have HQ7 := Lib.hid q7
    have HT7 := Lib.hid t7
    have HS := Lib.hid S7
    have HR := Lib.hid R7
    have HG := Lib.hid G7
    clear s5 r5 S5 R5 G5 r6 g6 g7 s7 r7 q7 t7 S7 R7 G7 hb4 hb6 hw7
    obtain ⟨X, hX⟩ : ∃ X : ByteArray, X = ⟨(packB n l).toArray⟩ := ⟨_, rfl⟩
    have HX := Lib.hid hX
    clear hX
    cases O with
    | false =>
      obtain rfl : E = 3 := HE.out
      go_wp2_with fail
      rw [← HB4.out, ← HB6.out, ← HW7.out]
      refine wp_region_rel (fun W => w7.grownBy W none) (fun W W' => W.grownBy W' none) (by kernel_rfl) (by kernel_rfl) (fun W => grow_refl W none) (grow_drawn (grow_refl _ _)) ?_
      refine wpRel_det ?_; apply Exists.intro; refine ⟨fun W hI => ?_, ?_⟩
      focus (have x0 := (HS.out.keep hI).c0; have x1 := (HS.out.keep hI).c1; go_simp; first | exact ⟨rfl, grow_refl _ _⟩ | exact ⟨rfl, hI, grow_refl _ _⟩)
      refine wpRel_step (VO n l) (fun v w w' g h => VO.kept h g) (fun W hI => ?_) ?_
      · go_simp
        exact own_rel n p c l W (HR.out.kept hI) (by have := HT1.out; omega) hI
      refine wpRel_det ?_; apply Exists.intro; refine ⟨fun W hI => ?_, ?_⟩
      · go_simp
        intro vv hv
        have := pack_rel n l vv W hv HN.out HRM.out hI
        rw [← HX.out] at this
        exact this
      refine wpRel_det ?_; apply Exists.intro; refine ⟨fun W hI => ?_, ?_⟩
      focus (have x0 := (HS.out.keep hI).c0; have x1 := (HS.out.keep hI).c1; go_simp; first | exact ⟨rfl, grow_refl _ _⟩ | exact ⟨rfl, hI, grow_refl _ _⟩)
      refine wpRel_det ?_; apply Exists.intro; refine ⟨fun W hI => ?_, ?_⟩
      · go_simp
        have := rel_of (refPack_any n p c l W (HR.out.kept hI) HN.out HRM.out) hI
        rw [← HX.out] at this
        exact this
      iterate 4 (refine wpRel_det ?_; apply Exists.intro; refine ⟨fun W hI => ?_, ?_⟩; focus (have x0 := (HT7.out.keep hI).c0; have x1 := (HT7.out.keep hI).c1; have y0 := (HS7.out.keep hI).c0; have y1 := (HS7.out.keep hI).c1; go_simp; first | exact ⟨rfl, grow_refl _ _⟩ | exact ⟨rfl, hI, grow_refl _ _⟩))
      refine wpRel_det ?_; apply Exists.intro; refine ⟨fun W hI => ?_, ?_⟩
      · go_simp
        have := rel_of (Same08_any N N p4 p6 c4 c6 L L W (HQ7.out.kept hI) (HR7.out.kept hI) HPL.out HPL.out) hI
        rw [HSF.out] at this
        exact this
      iterate 15 (refine wpRel_det ?_; apply Exists.intro; refine ⟨fun W hI => ?_, ?_⟩; focus (go_simp; first | exact ⟨rfl, grow_refl _ _⟩ | exact ⟨rfl, hI, grow_refl _ _⟩ | exact rfl))
      refine wpRel_nil ?_
      intro w8 hI8
      have G8 := Lib.hid (grow_none HG.out hI8)
      clear hI8
      go_simp
      intro vz hvz
      clear hvz
      go_wp2
      go_ret
      exact ⟨rfl, below_of_none G8.out⟩
    | true =>
      obtain rfl : E = 0 := HE.out
      go_wp2_with fail
      rw [← HB4.out, ← HB6.out, ← HW7.out]
      refine wp_region_rel (fun W => w7.grownBy W none) (fun W W' => W.grownBy W' none) (by kernel_rfl) (by kernel_rfl) (fun W => grow_refl W none) (grow_drawn (grow_refl _ _)) ?_
      refine wpRel_det ?_; apply Exists.intro; refine ⟨fun W hI => ?_, ?_⟩
      focus (have x0 := (HS.out.keep hI).c0; have x1 := (HS.out.keep hI).c1; go_simp; first | exact ⟨rfl, grow_refl _ _⟩ | exact ⟨rfl, hI, grow_refl _ _⟩)
      refine wpRel_step (VO n l) (fun v w w' g h => VO.kept h g) (fun W hI => ?_) ?_
      · go_simp
        exact own_rel n p c l W (HR.out.kept hI) (by have := HT1.out; omega) hI
      refine wpRel_det ?_; apply Exists.intro; refine ⟨fun W hI => ?_, ?_⟩
      · go_simp
        intro vv hv
        have := pack_rel n l vv W hv HN.out HRM.out hI
        rw [← HX.out] at this
        exact this
      refine wpRel_det ?_; apply Exists.intro; refine ⟨fun W hI => ?_, ?_⟩
      focus (have x0 := (HS.out.keep hI).c0; have x1 := (HS.out.keep hI).c1; go_simp; first | exact ⟨rfl, grow_refl _ _⟩ | exact ⟨rfl, hI, grow_refl _ _⟩)
      refine wpRel_det ?_; apply Exists.intro; refine ⟨fun W hI => ?_, ?_⟩
      · go_simp
        have := rel_of (refPack_any n p c l W (HR.out.kept hI) HN.out HRM.out) hI
        rw [← HX.out] at this
        exact this
      iterate 4 (refine wpRel_det ?_; apply Exists.intro; refine ⟨fun W hI => ?_, ?_⟩; focus (have x0 := (HT7.out.keep hI).c0; have x1 := (HT7.out.keep hI).c1; have y0 := (HS7.out.keep hI).c0; have y1 := (HS7.out.keep hI).c1; go_simp; first | exact ⟨rfl, grow_refl _ _⟩ | exact ⟨rfl, hI, grow_refl _ _⟩))
      refine wpRel_det ?_; apply Exists.intro; refine ⟨fun W hI => ?_, ?_⟩
      · go_simp
        have := rel_of (Same08_any N N p4 p6 c4 c6 L L W (HQ7.out.kept hI) (HR7.out.kept hI) HPL.out HPL.out) hI
        rw [HSF.out] at this
        exact this
      iterate 15 (refine wpRel_det ?_; apply Exists.intro; refine ⟨fun W hI => ?_, ?_⟩; focus (go_simp; first | exact ⟨rfl, grow_refl _ _⟩ | exact ⟨rfl, hI, grow_refl _ _⟩ | exact rfl))
      refine wpRel_nil ?_
      intro w8 hI8
      have G8 := Lib.hid (grow_none HG.out hI8)
      clear hI8
      go_simp
      intro vz hvz
      clear hvz
      go_wp2
      go_ret
      exact ⟨rfl, below_of_none G8.out⟩
end Go.Proofs.YtgcdfoadegojcaaDoor
