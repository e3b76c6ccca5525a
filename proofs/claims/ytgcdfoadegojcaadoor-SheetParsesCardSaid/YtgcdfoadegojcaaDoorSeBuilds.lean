/- The law SheetBuilds: its walk. -/
import Derived.Test.YtgcdfoadegojcaaDoorShtB
import Derived.Test.YtgcdfoadegojcaaDoorOpS
namespace Go.Proofs.YtgcdfoadegojcaaDoor
open Go.RowKit
set_option linter.unusedVariables false
/-- A sheet's value, its names in whatever memory. -/
def VO (n : Int) (l : List ByteArray) (u : Value) (W : World) : Prop := ∃ p c, u = .agg #[.int .i64 n, .slice p l.length c] ∧ RowAt W (.slice p l.length c) (l.map Value.string)
theorem VO.kept {n : Int} {l : List ByteArray} {u : Value} {w w' : World} (h : VO n l u w) (g : w.grownBy w' none) : VO n l u w' := by
  obtain ⟨p, c, e, r⟩ := h
  exact ⟨p, c, e, r.kept g⟩
theorem own_rel {w0 : World} (n : Int) (p : Option Addr) (c : Nat) (l : List ByteArray) (w : World) (hr : RowAt w (.slice p l.length c) (l.map Value.string)) (hl : l.length ≤ 1000000000) (hI : w0.grownBy w none) :
    Calls Tryd.prog 20 #[.agg #[.int .i64 n, .slice p l.length c]] w fun e w' => ∃ u, e = .returned u ∧ VO n l u w' ∧ w0.grownBy w' none ∧ w.grownBy w' none :=
  (own08_any n p c l w hr hl).mono fun e w' ⟨p', c', he, hr', g, _⟩ => ⟨_, he, ⟨p', c', rfl, hr'⟩, grow_none hI g, g⟩
theorem check_rel {w0 : World} (n : Int) (l : List ByteArray) (u : Value) (w : World) (h : VO n l u w) (hn : -9223372036854775808 ≤ n ∧ n ≤ 9223372036854775807) (hl : l.length ≤ maxLen) (hI : w0.grownBy w none) :
    Calls Tryd.prog 22 #[u] w fun e w' => ∃ x, e = .returned x ∧ x = .int .i64 (ckN n l) ∧ w0.grownBy w' none ∧ w.grownBy w' none := by
  obtain ⟨p, c, rfl, r⟩ := h
  exact rel_of (Check_any n p c l w r hn hl) hI
theorem tot_parts {l m : List ByteArray} (h : totG l m 2 ≤ 3000) : l.length ≤ 3000 ∧ m.length ≤ 3000 ∧ (allB l).length ≤ 3000 ∧ (allB m).length ≤ 3000 := by
  unfold totG at h
  simp only at h
  omega
set_option maxRecDepth 100000 in
set_option maxHeartbeats 4000000 in
theorem law_SheetBuilds (n : Int) (p : Option Addr) (c : Nat) (l : List ByteArray) (v : Value) (m : List ByteArray) {w : World} (hS : ShOk w n p c l) (hT : TxOk w v m) (hm : Tb w) :
    Calls Tryd.prog 5 #[.agg #[.int .i64 n, .slice p l.length c], v] w fun e w' => e = .returned (.bool true) ∧ Below w.heap.size w w' := by
  obtain ⟨i0, hi, hz0, hz1, hz2⟩ := info_parts Tryd.infoS_string
  obtain ⟨q, cq, rfl⟩ := row_form hT.row
  have gA := World.grownBy_alloc w (.cells #[.int .i64 n, .slice p l.length c] 30) none
  have sA := ShB.new w n (.slice p l.length c)
  obtain ⟨b, hb⟩ : ∃ b, b = w.heap.size := ⟨_, rfl⟩
  obtain ⟨wA, hwA⟩ : ∃ wA, wA = w.alloc (.cells #[.int .i64 n, .slice p l.length c] 30) := ⟨_, rfl⟩
  have rA := hS.tx.row.kept gA
  have qA := hT.row.kept gA
  have mA := hm.kept gA
  rw [← hb, ← hwA] at sA
  rw [← hwA] at gA rA qA mA
  have HB := Lib.hid hb
  have HWA := Lib.hid hwA
  have HN := Lib.hid hS.num
  have HS := Lib.hid hS.tx.each
  have HT := Lib.hid hT.each
  have HLM : Hid (l.length + m.length ≤ 1000000000000000) := by have h1 := hS.tx.len; have h2 := hT.len; show _ ≤ _; omega
  have HCQ := Lib.hid hT.cap
  clear hS hT hm hb hwA
  go_enter Tryd.func5, Tryd.ntmps5
  go_wp2_with fail
  rw [← HB.out, ← HWA.out]
  refine (awake08_any _ mA).mono ?_
  rintro e w2 ⟨rfl, g2⟩
  have s2 := sA.keep g2
  have r2 := rA.kept g2
  have q2 := qA.kept g2
  have m2 := mA.kept g2
  have G2 := grow_none gA g2
  clear sA rA qA mA gA g2
  have x0 := s2.c0
  have x1 := s2.c1
  go_wp2_with fail
  refine (great08_any n p q c cq l m w2 r2 q2 HS.out HT.out HLM.out).mono ?_
  rintro e w3 ⟨t, rfl, htot, g3⟩
  have s3 := s2.keep g3
  have r3 := r2.kept g3
  have q3 := q2.kept g3
  have m3 := m2.kept g3
  have G3 := grow_none G2 g3
  clear s2 r2 q2 m2 G2 g3 x0 x1
  cases t with
  | true =>
    clear htot
    go_wp2_with fail
    refine (awake08_any _ m3).mono ?_
    rintro e w4 ⟨rfl, g4⟩
    have G4 := grow_none G3 g4
    clear g4
    go_wp2
    go_ret
    exact ⟨rfl, below_of_none G4⟩
  | false =>
    obtain ⟨t1, t2, t3, t4⟩ := tot_parts (htot rfl)
    have HT1 := Lib.hid t1
    have HT2 := Lib.hid t2
    have HT4 := Lib.hid t4
    have x0 := s3.c0
    have x1 := s3.c1
    clear htot t1 t2 t3 t4
    go_wp2_with fail
    refine (own08_any n p c l w3 r3 (by have := HT1.out; omega)).mono ?_
    rintro e w4 ⟨p4, c4, rfl, r4, g4, _⟩
    have s4 := s3.keep g4
    have R4 := r3.kept g4
    have q4 := q3.kept g4
    have m4 := m3.kept g4
    have G4 := grow_none G3 g4
    have gE := World.grownBy_alloc w4 (.cells #[] 9) none
    have qE := q4.kept gE
    clear s3 r3 q3 m3 G3 g4 x0 x1
    go_wp2_with (at_builtin; refine wpList_append_row _ rfl (.tmp 20) (.tmp 21) 22 (by with_reducible rfl) 9 i0 (.string ⟨#[]⟩) 16 Tryd.underlying22 hi hz0 hz1 hz2 rfl _ _ _ rfl (own_empty _ _ _) _ (m.map Value.string) rfl qE (onesS m) (by rw [List.length_map]; have := HT2.out; show _ ≤ 2^63-1; omega) (by rw [List.length_map]; have := HT2.out; omega) ?_)
    intro v5 w5 o5 g5 mv5
    have X5 := grow_newblk gE (newblk_at w4 w4.heap.size 0 0 (Nat.le_refl _) 0) g5
    have s5 := s4.keep X5
    have r5 := r4.kept X5
    have R5 := R4.kept X5
    have q5 := q4.kept X5
    have m5 := m4.kept X5
    have G5 := grow_none G4 X5
    have v5r : VC (m.map Value.string) v5 w5 := ⟨own_capS o5, RowAt.of_own o5⟩
    clear s4 r4 R4 q4 m4 G4 gE qE o5 g5 mv5 X5
    go_wp2_with fail
    refine (Build_any n p4 c4 l v5 m w5 r5 v5r HN.out (by have := HT1.out; show _ ≤ 2^63-1; omega) (by have := HT2.out; omega) (by have := HT4.out; omega) m5).mono ?_
    rintro e w6 ⟨rfl, g6⟩
    have s6 := s5.keep g6
    have R6 := R5.kept g6
    have q6 := q5.kept g6
    have m6 := m5.kept g6
    have G6 := grow_none G5 g6
    clear s5 r5 R5 q5 m5 G5 v5r g6
    have x0 := s6.c0
    have x1 := s6.c1
    unfold buildV
    go_wp2_with fail
    refine (refBuild_any n p c l (.slice q m.length cq) m w6 R6 ⟨HCQ.out, q6⟩ HN.out (by have := HT1.out; show _ ≤ 2^63-1; omega) (by have := HT2.out; omega) (by have := HT4.out; omega) m6).mono ?_
    rintro e w7 ⟨rfl, g7⟩
    have S7 := Lib.hid (s6.keep g7)
    have R7 := Lib.hid (R6.kept g7)
    have G7 := Lib.hid (grow_none G6 g7)
    clear s6 R6 q6 m6 G6 g7 x0 x1
    unfold buildV
    obtain ⟨X, hX⟩ : ∃ X, X = buildB n l m := ⟨_, rfl⟩
    obtain ⟨Y, hY⟩ : ∃ Y, Y = buildE n l m := ⟨_, rfl⟩
    rw [← hX, ← hY]
    clear hX hY
    have HLL : Hid (l.length ≤ maxLen) := by have := HT1.out; show _ ≤ 2^63-1; omega
    cases hK : okS n l with
    | false =>
      have HCK : Hid (ckN n l = 3) := by show _ = _; unfold ckN; rw [hK]; rfl
      have HK := Lib.hid hK
      clear hK
      go_wp2
      refine wp_region_rel (fun W => w7.grownBy W none) (fun W W' => W.grownBy W' none) (by kernel_rfl) (by kernel_rfl) (fun W => grow_refl W none) (grow_drawn (grow_refl _ _)) ?_
      iterate 10 (refine wpRel_det ?_; apply Exists.intro; refine ⟨fun W hI => ?_, ?_⟩; focus (have x0 := (S7.out.keep hI).c0; have x1 := (S7.out.keep hI).c1; go_simp; first | exact ⟨rfl, grow_refl _ _⟩ | exact ⟨rfl, hI, grow_refl _ _⟩))
      refine wpRel_step (VO n l) (fun v w w' g h => VO.kept h g) (fun W hI => ?_) ?_
      · go_simp
        exact own_rel n p c l W (R7.out.kept hI) (by have := HT1.out; omega) hI
      refine wpRel_det ?_; apply Exists.intro; refine ⟨fun W hI => ?_, ?_⟩
      · go_simp
        intro vv hv
        have := check_rel n l vv W hv HN.out HLL.out hI
        rw [HCK.out] at this
        exact this
      iterate 2 (refine wpRel_det ?_; apply Exists.intro; refine ⟨fun W hI => ?_, ?_⟩; focus (have x0 := (S7.out.keep hI).c0; have x1 := (S7.out.keep hI).c1; go_simp; first | exact ⟨rfl, grow_refl _ _⟩ | exact ⟨rfl, hI, grow_refl _ _⟩))
      refine wpRel_det ?_; apply Exists.intro; refine ⟨fun W hI => ?_, ?_⟩
      · go_simp
        have := rel_of (refRight_any n p c l W (R7.out.kept hI) HN.out HLL.out) hI
        rw [HK.out] at this
        exact this
      iterate 3 (refine wpRel_det ?_; apply Exists.intro; refine ⟨fun W hI => ?_, ?_⟩; focus (go_simp; first | exact ⟨rfl, grow_refl _ _⟩ | exact ⟨rfl, hI, grow_refl _ _⟩))
      refine wpRel_nil ?_
      intro w8 hI8
      have G8 := Lib.hid (grow_none G7.out hI8)
      clear hI8
      go_simp
      intro vz hvz
      clear hvz
      go_wp2
      go_ret
      exact ⟨rfl, below_of_none G8.out⟩
    | true =>
      have HCK : Hid (ckN n l = 0) := by show _ = _; unfold ckN; rw [hK]; rfl
      have HK := Lib.hid hK
      clear hK
      go_wp2
      refine wp_region_rel (fun W => w7.grownBy W none) (fun W W' => W.grownBy W' none) (by kernel_rfl) (by kernel_rfl) (fun W => grow_refl W none) (grow_drawn (grow_refl _ _)) ?_
      iterate 10 (refine wpRel_det ?_; apply Exists.intro; refine ⟨fun W hI => ?_, ?_⟩; focus (have x0 := (S7.out.keep hI).c0; have x1 := (S7.out.keep hI).c1; go_simp; first | exact ⟨rfl, grow_refl _ _⟩ | exact ⟨rfl, hI, grow_refl _ _⟩))
      refine wpRel_step (VO n l) (fun v w w' g h => VO.kept h g) (fun W hI => ?_) ?_
      · go_simp
        exact own_rel n p c l W (R7.out.kept hI) (by have := HT1.out; omega) hI
      refine wpRel_det ?_; apply Exists.intro; refine ⟨fun W hI => ?_, ?_⟩
      · go_simp
        intro vv hv
        have := check_rel n l vv W hv HN.out HLL.out hI
        rw [HCK.out] at this
        exact this
      iterate 2 (refine wpRel_det ?_; apply Exists.intro; refine ⟨fun W hI => ?_, ?_⟩; focus (have x0 := (S7.out.keep hI).c0; have x1 := (S7.out.keep hI).c1; go_simp; first | exact ⟨rfl, grow_refl _ _⟩ | exact ⟨rfl, hI, grow_refl _ _⟩))
      refine wpRel_det ?_; apply Exists.intro; refine ⟨fun W hI => ?_, ?_⟩
      · go_simp
        have := rel_of (refRight_any n p c l W (R7.out.kept hI) HN.out HLL.out) hI
        rw [HK.out] at this
        exact this
      iterate 3 (refine wpRel_det ?_; apply Exists.intro; refine ⟨fun W hI => ?_, ?_⟩; focus (go_simp; first | exact ⟨rfl, grow_refl _ _⟩ | exact ⟨rfl, hI, grow_refl _ _⟩))
      refine wpRel_nil ?_
      intro w8 hI8
      have G8 := Lib.hid (grow_none G7.out hI8)
      clear hI8
      go_simp
      intro vz hvz
      clear hvz
      go_wp2
      go_ret
      exact ⟨rfl, below_of_none G8.out⟩
end Go.Proofs.YtgcdfoadegojcaaDoor
