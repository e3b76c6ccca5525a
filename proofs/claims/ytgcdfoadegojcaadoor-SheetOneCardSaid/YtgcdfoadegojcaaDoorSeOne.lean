/- The law SheetOne: its walk. -/
import Derived.Test.YtgcdfoadegojcaaDoorShtB
namespace Go.Proofs.YtgcdfoadegojcaaDoor
open Go.RowKit
set_option linter.unusedVariables false
set_option maxRecDepth 100000 in
set_option maxHeartbeats 4000000 in
theorem law_SheetOne (a : ByteArray) (ha : a.size ≤ maxLen) (b : ByteArray) (hb : b.size ≤ maxLen) {w : World} (hm : Tb w) :
    Calls Tryd.prog 9 #[.string a, .string b] w fun e w' => e = .returned (.bool true) ∧ Below w.heap.size w w' := by
  obtain ⟨i0, hi, hz0, hz1, hz2⟩ := info_parts Tryd.infoS_string
  clear ha hb
  by_cases h2 : 512 < a.size
  · have e1 : decide ((512 : Int) < a.size) = true := decide_eq_true (by omega)
    clear h2
    go_enter Tryd.func9, Tryd.ntmps9
    go_wp2_with fail
    refine (awake08_any _ hm).mono ?_
    rintro e w2 ⟨rfl, g2⟩
    have m2 := hm.kept g2
    go_wp2_with fail
    refine (awake08_any _ m2).mono ?_
    rintro e w3 ⟨rfl, g3⟩
    have G3 := grow_none g2 g3
    clear g2 g3
    go_wp2
    go_ret
    exact ⟨rfl, below_of_none G3⟩
  have e1 : decide ((512 : Int) < a.size) = false := decide_eq_false (by omega)
  by_cases h3 : 512 < b.size
  · have e2 : decide ((512 : Int) < b.size) = true := decide_eq_true (by omega)
    clear h2 h3
    go_enter Tryd.func9, Tryd.ntmps9
    go_wp2_with fail
    refine (awake08_any _ hm).mono ?_
    rintro e w2 ⟨rfl, g2⟩
    have m2 := hm.kept g2
    go_wp2_with fail
    refine (awake08_any _ m2).mono ?_
    rintro e w3 ⟨rfl, g3⟩
    have G3 := grow_none g2 g3
    clear g2 g3
    go_wp2
    go_ret
    exact ⟨rfl, below_of_none G3⟩
  have e2 : decide ((512 : Int) < b.size) = false := decide_eq_false (by omega)
  have ha5 : a.size ≤ 512 := by omega
  have hb5 : b.size ≤ 512 := by omega
  have HA5 := Lib.hid ha5
  have HB5 := Lib.hid hb5
  have ca := chunks_few ha5
  have cb := chunks_few hb5
  have hSm := fun h => made_same (a := a) (b := b) h
  have hPs := fun h => pack_same (a := a) (b := b) ha5 hb5 h
  have hoa := made_ok ha5
  have hob := made_ok hb5
  have hla : (hashes (chunks a.data.toList)).length ≤ maxLen := by rw [hashes_len]; exact Nat.le_trans ca (by decide)
  have hlb : (hashes (chunks b.data.toList)).length ≤ maxLen := by rw [hashes_len]; exact Nat.le_trans cb (by decide)
  have hMa := fun w => Make_any a w ha5
  have hMb := fun w => Make_any b w hb5
  have hCa := fun w => CutO_any a w (by omega)
  have hCb := fun w => CutO_any b w (by omega)
  have hsz : ∀ s ∈ chunks a.data.toList ++ chunks b.data.toList, s.size ≤ 100000000 := by
    intro s hs
    rcases List.mem_append.1 hs with hs | hs
    · have := chunk_size hs; omega
    · have := chunk_size hs; omega
  have hNa : -9223372036854775808 ≤ (a.size : Int) ∧ (a.size : Int) ≤ 9223372036854775807 := by omega
  have hNb : -9223372036854775808 ≤ (b.size : Int) ∧ (b.size : Int) ≤ 9223372036854775807 := by omega
  have hra := (pack_size hoa).2
  have hrb := (pack_size hob).2
  have hPa : ∀ (p : Option Addr) (c : Nat) (w0 w : World) (hr : RowAt w (.slice p (hashes (chunks a.data.toList)).length c) ((hashes (chunks a.data.toList)).map Value.string)) (hI : w0.grownBy w none), _ := fun p c w0 w hr hI => rel_of (w0 := w0) (Pack_any a.size p c (hashes (chunks a.data.toList)) w hr hNa hra) hI
  have hPb : ∀ (p : Option Addr) (c : Nat) (w0 w : World) (hr : RowAt w (.slice p (hashes (chunks b.data.toList)).length c) ((hashes (chunks b.data.toList)).map Value.string)) (hI : w0.grownBy w none), _ := fun p c w0 w hr hI => rel_of (w0 := w0) (Pack_any b.size p c (hashes (chunks b.data.toList)) w hr hNb hrb) hI
  obtain ⟨A, hA⟩ : ∃ A, A = chunks a.data.toList := ⟨_, rfl⟩
  obtain ⟨B, hB⟩ : ∃ B, B = chunks b.data.toList := ⟨_, rfl⟩
  obtain ⟨LA, hLA⟩ : ∃ LA, LA = hashes A := ⟨_, rfl⟩
  obtain ⟨LB, hLB⟩ : ∃ LB, LB = hashes B := ⟨_, rfl⟩
  obtain ⟨X, hX⟩ : ∃ X, X = bs (packB a.size LA) := ⟨_, rfl⟩
  obtain ⟨Y, hY⟩ : ∃ Y, Y = bs (packB b.size LB) := ⟨_, rfl⟩
  have hXd : (⟨(packB a.size LA).toArray⟩ : ByteArray) = X := hX.symm
  have hYd : (⟨(packB b.size LB).toArray⟩ : ByteArray) = Y := hY.symm
  simp only [← hA, ← hB] at *
  simp only [← hLA, ← hLB] at *
  simp only [← hX, ← hY, hXd, hYd] at *
  have HSM := Lib.hid hSm
  have HPS := Lib.hid hPs
  have HMA := Lib.hid hMa
  have HMB := Lib.hid hMb
  have HCA := Lib.hid hCa
  have HCB := Lib.hid hCb
  have HPA := Lib.hid hPa
  have HPB := Lib.hid hPb
  have HLA := Lib.hid hla
  have HLB := Lib.hid hlb
  have HSZ := Lib.hid hsz
  have HCL : Hid ((A ++ B).length ≤ 1000) := by show _ ≤ _; rw [List.length_append]; omega
  have hca : (A.length : Int) ≤ 8 := by omega
  have hcb : (B.length : Int) ≤ 8 := by omega
  have HKA := Lib.hid ca
  have HKB := Lib.hid cb
  clear hSm hPs hMa hMb hCa hCb hPa hPb hla hlb hsz hA hB hLA hLB hX hY hXd hYd hoa hob hra hrb hNa hNb ha5 hb5 ca cb h2 h3
  go_enter Tryd.func9, Tryd.ntmps9
  go_wp2_with fail
  refine (awake08_any _ hm).mono ?_
  rintro e w2 ⟨rfl, g2⟩
  have m2 := hm.kept g2
  go_wp2_with fail
  refine (HCA.out w2).mono ?_
  rintro e w3 ⟨v1, rfl, o3, n3, g3⟩
  go_wp2_with fail
  refine (HCB.out w3).mono ?_
  rintro e w4 ⟨v2, rfl, o4, _, g4⟩
  have o1 := own_keep o3 g4
  have r2 := RowAt.of_own o4
  have g34 := grow_none g3 g4
  go_wp2_with (refine wpList_append_row_g _ (by kernel_rfl) (.tmp 23) (.tmp 25) 22 (by with_reducible rfl) 9 i0 (.string ⟨#[]⟩) 16 Tryd.underlying22 hi hz0 hz1 hz2 rfl _ _ _ rfl o1 _ (B.map Value.string) rfl r2 (onesS B) (by rw [List.length_map]; show _ ≤ 2^63-1; omega) (by rw [List.length_map]; omega) ?_)
  intro v5 w5 o5 g5 _
  have X5 := grow_newblk g34 n3 g5
  have hap : (A.map Value.string ++ B.map Value.string) = (A ++ B).map Value.string := List.map_append.symm
  have r5 := RowAt.of_own o5
  rw [hap] at r5
  have m5 := m2.kept X5
  have G5 := grow_none g2 X5
  clear o3 n3 g3 o4 g4 o1 r2 g34 o5 g5 X5 hap g2 m2
  go_wp2_with fail
  refine (Clash_any v5 (A ++ B) w5 r5 HCL.out HSZ.out).mono ?_
  rintro e w6 ⟨t, rfl, hin, g6⟩
  have G6 := grow_none G5 g6
  have m6 := m5.kept g6
  clear g6 G5 m5 r5
  cases t with
  | true =>
    clear hin
    go_wp2_with fail
    refine (awake08_any _ m6).mono ?_
    rintro e w7 ⟨rfl, g7⟩
    have G7 := grow_none G6 g7
    clear g7
    go_wp2
    go_ret
    exact ⟨rfl, below_of_none G7⟩
  | false =>
    have hinj := hin rfl
    have HSM2 := Lib.hid (HSM.out hinj)
    have HPS2 := Lib.hid (HPS.out hinj)
    clear hin hinj
    go_wp2_with fail
    refine (HMA.out w6 m6).mono ?_
    rintro e w7 ⟨p7, c7, rfl, r7, g7, _⟩
    have g8 := World.grownBy_alloc w7 (.cells #[.int .i64 a.size, .slice p7 LA.length c7] 30) none
    have s8 := ShB.new w7 a.size (.slice p7 LA.length c7)
    have r8 := r7.kept g8
    have G8 := grow_none (grow_none G6 g7) g8
    have m8 := (m6.kept g7).kept g8
    obtain ⟨b7, hb7⟩ : ∃ b7, b7 = w7.heap.size := ⟨_, rfl⟩
    rw [← hb7] at s8
    have HB7 := Lib.hid hb7
    clear r7 g7 g8 G6 m6 hb7
    go_wp2_with fail
    refine (HMB.out _ m8).mono ?_
    rintro e w9 ⟨p9, c9, rfl, r9, g9, _⟩
    have g10 := World.grownBy_alloc w9 (.cells #[.int .i64 b.size, .slice p9 LB.length c9] 30) none
    have s10 := ShB.new w9 b.size (.slice p9 LB.length c9)
    have r10 := r9.kept g10
    have t10 := (s8.keep g9).keep g10
    have q10 := (r8.kept g9).kept g10
    have G10 := grow_none (grow_none G8 g9) g10
    obtain ⟨b9, hb9⟩ : ∃ b9, b9 = w9.heap.size := ⟨_, rfl⟩
    obtain ⟨wX, hwX⟩ : ∃ wX, wX = w9.alloc (.cells #[.int .i64 b.size, .slice p9 LB.length c9] 30) := ⟨_, rfl⟩
    rw [← hwX] at s10 r10 t10 q10 G10
    rw [← hb9] at s10
    have HB9 := Lib.hid hb9
    have HWX := Lib.hid hwX
    have SB := Lib.hid s10
    have RB := Lib.hid r10
    have SA := Lib.hid t10
    have RA := Lib.hid q10
    have GX := Lib.hid G10
    clear s8 r8 G8 m8 r9 g9 g10 s10 r10 t10 q10 G10 hb9 hwX
    have hab := str_eq a b
    obtain ⟨D, hD⟩ : ∃ D, D = decide (a = b) := ⟨_, rfl⟩
    rw [← hD] at hab HSM2 HPS2
    have hxy := HPS2.out
    clear hD
    go_wp2_with fail
    rw [← HB7.out, ← HB9.out, ← HWX.out]
    refine wp_region_rel (fun W => wX.grownBy W none) (fun W W' => W.grownBy W' none) (by kernel_rfl) (by kernel_rfl) (fun W => grow_refl W none) (grow_drawn (grow_refl _ _)) ?_
    iterate 5 (refine wpRel_det ?_; apply Exists.intro; refine ⟨fun W hI => ?_, ?_⟩; focus (have x0 := (SA.out.keep hI).c0; have x1 := (SA.out.keep hI).c1; have y0 := (SB.out.keep hI).c0; have y1 := (SB.out.keep hI).c1; go_simp; first | exact ⟨rfl, grow_refl _ _⟩ | exact ⟨rfl, hI, grow_refl _ _⟩))
    refine wpRel_det ?_; apply Exists.intro; refine ⟨fun W hI => ?_, ?_⟩
    · go_simp
      have := rel_of (Same08_any a.size b.size p7 p9 c7 c9 LA LB W (RA.out.kept hI) (RB.out.kept hI) HLA.out HLB.out) hI
      rw [HSM2.out] at this
      exact this
    iterate 3 (refine wpRel_det ?_; apply Exists.intro; refine ⟨fun W hI => ?_, ?_⟩; focus (have x0 := (SA.out.keep hI).c0; have x1 := (SA.out.keep hI).c1; go_simp; first | exact ⟨rfl, grow_refl _ _⟩ | exact ⟨rfl, hI, grow_refl _ _⟩))
    refine wpRel_det ?_; apply Exists.intro; refine ⟨fun W hI => ?_, ?_⟩
    · go_simp
      exact HPA.out p7 c7 wX W (RA.out.kept hI) hI
    refine wpRel_det ?_; apply Exists.intro; refine ⟨fun W hI => ?_, ?_⟩
    focus (have x0 := (SB.out.keep hI).c0; have x1 := (SB.out.keep hI).c1; go_simp; first | exact ⟨rfl, grow_refl _ _⟩ | exact ⟨rfl, hI, grow_refl _ _⟩)
    refine wpRel_det ?_; apply Exists.intro; refine ⟨fun W hI => ?_, ?_⟩
    · go_simp
      exact HPB.out p9 c9 wX W (RB.out.kept hI) hI
    iterate 7 (refine wpRel_det ?_; apply Exists.intro; refine ⟨fun W hI => ?_, ?_⟩; focus (go_simp; first | exact ⟨rfl, grow_refl _ _⟩ | exact ⟨rfl, hI, grow_refl _ _⟩))
    refine wpRel_nil ?_
    intro wZ hIZ
    have GZ := Lib.hid (grow_none GX.out hIZ)
    clear hIZ
    go_simp
    go_wp2
    go_ret
    exact ⟨rfl, below_of_none GZ.out⟩
end Go.Proofs.YtgcdfoadegojcaaDoor
