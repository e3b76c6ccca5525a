/- The law SheetElse: its walk. -/
import Derived.Test.YtgcdfoadegojcaaDoorShtB
namespace Go.Proofs.YtgcdfoadegojcaaDoor
open Go.RowKit
set_option linter.unusedVariables false
set_option maxRecDepth 100000 in
set_option maxHeartbeats 8000000 in
theorem law_SheetElse (s : ByteArray) (hs : s.size ≤ maxLen) (z : Int) (hz : -9223372036854775808 ≤ z ∧ z ≤ 9223372036854775807) (n : Int) (hn : 0 ≤ n ∧ n ≤ 255) {w : World} (hm : Tb w) :
    Calls Tryd.prog 8 #[.string s, .int .i64 z, .int .u8 n] w fun e w' => e = .returned (.bool true) ∧ Below w.heap.size w w' := by
  obtain ⟨i0, hi, hz0, hz1, hz2⟩ := info_parts Tryd.infoS_string
  clear hs hz
  by_cases h1 : s.size < 1
  · have e1 : decide ((s.size : Int) < 1) = true := decide_eq_true (by omega)
    clear h1 hn
    go_enter Tryd.func8, Tryd.ntmps8
    go_wp2_with fail
    refine (awake08_any _ hm).mono ?_
    rintro e w2 ⟨rfl, g2⟩
    have m2 := hm.kept g2
    go_wp2_with fail
    refine (awake08_any _ m2).mono ?_
    rintro e w3 ⟨rfl, g3⟩
    have G3 := grow_none g2 g3
    clear g2 g3
    go_wp2
    go_ret
    exact ⟨rfl, below_of_none G3⟩
  have e1 : decide ((s.size : Int) < 1) = false := decide_eq_false (by omega)
  by_cases h2 : 512 < s.size
  · have e2 : decide ((512 : Int) < s.size) = true := decide_eq_true (by omega)
    clear h1 h2 hn
    go_enter Tryd.func8, Tryd.ntmps8
    go_wp2_with fail
    refine (awake08_any _ hm).mono ?_
    rintro e w2 ⟨rfl, g2⟩
    have m2 := hm.kept g2
    go_wp2_with fail
    refine (awake08_any _ m2).mono ?_
    rintro e w3 ⟨rfl, g3⟩
    have G3 := grow_none g2 g3
    clear g2 g3
    go_wp2
    go_ret
    exact ⟨rfl, below_of_none G3⟩
  have e2 : decide ((512 : Int) < s.size) = false := decide_eq_false (by omega)
  have hs5 : s.size ≤ 512 := by omega
  have hsp : 1 ≤ s.size := by omega
  have hfew := chunks_few hs5
  have hpos : 1 ≤ (chunks s.data.toList).length := by rw [chunks_len', data_len]; unfold cntN; omega
  have hMk := fun w => Make_any s w hs5
  have hCu := fun w => CutO_any s w (by omega)
  have hTu := fun (t : ByteArray) => else_turn (t := t) hs5
  have hSw := fun (i k : Nat) => else_swap (i := i) (k := k) hs5
  have hLe := fun m => else_less hs5 m
  have hch : ∀ x ∈ chunks s.data.toList, x.size ≤ 64 := fun x hx => chunk_size hx
  obtain ⟨M, hM⟩ : ∃ M, M = chunks s.data.toList := ⟨_, rfl⟩
  obtain ⟨L, hL⟩ : ∃ L, L = hashes M := ⟨_, rfl⟩
  have hLl : L.length = M.length := by rw [hL, hashes_len]
  simp only [← hM] at *
  simp only [← hL] at *
  have hlm : L.length ≤ maxLen := by rw [hLl]; exact Nat.le_trans hfew (by decide)
  obtain ⟨i, hil, hie⟩ := mod_posS z M.length (by omega) (by omega)
  obtain ⟨k, hkl, hke⟩ := mod_posT n M.length (by omega) (by omega) hn.1
  have hwn : IntKind.u64.wrap n = n := by rw [IntKind.wrap_u64]; omega
  have hwm : IntKind.u64.wrap (M.length : Int) = (M.length : Int) := by rw [IntKind.wrap_u64]; omega
  have hwi : IntKind.i64.wrap (i : Int) = (i : Int) := wrapI (by omega) (by omega)
  have hwk : IntKind.i64.wrap (k : Int) = (k : Int) := wrapI (by omega) (by omega)
  have hm0 : ((M.length : Int) = 0) = False := by simp; intro h; rw [h] at hpos; simp at hpos
  have hm00 : (M = []) = False := by simp; rintro rfl; simp at hpos
  have hii : (i : Int) < M.length := by omega
  have hki : (k : Int) < M.length := by omega
  have hml : (M.length : Int) ≤ 8 := by omega
  have HN : Hid (-9223372036854775808 ≤ (s.size : Int) ∧ (s.size : Int) ≤ 9223372036854775807) := by show _ ∧ _; omega
  have HMK := Lib.hid hMk
  have HCU := Lib.hid hCu
  have HTU := Lib.hid hTu
  have HSW := Lib.hid hSw
  have HLE := Lib.hid hLe
  have HCH := Lib.hid hch
  have HLM := Lib.hid hlm
  have HIL := Lib.hid hil
  have HKL := Lib.hid hkl
  have HFEW := Lib.hid hfew
  have HPOS := Lib.hid hpos
  have HLL := Lib.hid hLl
  have HS5 := Lib.hid hs5
  have HNB := Lib.hid hn
  have HSP := Lib.hid hsp
  clear hMk hCu hTu hSw hLe hch hlm hil hkl hfew hpos hLl hs5 hsp h1 h2 hM hL
  go_enter Tryd.func8, Tryd.ntmps8
  go_wp2_with fail
  refine (awake08_any _ hm).mono ?_
  rintro e w2 ⟨rfl, g2⟩
  have m2 := hm.kept g2
  go_wp2_with fail
  refine (HMK.out w2 m2).mono ?_
  rintro e w3 ⟨p, c, rfl, r3, g3, _⟩
  have g4 := World.grownBy_alloc w3 (.cells #[.int .i64 s.size, .slice p L.length c] 30) none
  have s4 := ShB.new w3 s.size (.slice p L.length c)
  have r4 := r3.kept g4
  have G4 := grow_none (grow_none g2 g3) g4
  obtain ⟨b, hb⟩ : ∃ b, b = w3.heap.size := ⟨_, rfl⟩
  rw [← hb] at s4
  have HB := Lib.hid hb
  clear r3 g2 g3 g4 m2 hb
  go_wp2_with fail
  refine (HCU.out _).mono ?_
  rintro e w5 ⟨v, rfl, o5, n5, g5⟩
  have n5' : NewBlk w v := fun k hk => Nat.le_trans G4.size (n5 k hk)
  have hvb : v.ownBlock ≠ some b := fun e => by have := n5 _ e; have := s4.lt; omega
  obtain ⟨g, cap, rfl, _, _, hcap⟩ := own_at o5 (show 0 < M.length from HPOS.out)
  have HPG : Hid (∀ q, (Value.slice p L.length c).ownBlock = some q → q ≠ g) := by
    intro q hq
    obtain ⟨bb, off, rfl, _, hbb⟩ := row_string r4 rfl (show 0 < L.length by rw [HLL.out]; exact HPOS.out)
    have h5 := n5 g rfl
    have hq2 : bb = q := by simpa [Value.ownBlock] using hq
    omega
  have S5 := Lib.hid (s4.keep g5)
  have R5 := Lib.hid (r4.kept g5)
  have G5 := Lib.hid (grow_none G4 g5)
  have O5 := Lib.hid o5
  have N5 := Lib.hid n5'
  have HVB := Lib.hid hvb
  have HCAP := Lib.hid hcap
  clear s4 r4 G4 g5 o5 n5 n5' hvb hcap
  rw [← HB.out]
  by_cases hn0 : n = 0
  · have e3 : (n == 0) = true := beq_iff_eq.2 hn0
    have e4 : (n != 0) = false := by rw [bne_eq_false_iff_eq]; exact hn0
    clear hn0 hn
    go_wp2_with fail
    refine (Clash_any _ M w5 (RowAt.of_own O5.out) (by have := HFEW.out; omega) (fun x hx => by have := HCH.out x hx; omega)).mono ?_
    rintro e w6 ⟨t, rfl, hin, g6⟩
    have S6 := Lib.hid (S5.out.keep g6)
    have R6 := Lib.hid (R5.out.kept g6)
    have G6 := Lib.hid (grow_none G5.out g6)
    have O6 := Lib.hid (own_keep O5.out g6)
    clear g6
    cases t with
    | true =>
      clear hin
      go_wp2
      go_ret
      exact ⟨rfl, below_of_none G6.out⟩
    | false =>
      have HIN := Lib.hid (hin rfl)
      clear hin
      go_wp2
      refine wp_region_rel (fun W => w6.grownBy W none) (fun W W' => W.grownBy W' none) (by kernel_rfl) (by kernel_rfl) (fun W => grow_refl W none) (grow_drawn (grow_refl _ _)) ?_
      iterate 16 (refine wpRel_det ?_; apply Exists.intro; refine ⟨fun W hI => ?_, ?_⟩; focus (go_simp; first | exact ⟨rfl, grow_refl _ _⟩ | exact ⟨rfl, hI, grow_refl _ _⟩))
      refine wpRel_nil ?_
      intro w7 hI7
      have S7 := Lib.hid (S6.out.keep hI7)
      have R7 := Lib.hid (R6.out.kept hI7)
      have G7 := Lib.hid (grow_none G6.out hI7)
      have O7 := Lib.hid (own_keep O6.out hI7)
      clear hI7
      go_simp
      obtain ⟨hci, hfi⟩ := own_atS O7.out HIL.out
      obtain ⟨hck, hfk⟩ := own_atS O7.out HKL.out
      have gi : (M.map Value.string).getD i undef = .string (M.getD i ⟨#[]⟩) := by rw [List.getD, List.getD, List.getElem?_map, List.getElem?_eq_getElem HIL.out]; rfl
      have gk : (M.map Value.string).getD k undef = .string (M.getD k ⟨#[]⟩) := by rw [List.getD, List.getD, List.getElem?_map, List.getElem?_eq_getElem HKL.out]; rfl
      rw [gi] at hci
      rw [gk] at hck
      have HSWI := Lib.hid (fun hne => HSW.out i k HIL.out HKL.out HIN.out hne)
      have HSWL := Lib.hid (swapL_len M i k)
      have HSWA := Lib.hid (swap_all (l := M) HIL.out HKL.out)
      have HSWM : Hid (((M.map Value.string).set i (.string (M.getD k ⟨#[]⟩))).set k (.string (M.getD i ⟨#[]⟩)) = (swapL M i k).map Value.string) := by
        show _ = _
        unfold swapL
        rw [List.map_set, List.map_set]
      obtain ⟨M', hM'⟩ : ∃ M', M' = swapL M i k := ⟨_, rfl⟩
      rw [← hM'] at HSWI HSWL HSWA HSWM
      obtain ⟨x, hx⟩ : ∃ x, x = M.getD i ⟨#[]⟩ := ⟨_, rfl⟩
      obtain ⟨y, hy⟩ : ∃ y, y = M.getD k ⟨#[]⟩ := ⟨_, rfl⟩
      rw [← hx] at hci HSWI HSWM
      rw [← hy] at hck HSWI HSWM
      clear gi gk hx hy hM' 
      have HCX : Hid (∀ W, w7.grownBy W none → W.cell? ⟨g, i, none⟩ = some (.string x) ∧ W.cell? ⟨g, k, none⟩ = some (.string y) ∧ W.frozen? ⟨g, i, none⟩ = false ∧ W.frozen? ⟨g, k, none⟩ = false) := fun W hW => by
        have hgl := World.block_lt_of_cell? _ _ hci
        have hbk := hW.block g hgl (by simp)
        exact ⟨(World.cell?_of_block (a := ⟨g, i, none⟩) hbk).trans hci, (World.cell?_of_block (a := ⟨g, k, none⟩) hbk).trans hck, (World.frozen?_of_block (a := ⟨g, i, none⟩) hbk).trans hfi, (World.frozen?_of_block (a := ⟨g, k, none⟩) hbk).trans hfk⟩
      clear hci hck hfi hfk
      by_cases hxy : x = y
      · have hse := str_eq x y
        rw [decide_eq_true hxy] at hse
        have hsb : (!(x.toList == y.toList)) = false := by rw [hse]; rfl
        clear hxy
        go_wp2
        refine wp_region_rel (fun W => w7.grownBy W none) (fun W W' => W.grownBy W' none) (by kernel_rfl) (by kernel_rfl) (fun W => grow_refl W none) (grow_drawn (grow_refl _ _)) ?_
        iterate 9 (refine wpRel_det ?_; apply Exists.intro; refine ⟨fun W hI => ?_, ?_⟩; focus (obtain ⟨c1, c2, _, _⟩ := HCX.out W hI; go_simp; first | exact ⟨rfl, grow_refl _ _⟩ | exact ⟨rfl, hI, grow_refl _ _⟩))
        refine wpRel_nil ?_
        intro w8 hI8
        have S8 := Lib.hid (S7.out.keep hI8)
        have R8 := Lib.hid (R7.out.kept hI8)
        have G8 := Lib.hid (grow_none G7.out hI8)
        have RT : Hid (RowAt w8 (.slice (some ⟨g, 0, none⟩) M.length cap) (M.map Value.string)) := RowAt.of_own (own_keep O7.out hI8)
        clear hI8
        go_simp
        obtain ⟨MD, hMD⟩ : ∃ MD, MD = M.drop 1 := ⟨_, rfl⟩
        have HMD := Lib.hid hMD
        have HLE2 : Hid (buildV s.size L MD = .tuple #[.string ⟨#[]⟩, .int .i64 1]) := HLE.out _ (by rw [hMD, List.length_drop]; have := HPOS.out; omega)
        have HCH2 := HCH
        clear hMD
        go_wp2
        refine wp_region_rel (fun W => w8.grownBy W none) (fun W W' => W.grownBy W' none) (by kernel_rfl) (by kernel_rfl) (fun W => grow_refl W none) (grow_drawn (grow_refl _ _)) ?_
        iterate 2 (refine wpRel_det ?_; apply Exists.intro; refine ⟨fun W hI => ?_, ?_⟩; focus (have x0 := (S8.out.keep hI).c0; have x1 := (S8.out.keep hI).c1; go_simp; first | exact ⟨rfl, grow_refl _ _⟩ | exact ⟨rfl, hI, grow_refl _ _⟩))
        refine wpRel_step (VC (MD.map Value.string)) (fun v w w' g h => VC.kept h g) (fun W hI => ?_) ?_
        · have hrd := drop_one (RT.out.kept hI) rfl HPOS.out HCAP.out
          rw [← HMD.out] at hrd
          have HRD := Lib.hid hrd
          have k1 := HPOS.out
          have k2 := HCAP.out
          have k3 : 1 ≤ cap := Nat.le_trans k1 k2
          have k4 : (1 : Int) ≤ M.length := by omega
          have k5 : (1 : Int) ≤ cap := by omega
          have hcv : ∀ q, CapOk (.slice q (M.length - 1) (cap - 1)) := fun q p n c e => by injection e with _ e2 e3; omega
          have HCV := Lib.hid hcv
          clear hrd hcv
          go_simp
          refine ⟨⟨HCV.out _, ?_⟩, by first | exact grow_refl _ _ | exact ⟨hI, grow_refl _ _⟩⟩
          exact HRD.out
        refine wpRel_det ?_; apply Exists.intro; refine ⟨fun W hI => ?_, ?_⟩
        · go_simp
          intro vv hv
          have hmd : MD.length ≤ 8 := by rw [HMD.out, List.length_drop]; have h : _ = M.length := rfl; have := HFEW.out; omega
          have hbd := allB_bound MD (fun x hx => HCH2.out x (by rw [HMD.out] at hx; exact List.mem_of_mem_drop hx))
          have := rel_of (Build_any s.size p c L vv MD W (R8.out.kept hI) hv HN.out HLM.out (by omega) (by omega) ((hm.kept G8.out).kept hI)) hI
          rw [HLE2.out] at this
          exact this
        iterate 5 (refine wpRel_det ?_; apply Exists.intro; refine ⟨fun W hI => ?_, ?_⟩; focus (go_simp; first | exact ⟨rfl, grow_refl _ _⟩ | exact ⟨rfl, hI, grow_refl _ _⟩))
        refine wpRel_nil ?_
        intro wZ hIZ
        have GZ := Lib.hid (grow_none G8.out hIZ)
        clear hIZ
        go_simp
        intro vz hvz
        clear hvz
        go_wp2
        go_ret
        exact ⟨rfl, below_of_none GZ.out⟩
      · have hse := str_eq x y
        rw [decide_eq_false hxy] at hse
        have hsb : (!(x.toList == y.toList)) = true := by rw [hse]; rfl
        have HBV := Lib.hid (HSWI.out hxy)
        have HXY := Lib.hid hxy
        clear hxy
        go_wp2
        refine wp_region_rel (fun W => w7.grownBy W none) (fun W W' => W.grownBy W' none) (by kernel_rfl) (by kernel_rfl) (fun W => grow_refl W none) (grow_drawn (grow_refl _ _)) ?_
        iterate 9 (refine wpRel_det ?_; apply Exists.intro; refine ⟨fun W hI => ?_, ?_⟩; focus (obtain ⟨c1, c2, _, _⟩ := HCX.out W hI; go_simp; first | exact ⟨rfl, grow_refl _ _⟩ | exact ⟨rfl, hI, grow_refl _ _⟩))
        refine wpRel_nil ?_
        intro w8 hI8
        have S8 := Lib.hid (S7.out.keep hI8)
        have R8 := Lib.hid (R7.out.kept hI8)
        have G8 := Lib.hid (grow_none G7.out hI8)
        have O8 := Lib.hid (own_keep O7.out hI8)
        have HCY : Hid (∀ W, w8.grownBy W none → W.cell? ⟨g, i, none⟩ = some (.string x) ∧ W.cell? ⟨g, k, none⟩ = some (.string y) ∧ W.frozen? ⟨g, i, none⟩ = false ∧ W.frozen? ⟨g, k, none⟩ = false) := fun W hW => HCX.out W (grow_none hI8 hW)
        have hik : i ≠ k := by rintro rfl; have := HCX.out w7 (grow_refl _ _); have h3 := this.1.symm.trans this.2.1; injection h3 with h3; injection h3 with h3; exact HXY.out h3
        have HCK : Hid (w8.cell? ⟨g, k, none⟩ = some (.string y)) := (HCY.out w8 (grow_refl _ _)).2.1
        clear hI8
        go_simp
        go_wp2
        refine wp_region_calls 15 _ _ [11, 13] (PE w8 g i y) (fun W W' => W.grownBy W' (some g)) (by simp only [List.take_succ_cons, List.take_zero]; exact rfl) (by simp only [List.drop_succ_cons, List.drop_zero]; exact rfl) (by kernel_rfl) (by kernel_rfl) (by kernel_rfl) (by kernel_rfl) (fun W => grow_refl W _) (PE.of01 (grow_drawn (grow_refl _ _)) (Nat.zero_le _)) ?_
        iterate 11 (refine wpRelC_det rfl ?_; apply Exists.intro; refine ⟨fun j W hI => ?_, ?_⟩; focus (have c2 := PE.cell hik HCK.out hI; go_simp; first | exact ⟨rfl, grow_refl _ _⟩ | exact ⟨rfl, hI, grow_refl _ _⟩))
        refine wpRelC_call 0 rfl ?_; apply Exists.intro; refine ⟨fun W hI => ?_, ?_⟩
        · have hJ : PE w8 g i y 1 W := PE.of01 (hI.at01 (Nat.zero_le _)) (Nat.le_refl _)
          obtain ⟨c1, c2, _, _⟩ := HCY.out W (hI.at01 (Nat.zero_le _))
          go_simp
          first | exact ⟨rfl, grow_refl _ _⟩ | exact ⟨rfl, hJ, grow_refl _ _⟩
        refine wpRelC_det rfl ?_; apply Exists.intro; refine ⟨fun j W hI => ?_, ?_⟩
        · go_simp
          first | exact ⟨rfl, grow_refl _ _⟩ | exact ⟨rfl, hI, grow_refl _ _⟩
        refine wpRelC_call 1 rfl ?_; apply Exists.intro; refine ⟨fun W hI => ?_, ?_⟩
        · obtain ⟨c1, c2, f1, f2⟩ := HCY.out W (hI.at01 (Nat.le_refl _))
          go_simp
          exact ⟨rfl, ⟨W, hI.at01 (Nat.le_refl _), grow_refl _ _⟩, grow_set W ⟨g, i, none⟩ _⟩
        refine wpRelC_det rfl ?_; apply Exists.intro; refine ⟨fun j W hI => ?_, ?_⟩
        · go_simp
          first | exact ⟨rfl, grow_refl _ _⟩ | exact ⟨rfl, hI, grow_refl _ _⟩
        refine wpRelC_nil ?_
        intro w9 hI9
        obtain ⟨W0, h0, h9⟩ := PE.at2 hI9
        have hgb : some g ≠ some b := HVB.out
        have hgw : w.heap.size ≤ g := N5.out g rfl
        have st1 := (own_keep O8.out h0).stored i (.string y)
        have o9 := own_keep st1.1 h9
        have st2 := o9.stored k (.string x)
        have RT : Hid (RowAt (w9.setCell ⟨g, k, none⟩ (.string x)) (.slice (some ⟨g, 0, none⟩) M.length cap) (M'.map Value.string)) := by
          have := RowAt.of_own st2.1
          rw [HSWM.out] at this
          exact this
        have s9 := ((((S8.out.keep h0).kept st1.2 hgb).keep h9).kept st2.2 hgb)
        have r9 : RowAt (w9.setCell ⟨g, k, none⟩ (.string x)) (.slice p L.length c) (L.map Value.string) := by
          have hne : ∀ q, (Value.slice p L.length c).ownBlock = some q → q ≠ g := HPG.out
          exact ((((R8.out.kept h0).keptS st1.2 hne).kept h9).keptS st2.2 hne)
        have G9 := Lib.hid (grow_new (grow_none (grow_new (grow_none G8.out h0) hgw st1.2) h9) hgw st2.2)
        have c2 := PE.cell hik HCK.out hI9
        have f2 : w9.frozen? ⟨g, k, none⟩ = false := (own_atS o9 HKL.out).2
        obtain ⟨MD, hMD⟩ : ∃ MD, MD = M'.drop 1 := ⟨_, rfl⟩
        have HMD := Lib.hid hMD
        have HLE2 : Hid (buildV s.size L MD = .tuple #[.string ⟨#[]⟩, .int .i64 1]) := HLE.out _ (by rw [hMD, List.length_drop, HSWL.out]; have := HPOS.out; omega)
        have HM2 : Hid (M'.length = M.length) := HSWL.out
        have HCH2 : Hid (∀ s ∈ M', s.size ≤ 64) := fun s hs => HCH.out s (HSWA.out s hs)
        have S9 := Lib.hid s9
        have R9 := Lib.hid r9
        have M9 := Lib.hid (hm.kept G9.out)
        have HV10 : Hid (VC (M'.map Value.string) (.slice (some ⟨g, 0, none⟩) M.length cap) (w9.setCell ⟨g, k, none⟩ (.string x))) := ⟨own_capS O5.out, RT.out⟩
        have HBL : Hid (M'.length ≤ 1000000) := by show _ ≤ _; rw [HSWL.out]; have := HFEW.out; omega
        have HBB : Hid ((allB M').length ≤ 100000000) := by show _ ≤ _; have h1 := allB_bound M' HCH2.out; rw [HSWL.out] at h1; have := HFEW.out; omega
        have x0 := s9.c0
        have x1 := s9.c1
        clear hMD hI9 h0 h9 st1 o9 st2 s9 r9
        go_simp
        go_wp2_with fail
        refine (Build_any s.size p c L (.slice (some ⟨g, 0, none⟩) M.length cap) M' _ R9.out HV10.out HN.out HLM.out HBL.out HBB.out M9.out).mono ?_
        rintro e w10 ⟨rfl, g10⟩
        rw [HBV.out]
        have S10 := Lib.hid (S9.out.keep g10)
        have R10 := Lib.hid (R9.out.kept g10)
        have G10 := Lib.hid (grow_none G9.out g10)
        have RT := Lib.hid (RT.out.kept g10)
        clear g10 x0 x1 c2 f2
        go_wp2
        refine wp_region_rel (fun W => w10.grownBy W none) (fun W W' => W.grownBy W' none) (by kernel_rfl) (by kernel_rfl) (fun W => grow_refl W none) (grow_drawn (grow_refl _ _)) ?_
        iterate 2 (refine wpRel_det ?_; apply Exists.intro; refine ⟨fun W hI => ?_, ?_⟩; focus (have x0 := (S10.out.keep hI).c0; have x1 := (S10.out.keep hI).c1; go_simp; first | exact ⟨rfl, grow_refl _ _⟩ | exact ⟨rfl, hI, grow_refl _ _⟩))
        refine wpRel_step (VC (MD.map Value.string)) (fun v w w' g h => VC.kept h g) (fun W hI => ?_) ?_
        · have hrd := drop_one (RT.out.kept hI) HM2.out HPOS.out HCAP.out
          rw [← HMD.out] at hrd
          have HRD := Lib.hid hrd
          have k1 := HPOS.out
          have k2 := HCAP.out
          have k3 : 1 ≤ cap := Nat.le_trans k1 k2
          have k4 : (1 : Int) ≤ M.length := by omega
          have k5 : (1 : Int) ≤ cap := by omega
          have hcv : ∀ q, CapOk (.slice q (M.length - 1) (cap - 1)) := fun q p n c e => by injection e with _ e2 e3; omega
          have HCV := Lib.hid hcv
          clear hrd hcv
          go_simp
          refine ⟨⟨HCV.out _, ?_⟩, by first | exact grow_refl _ _ | exact ⟨hI, grow_refl _ _⟩⟩
          exact HRD.out
        refine wpRel_det ?_; apply Exists.intro; refine ⟨fun W hI => ?_, ?_⟩
        · go_simp
          intro vv hv
          have hmd : MD.length ≤ 8 := by rw [HMD.out, List.length_drop]; have h : _ = M.length := HM2.out; have := HFEW.out; omega
          have hbd := allB_bound MD (fun x hx => HCH2.out x (by rw [HMD.out] at hx; exact List.mem_of_mem_drop hx))
          have := rel_of (Build_any s.size p c L vv MD W (R10.out.kept hI) hv HN.out HLM.out (by omega) (by omega) ((hm.kept G10.out).kept hI)) hI
          rw [HLE2.out] at this
          exact this
        iterate 5 (refine wpRel_det ?_; apply Exists.intro; refine ⟨fun W hI => ?_, ?_⟩; focus (go_simp; first | exact ⟨rfl, grow_refl _ _⟩ | exact ⟨rfl, hI, grow_refl _ _⟩))
        refine wpRel_nil ?_
        intro wZ hIZ
        have GZ := Lib.hid (grow_none G10.out hIZ)
        clear hIZ
        go_simp
        intro vz hvz
        clear hvz
        go_wp2
        go_ret
        exact ⟨rfl, below_of_none GZ.out⟩
  · obtain ⟨q, hqs, hqe⟩ := mod_posS z s.size (by have := HSP.out; omega) (by have := HS5.out; omega)
    have hql : q < s.data.toList.length := by rw [data_len]; exact hqs
    obtain ⟨y, hy⟩ : ∃ y, y = s.data.toList[q] := ⟨_, rfl⟩
    obtain ⟨v, hxor, hvy⟩ := xor_byte y n hn.1 hn.2 hn0
    obtain ⟨T, hT⟩ : ∃ T, T = turnT s q v := ⟨_, rfl⟩
    have hTs : T.size = s.size := by rw [hT, turnT_size]
    have hTn : T ≠ s := by rw [hT]; exact turnT_ne hql (by rw [← hy]; exact hvy)
    have hTb := HTU.out T hTs hTn
    have hcT : (chunks T.data.toList).length ≤ 8 := chunks_few (by rw [hTs]; exact HS5.out)
    have hCT := fun w => CutO_any T w (by rw [hTs]; have := HS5.out; omega)
    have hCR := fun (w0 w : World) (hI : w0.grownBy w none) => Cut_relS T w (by rw [hTs]; have := HS5.out; omega) hI
    have hchT : ∀ x ∈ chunks T.data.toList, x.size ≤ 64 := fun x hx => chunk_size hx
    obtain ⟨CT, hCTe⟩ : ∃ CT, CT = chunks T.data.toList := ⟨_, rfl⟩
    simp only [← hCTe] at hTb hcT hCT hCR hchT
    have hws : IntKind.u64.wrap (s.size : Int) = (s.size : Int) := by rw [IntKind.wrap_u64]; have := HS5.out; omega
    have hwq : IntKind.i64.wrap (q : Int) = (q : Int) := wrapI (by omega) (by have := HS5.out; omega)
    have hqi : (q : Int) < s.size := by omega
    have hs0 : ((s.size : Int) = 0) = False := eq_false (by have := HSP.out; omega)
    have hs00 : (s.size = 0) = False := eq_false (by have := HSP.out; omega)
    have e3 : (n == 0) = false := beq_eq_false_iff_ne.2 hn0
    have e4 : (n != 0) = true := by rw [bne_iff_ne]; exact hn0
    have hby := fun W => run_bytes (P := Tryd.prog) W 9 52 5 s Tryd.underlying9 Tryd.underlying52 Tryd.underlying5
    have b0 := bytesOf_byt w5 5 s
    have gb := bytesOf_grow w5 5 s
    have hcell := b0.cell q hql
    have hfr := b0.frozen q hql
    rw [← hy] at hcell
    obtain ⟨gx, hgx⟩ : ∃ gx, gx = w5.heap.size := ⟨_, rfl⟩
    obtain ⟨capx, hcapx⟩ : ∃ capx, capx = grownCap w5 s.size 0 5 := ⟨_, rfl⟩
    have hcn : s.size ≤ capx := by rw [hcapx]; exact grownCap_ge _ _ _ _
    rw [← hgx] at b0 hcell hfr
    obtain ⟨wb, hwb⟩ : ∃ wb, wb = bytesOf w5 5 s := ⟨_, rfl⟩
    rw [← hwb] at b0 gb hcell hfr
    have HTS := Lib.hid hTs
    have HTB := Lib.hid hTb
    have HCT := Lib.hid hCT
    have HCR := Lib.hid hCR
    have HCHT := Lib.hid hchT
    have HCTL := Lib.hid hcT
    have HX := Lib.hid hxor
    have HTT := Lib.hid hT
    have B0 := Lib.hid b0
    have GB := Lib.hid gb
    have HGX := Lib.hid hgx
    have HCPX := Lib.hid hcapx
    have HWB := Lib.hid hwb
    have HQL := Lib.hid hql
    have HQS := Lib.hid hqs
    clear hTs hTn hTb hcT hCT hCR hchT hCTe hT hvy hy hqs hql b0 gb hgx hcapx hwb hn hn0
    go_upto_region 8 with (fail)
    rw [← HGX.out, ← HCPX.out, ← HWB.out]
    go_upto_region 9 with (fail)
    have b1 := B0.out.set_ q v _ rfl
    have hlset : (s.data.toList.set q v).length = s.size := by rw [List.length_set, data_len]
    have hTe : (⟨(s.data.toList.set q v).toArray⟩ : ByteArray) = T := by rw [HTT.out]; rfl
    have hcv := b1.str (P := Tryd.prog) 52 9 capx Tryd.underlying52 Tryd.underlying5 Tryd.underlying9 s.size hlset
    rw [hTe] at hcv
    have gc : w5.grownBy (wb.setCell ⟨gx, q, none⟩ (.int .u8 (v.toNat : Int))) none := grow_new GB.out (by rw [HGX.out]; exact Nat.le_refl _) (grow_set _ ⟨gx, q, none⟩ _)
    obtain ⟨wc, hwc⟩ : ∃ wc, wc = wb.setCell ⟨gx, q, none⟩ (.int .u8 (v.toNat : Int)) := ⟨_, rfl⟩
    rw [← hwc] at b1 hcv gc ⊢
    have B1 := Lib.hid b1
    have HLS := Lib.hid hlset
    have HTE := Lib.hid hTe
    have HWC := Lib.hid hwc
    have GC := Lib.hid gc
    clear b1 hlset hTe hwc gc hcell hfr
    go_wp2_with fail
    refine (HCT.out wc).mono ?_
    rintro e w6 ⟨v6, rfl, o6, n6, g6⟩
    have r6 := RowAt.of_own (own_keep O5.out (grow_none GC.out g6))
    clear hcv
    go_wp2_with (at_builtin; refine wpList_append_row _ rfl (.tmp 60) (.tmp 61) 22 (by with_reducible rfl) 9 i0 (.string ⟨#[]⟩) 16 Tryd.underlying22 hi hz0 hz1 hz2 rfl _ _ _ rfl o6 _ (M.map Value.string) rfl r6 (onesS M) (by rw [List.length_map]; have := HCTL.out; show _ ≤ 2^63-1; omega) (by rw [List.length_map]; have := HCTL.out; omega) ?_)
    intro v7 w7 o7 g7 _
    have X7 := grow_none GC.out (grow_newblk g6 n6 g7)
    have r7 := RowAt.of_own o7
    rw [show (CT.map Value.string ++ M.map Value.string) = (CT ++ M).map Value.string from List.map_append.symm] at r7
    have B7 := Lib.hid (B1.out.keep (grow_newblk g6 n6 g7))
    clear o6 n6 g6 r6 o7 g7
    go_wp2_with fail
    refine (Clash_any v7 (CT ++ M) w7 r7 (by rw [List.length_append]; have := HCTL.out; have := HFEW.out; omega) (fun x hx => by
      rcases List.mem_append.1 hx with hx | hx
      · have := HCHT.out x hx; omega
      · have := HCH.out x hx; omega)).mono ?_
    rintro e w8 ⟨t, rfl, hin, g8⟩
    have G8 := Lib.hid (grow_none (grow_none G5.out X7) g8)
    have X8 := Lib.hid (grow_none X7 g8)
    have B8 := Lib.hid (B7.out.keep g8)
    clear r7 X7 g8
    cases t with
    | true =>
      clear hin
      go_wp2
      go_ret
      exact ⟨rfl, below_of_none G8.out⟩
    | false =>
      have HBT := Lib.hid (HTB.out (hin rfl))
      clear hin
      have S8 := Lib.hid (S5.out.keep X8.out)
      have R8 := Lib.hid (R5.out.kept X8.out)
      have O8 := Lib.hid (own_keep O5.out X8.out)
      have M8 := Lib.hid (hm.kept G8.out)
      go_wp2
      refine wp_region_rel (fun W => w8.grownBy W none) (fun W W' => W.grownBy W' none) (by kernel_rfl) (by kernel_rfl) (fun W => grow_refl W none) (grow_drawn (grow_refl _ _)) ?_
      iterate 2 (refine wpRel_det ?_; apply Exists.intro; refine ⟨fun W hI => ?_, ?_⟩; focus (have x0 := (S8.out.keep hI).c0; have x1 := (S8.out.keep hI).c1; go_simp; first | exact ⟨rfl, grow_refl _ _⟩ | exact ⟨rfl, hI, grow_refl _ _⟩))
      refine wpRel_det ?_; apply Exists.intro; refine ⟨fun W hI => ?_, ?_⟩
      · have hcw := (B8.out.keep hI).str (P := Tryd.prog) 52 9 capx Tryd.underlying52 Tryd.underlying5 Tryd.underlying9 s.size HLS.out
        rw [HTE.out] at hcw
        go_simp
        first | exact ⟨rfl, grow_refl _ _⟩ | exact ⟨rfl, hI, grow_refl _ _⟩
      refine wpRel_step (VC (CT.map Value.string)) (fun v w w' g h => VC.kept h g) (fun W hI => ?_) ?_
      · go_simp
        exact HCR.out w8 W hI
      refine wpRel_det ?_; apply Exists.intro; refine ⟨fun W hI => ?_, ?_⟩
      · go_simp
        intro vv hv
        have hbd := allB_bound CT HCHT.out
        have := rel_of (Build_any s.size p c L vv CT W (R8.out.kept hI) hv HN.out HLM.out (by have := HCTL.out; omega) (by have := HCTL.out; omega) (M8.out.kept hI)) hI
        rw [HBT.out] at this
        exact this
      iterate 5 (refine wpRel_det ?_; apply Exists.intro; refine ⟨fun W hI => ?_, ?_⟩; focus (go_simp; first | exact ⟨rfl, grow_refl _ _⟩ | exact ⟨rfl, hI, grow_refl _ _⟩))
      refine wpRel_nil ?_
      intro wN hIN
      have SN := Lib.hid (S8.out.keep hIN)
      have RN := Lib.hid (R8.out.kept hIN)
      have ON := Lib.hid (own_keep O8.out hIN)
      have GN := Lib.hid (grow_none G8.out hIN)
      clear hIN
      go_simp
      intro vz hvz
      clear hvz hby hqe hws hwq hqi hs0 hs00 hxor
      go_wp2_with fail
      refine (Clash_any _ M wN (RowAt.of_own ON.out) (by have := HFEW.out; omega) (fun x hx => by have := HCH.out x hx; omega)).mono ?_
      rintro e w6 ⟨t, rfl, hin, g6⟩
      have S6 := Lib.hid (SN.out.keep g6)
      have R6 := Lib.hid (RN.out.kept g6)
      have G6 := Lib.hid (grow_none GN.out g6)
      have O6 := Lib.hid (own_keep ON.out g6)
      clear g6
      cases t with
      | true =>
        clear hin
        go_wp2
        go_ret
        exact ⟨rfl, below_of_none G6.out⟩
      | false =>
        have HIN := Lib.hid (hin rfl)
        clear hin
        go_wp2
        refine wp_region_rel (fun W => w6.grownBy W none) (fun W W' => W.grownBy W' none) (by kernel_rfl) (by kernel_rfl) (fun W => grow_refl W none) (grow_drawn (grow_refl _ _)) ?_
        iterate 16 (refine wpRel_det ?_; apply Exists.intro; refine ⟨fun W hI => ?_, ?_⟩; focus (go_simp; first | exact ⟨rfl, grow_refl _ _⟩ | exact ⟨rfl, hI, grow_refl _ _⟩))
        refine wpRel_nil ?_
        intro w7 hI7
        have S7 := Lib.hid (S6.out.keep hI7)
        have R7 := Lib.hid (R6.out.kept hI7)
        have G7 := Lib.hid (grow_none G6.out hI7)
        have O7 := Lib.hid (own_keep O6.out hI7)
        clear hI7
        go_simp
        obtain ⟨hci, hfi⟩ := own_atS O7.out HIL.out
        obtain ⟨hck, hfk⟩ := own_atS O7.out HKL.out
        have gi : (M.map Value.string).getD i undef = .string (M.getD i ⟨#[]⟩) := by rw [List.getD, List.getD, List.getElem?_map, List.getElem?_eq_getElem HIL.out]; rfl
        have gk : (M.map Value.string).getD k undef = .string (M.getD k ⟨#[]⟩) := by rw [List.getD, List.getD, List.getElem?_map, List.getElem?_eq_getElem HKL.out]; rfl
        rw [gi] at hci
        rw [gk] at hck
        have HSWI := Lib.hid (fun hne => HSW.out i k HIL.out HKL.out HIN.out hne)
        have HSWL := Lib.hid (swapL_len M i k)
        have HSWA := Lib.hid (swap_all (l := M) HIL.out HKL.out)
        have HSWM : Hid (((M.map Value.string).set i (.string (M.getD k ⟨#[]⟩))).set k (.string (M.getD i ⟨#[]⟩)) = (swapL M i k).map Value.string) := by
          show _ = _
          unfold swapL
          rw [List.map_set, List.map_set]
        obtain ⟨M', hM'⟩ : ∃ M', M' = swapL M i k := ⟨_, rfl⟩
        rw [← hM'] at HSWI HSWL HSWA HSWM
        obtain ⟨x, hx⟩ : ∃ x, x = M.getD i ⟨#[]⟩ := ⟨_, rfl⟩
        obtain ⟨y, hy⟩ : ∃ y, y = M.getD k ⟨#[]⟩ := ⟨_, rfl⟩
        rw [← hx] at hci HSWI HSWM
        rw [← hy] at hck HSWI HSWM
        clear gi gk hx hy hM' 
        have HCX : Hid (∀ W, w7.grownBy W none → W.cell? ⟨g, i, none⟩ = some (.string x) ∧ W.cell? ⟨g, k, none⟩ = some (.string y) ∧ W.frozen? ⟨g, i, none⟩ = false ∧ W.frozen? ⟨g, k, none⟩ = false) := fun W hW => by
          have hgl := World.block_lt_of_cell? _ _ hci
          have hbk := hW.block g hgl (by simp)
          exact ⟨(World.cell?_of_block (a := ⟨g, i, none⟩) hbk).trans hci, (World.cell?_of_block (a := ⟨g, k, none⟩) hbk).trans hck, (World.frozen?_of_block (a := ⟨g, i, none⟩) hbk).trans hfi, (World.frozen?_of_block (a := ⟨g, k, none⟩) hbk).trans hfk⟩
        clear hci hck hfi hfk
        by_cases hxy : x = y
        · have hse := str_eq x y
          rw [decide_eq_true hxy] at hse
          have hsb : (!(x.toList == y.toList)) = false := by rw [hse]; rfl
          clear hxy
          go_wp2
          refine wp_region_rel (fun W => w7.grownBy W none) (fun W W' => W.grownBy W' none) (by kernel_rfl) (by kernel_rfl) (fun W => grow_refl W none) (grow_drawn (grow_refl _ _)) ?_
          iterate 9 (refine wpRel_det ?_; apply Exists.intro; refine ⟨fun W hI => ?_, ?_⟩; focus (obtain ⟨c1, c2, _, _⟩ := HCX.out W hI; go_simp; first | exact ⟨rfl, grow_refl _ _⟩ | exact ⟨rfl, hI, grow_refl _ _⟩))
          refine wpRel_nil ?_
          intro w8 hI8
          have S8 := Lib.hid (S7.out.keep hI8)
          have R8 := Lib.hid (R7.out.kept hI8)
          have G8 := Lib.hid (grow_none G7.out hI8)
          have RT : Hid (RowAt w8 (.slice (some ⟨g, 0, none⟩) M.length cap) (M.map Value.string)) := RowAt.of_own (own_keep O7.out hI8)
          clear hI8
          go_simp
          obtain ⟨MD, hMD⟩ : ∃ MD, MD = M.drop 1 := ⟨_, rfl⟩
          have HMD := Lib.hid hMD
          have HLE2 : Hid (buildV s.size L MD = .tuple #[.string ⟨#[]⟩, .int .i64 1]) := HLE.out _ (by rw [hMD, List.length_drop]; have := HPOS.out; omega)
          have HCH2 := HCH
          clear hMD
          go_wp2
          refine wp_region_rel (fun W => w8.grownBy W none) (fun W W' => W.grownBy W' none) (by kernel_rfl) (by kernel_rfl) (fun W => grow_refl W none) (grow_drawn (grow_refl _ _)) ?_
          iterate 2 (refine wpRel_det ?_; apply Exists.intro; refine ⟨fun W hI => ?_, ?_⟩; focus (have x0 := (S8.out.keep hI).c0; have x1 := (S8.out.keep hI).c1; go_simp; first | exact ⟨rfl, grow_refl _ _⟩ | exact ⟨rfl, hI, grow_refl _ _⟩))
          refine wpRel_step (VC (MD.map Value.string)) (fun v w w' g h => VC.kept h g) (fun W hI => ?_) ?_
          · have hrd := drop_one (RT.out.kept hI) rfl HPOS.out HCAP.out
            rw [← HMD.out] at hrd
            have HRD := Lib.hid hrd
            have k1 := HPOS.out
            have k2 := HCAP.out
            have k3 : 1 ≤ cap := Nat.le_trans k1 k2
            have k4 : (1 : Int) ≤ M.length := by omega
            have k5 : (1 : Int) ≤ cap := by omega
            have hcv : ∀ q, CapOk (.slice q (M.length - 1) (cap - 1)) := fun q p n c e => by injection e with _ e2 e3; omega
            have HCV := Lib.hid hcv
            clear hrd hcv
            go_simp
            refine ⟨⟨HCV.out _, ?_⟩, by first | exact grow_refl _ _ | exact ⟨hI, grow_refl _ _⟩⟩
            exact HRD.out
          refine wpRel_det ?_; apply Exists.intro; refine ⟨fun W hI => ?_, ?_⟩
          · go_simp
            intro vv hv
            have hmd : MD.length ≤ 8 := by rw [HMD.out, List.length_drop]; have h : _ = M.length := rfl; have := HFEW.out; omega
            have hbd := allB_bound MD (fun x hx => HCH2.out x (by rw [HMD.out] at hx; exact List.mem_of_mem_drop hx))
            have := rel_of (Build_any s.size p c L vv MD W (R8.out.kept hI) hv HN.out HLM.out (by omega) (by omega) ((hm.kept G8.out).kept hI)) hI
            rw [HLE2.out] at this
            exact this
          iterate 5 (refine wpRel_det ?_; apply Exists.intro; refine ⟨fun W hI => ?_, ?_⟩; focus (go_simp; first | exact ⟨rfl, grow_refl _ _⟩ | exact ⟨rfl, hI, grow_refl _ _⟩))
          refine wpRel_nil ?_
          intro wZ hIZ
          have GZ := Lib.hid (grow_none G8.out hIZ)
          clear hIZ
          go_simp
          intro vz hvz
          clear hvz
          go_wp2
          go_ret
          exact ⟨rfl, below_of_none GZ.out⟩
        · have hse := str_eq x y
          rw [decide_eq_false hxy] at hse
          have hsb : (!(x.toList == y.toList)) = true := by rw [hse]; rfl
          have HBV := Lib.hid (HSWI.out hxy)
          have HXY := Lib.hid hxy
          clear hxy
          go_wp2
          refine wp_region_rel (fun W => w7.grownBy W none) (fun W W' => W.grownBy W' none) (by kernel_rfl) (by kernel_rfl) (fun W => grow_refl W none) (grow_drawn (grow_refl _ _)) ?_
          iterate 9 (refine wpRel_det ?_; apply Exists.intro; refine ⟨fun W hI => ?_, ?_⟩; focus (obtain ⟨c1, c2, _, _⟩ := HCX.out W hI; go_simp; first | exact ⟨rfl, grow_refl _ _⟩ | exact ⟨rfl, hI, grow_refl _ _⟩))
          refine wpRel_nil ?_
          intro w8 hI8
          have S8 := Lib.hid (S7.out.keep hI8)
          have R8 := Lib.hid (R7.out.kept hI8)
          have G8 := Lib.hid (grow_none G7.out hI8)
          have O8 := Lib.hid (own_keep O7.out hI8)
          have HCY : Hid (∀ W, w8.grownBy W none → W.cell? ⟨g, i, none⟩ = some (.string x) ∧ W.cell? ⟨g, k, none⟩ = some (.string y) ∧ W.frozen? ⟨g, i, none⟩ = false ∧ W.frozen? ⟨g, k, none⟩ = false) := fun W hW => HCX.out W (grow_none hI8 hW)
          have hik : i ≠ k := by rintro rfl; have := HCX.out w7 (grow_refl _ _); have h3 := this.1.symm.trans this.2.1; injection h3 with h3; injection h3 with h3; exact HXY.out h3
          have HCK : Hid (w8.cell? ⟨g, k, none⟩ = some (.string y)) := (HCY.out w8 (grow_refl _ _)).2.1
          clear hI8
          go_simp
          go_wp2
          refine wp_region_calls 15 _ _ [11, 13] (PE w8 g i y) (fun W W' => W.grownBy W' (some g)) (by simp only [List.take_succ_cons, List.take_zero]; exact rfl) (by simp only [List.drop_succ_cons, List.drop_zero]; exact rfl) (by kernel_rfl) (by kernel_rfl) (by kernel_rfl) (by kernel_rfl) (fun W => grow_refl W _) (PE.of01 (grow_drawn (grow_refl _ _)) (Nat.zero_le _)) ?_
          iterate 11 (refine wpRelC_det rfl ?_; apply Exists.intro; refine ⟨fun j W hI => ?_, ?_⟩; focus (have c2 := PE.cell hik HCK.out hI; go_simp; first | exact ⟨rfl, grow_refl _ _⟩ | exact ⟨rfl, hI, grow_refl _ _⟩))
          refine wpRelC_call 0 rfl ?_; apply Exists.intro; refine ⟨fun W hI => ?_, ?_⟩
          · have hJ : PE w8 g i y 1 W := PE.of01 (hI.at01 (Nat.zero_le _)) (Nat.le_refl _)
            obtain ⟨c1, c2, _, _⟩ := HCY.out W (hI.at01 (Nat.zero_le _))
            go_simp
            first | exact ⟨rfl, grow_refl _ _⟩ | exact ⟨rfl, hJ, grow_refl _ _⟩
          refine wpRelC_det rfl ?_; apply Exists.intro; refine ⟨fun j W hI => ?_, ?_⟩
          · go_simp
            first | exact ⟨rfl, grow_refl _ _⟩ | exact ⟨rfl, hI, grow_refl _ _⟩
          refine wpRelC_call 1 rfl ?_; apply Exists.intro; refine ⟨fun W hI => ?_, ?_⟩
          · obtain ⟨c1, c2, f1, f2⟩ := HCY.out W (hI.at01 (Nat.le_refl _))
            go_simp
            exact ⟨rfl, ⟨W, hI.at01 (Nat.le_refl _), grow_refl _ _⟩, grow_set W ⟨g, i, none⟩ _⟩
          refine wpRelC_det rfl ?_; apply Exists.intro; refine ⟨fun j W hI => ?_, ?_⟩
          · go_simp
            first | exact ⟨rfl, grow_refl _ _⟩ | exact ⟨rfl, hI, grow_refl _ _⟩
          refine wpRelC_nil ?_
          intro w9 hI9
          obtain ⟨W0, h0, h9⟩ := PE.at2 hI9
          have hgb : some g ≠ some b := HVB.out
          have hgw : w.heap.size ≤ g := N5.out g rfl
          have st1 := (own_keep O8.out h0).stored i (.string y)
          have o9 := own_keep st1.1 h9
          have st2 := o9.stored k (.string x)
          have RT : Hid (RowAt (w9.setCell ⟨g, k, none⟩ (.string x)) (.slice (some ⟨g, 0, none⟩) M.length cap) (M'.map Value.string)) := by
            have := RowAt.of_own st2.1
            rw [HSWM.out] at this
            exact this
          have s9 := ((((S8.out.keep h0).kept st1.2 hgb).keep h9).kept st2.2 hgb)
          have r9 : RowAt (w9.setCell ⟨g, k, none⟩ (.string x)) (.slice p L.length c) (L.map Value.string) := by
            have hne : ∀ q, (Value.slice p L.length c).ownBlock = some q → q ≠ g := HPG.out
            exact ((((R8.out.kept h0).keptS st1.2 hne).kept h9).keptS st2.2 hne)
          have G9 := Lib.hid (grow_new (grow_none (grow_new (grow_none G8.out h0) hgw st1.2) h9) hgw st2.2)
          have c2 := PE.cell hik HCK.out hI9
          have f2 : w9.frozen? ⟨g, k, none⟩ = false := (own_atS o9 HKL.out).2
          obtain ⟨MD, hMD⟩ : ∃ MD, MD = M'.drop 1 := ⟨_, rfl⟩
          have HMD := Lib.hid hMD
          have HLE2 : Hid (buildV s.size L MD = .tuple #[.string ⟨#[]⟩, .int .i64 1]) := HLE.out _ (by rw [hMD, List.length_drop, HSWL.out]; have := HPOS.out; omega)
          have HM2 : Hid (M'.length = M.length) := HSWL.out
          have HCH2 : Hid (∀ s ∈ M', s.size ≤ 64) := fun s hs => HCH.out s (HSWA.out s hs)
          have S9 := Lib.hid s9
          have R9 := Lib.hid r9
          have M9 := Lib.hid (hm.kept G9.out)
          have HV10 : Hid (VC (M'.map Value.string) (.slice (some ⟨g, 0, none⟩) M.length cap) (w9.setCell ⟨g, k, none⟩ (.string x))) := ⟨own_capS O5.out, RT.out⟩
          have HBL : Hid (M'.length ≤ 1000000) := by show _ ≤ _; rw [HSWL.out]; have := HFEW.out; omega
          have HBB : Hid ((allB M').length ≤ 100000000) := by show _ ≤ _; have h1 := allB_bound M' HCH2.out; rw [HSWL.out] at h1; have := HFEW.out; omega
          have x0 := s9.c0
          have x1 := s9.c1
          clear hMD hI9 h0 h9 st1 o9 st2 s9 r9
          go_simp
          go_wp2_with fail
          refine (Build_any s.size p c L (.slice (some ⟨g, 0, none⟩) M.length cap) M' _ R9.out HV10.out HN.out HLM.out HBL.out HBB.out M9.out).mono ?_
          rintro e w10 ⟨rfl, g10⟩
          rw [HBV.out]
          have S10 := Lib.hid (S9.out.keep g10)
          have R10 := Lib.hid (R9.out.kept g10)
          have G10 := Lib.hid (grow_none G9.out g10)
          have RT := Lib.hid (RT.out.kept g10)
          clear g10 x0 x1 c2 f2
          go_wp2
          refine wp_region_rel (fun W => w10.grownBy W none) (fun W W' => W.grownBy W' none) (by kernel_rfl) (by kernel_rfl) (fun W => grow_refl W none) (grow_drawn (grow_refl _ _)) ?_
          iterate 2 (refine wpRel_det ?_; apply Exists.intro; refine ⟨fun W hI => ?_, ?_⟩; focus (have x0 := (S10.out.keep hI).c0; have x1 := (S10.out.keep hI).c1; go_simp; first | exact ⟨rfl, grow_refl _ _⟩ | exact ⟨rfl, hI, grow_refl _ _⟩))
          refine wpRel_step (VC (MD.map Value.string)) (fun v w w' g h => VC.kept h g) (fun W hI => ?_) ?_
          · have hrd := drop_one (RT.out.kept hI) HM2.out HPOS.out HCAP.out
            rw [← HMD.out] at hrd
            have HRD := Lib.hid hrd
            have k1 := HPOS.out
            have k2 := HCAP.out
            have k3 : 1 ≤ cap := Nat.le_trans k1 k2
            have k4 : (1 : Int) ≤ M.length := by omega
            have k5 : (1 : Int) ≤ cap := by omega
            have hcv : ∀ q, CapOk (.slice q (M.length - 1) (cap - 1)) := fun q p n c e => by injection e with _ e2 e3; omega
            have HCV := Lib.hid hcv
            clear hrd hcv
            go_simp
            refine ⟨⟨HCV.out _, ?_⟩, by first | exact grow_refl _ _ | exact ⟨hI, grow_refl _ _⟩⟩
            exact HRD.out
          refine wpRel_det ?_; apply Exists.intro; refine ⟨fun W hI => ?_, ?_⟩
          · go_simp
            intro vv hv
            have hmd : MD.length ≤ 8 := by rw [HMD.out, List.length_drop]; have h : _ = M.length := HM2.out; have := HFEW.out; omega
            have hbd := allB_bound MD (fun x hx => HCH2.out x (by rw [HMD.out] at hx; exact List.mem_of_mem_drop hx))
            have := rel_of (Build_any s.size p c L vv MD W (R10.out.kept hI) hv HN.out HLM.out (by omega) (by omega) ((hm.kept G10.out).kept hI)) hI
            rw [HLE2.out] at this
            exact this
          iterate 5 (refine wpRel_det ?_; apply Exists.intro; refine ⟨fun W hI => ?_, ?_⟩; focus (go_simp; first | exact ⟨rfl, grow_refl _ _⟩ | exact ⟨rfl, hI, grow_refl _ _⟩))
          refine wpRel_nil ?_
          intro wZ hIZ
          have GZ := Lib.hid (grow_none G10.out hIZ)
          clear hIZ
          go_simp
          intro vz hvz
          clear hvz
          go_wp2
          go_ret
          exact ⟨rfl, below_of_none GZ.out⟩
end Go.Proofs.YtgcdfoadegojcaaDoor
