/- The law DiskApart: its walk. -/
import Derived.Test.YtgfmmchmkfboaaaRdT
import Derived.Test.YtgfmmchmkfboaaaOp9
namespace Go.Proofs.Ytgfmmchmkfboaaa
open Go.RowKit
set_option linter.unusedVariables false
def Apn (L : List Oc) (w : World) (b mb c : Nat) (i : Value) (wr : World) : Prop :=
  ∃ (j n : Nat) (G : ByteArray → Option Nat) (d : Dk) (v : Value) (r : Rk), j ≤ L.length ∧ i = .int .i64 j ∧ n ≤ j ∧ d.steps ≤ j ∧ r.L.length ≤ j ∧ Both w wr b mb n G d c v r ∧ Cor d r
def Apm (L : List Oc) (w : World) (b mb c : Nat) (i : Value) (wr : World) : Prop :=
  ∃ (j n : Nat) (G : ByteArray → Option Nat) (d : Dk) (v : Value) (r : Rk), j ≤ L.length ∧ i = .int .i64 j ∧ n ≤ j + 1000 ∧ d.steps ≤ j + 1000 ∧ r.L.length ≤ j + 1000 ∧ Both w wr b mb n G d c v r ∧ Cor d r
def Did6B (w w' : World) (b mb n : Nat) (G : ByteArray → Option Nat) (d : Dk) (c : Nat) (v : Value) (r : Rk) (o : Oc) (ks : List Int) (e : Ending) (w1 : World) : Prop :=
  ∃ u n2 G2 d2, e = .returned (.tuple #[.pointer (some ⟨b, 0, none⟩), u]) ∧ n2 ≤ n + 1 ∧ d2.steps ≤ d.steps + 1 ∧ Both w w1 b mb n2 G2 d2 c v r ∧ Cor d2 (wantD r o ks) ∧ Chg (DS b mb G) w' w1
theorem did6B_any {w w' : World} {b mb n : Nat} {G : ByteArray → Option Nat} {d : Dk} {c : Nat} {v : Value} {r : Rk} (h : Both w w' b mb n G d c v r) (hc : Cor d r) (o : Oc) (ks : List Int) (hok : OcOk w' o ks) (hsm : ks.length ≤ 8192) (hst : d.steps < 1000000) (hn : n < 1000000) (h7 : o.kind < 7) :
    Calls Try.prog 13 #[.pointer (some ⟨b, 0, none⟩), o.val] w' (Did6B w w' b mb n G d c v r o ks) := by
  refine (did6_any b mb n G d o ks w' h.D hok hsm h7 hst hn).mono ?_
  rintro e w1 ⟨cc, d2, n2, rfl, hn2, hd, hE⟩
  obtain ⟨e1, e2⟩ := hc.did hd
  obtain ⟨G2, hB⟩ := h.did hE
  have hs : d2.steps ≤ d.steps + 1 := by
    rcases hd with hd | ⟨_, _, rfl⟩
    · exact did_steps hd
    · unfold flipD
      split
      · exact Nat.le_succ _
      · split
        · exact Nat.le_succ _
        · exact Nat.le_succ _
  exact ⟨_, n2, G2, d2, rfl, hn2, hs, hB, e2, hE.choose_spec.2.1⟩
set_option maxRecDepth 100000 in
set_option maxHeartbeats 8000000 in
theorem law_DiskApart (v : Value) (L : List Oc) {w : World} (hS : Scr w v L) (mv : Value) (M : List Oc) (hM : Scr w mv M) :
    Calls Try.prog 6 #[v, mv] w fun e w' => e = .returned (.bool true) ∧ Below w.heap.size w w' := by
  obtain ⟨p, c, rfl⟩ := hS.read.len
  obtain ⟨pm, cm, rfl⟩ := hM.read.len
  have HS := Lib.hid hS
  have HM := Lib.hid hM
  clear hS hM
  go_enter Try.func6, Try.ntmps6
  go_wp2_with fail
  refine (awake_any _).mono ?_
  rintro e w1 ⟨rfl, g1⟩
  have G1 := Lib.hid g1
  clear g1
  go_wp2_with fail
  refine (great_any _ L w1 (HS.out.keep G1.out).read HS.out.len (HS.out.keep G1.out).each).mono ?_
  rintro e w2 ⟨hg, g2⟩
  have G2 := Lib.hid (grow_none G1.out g2)
  clear g2
  rcases hg with rfl | ⟨rfl, hl200, hsm⟩
  · go_wp2_with fail
    refine (awake_any _).mono ?_
    rintro e w4 ⟨rfl, g4⟩
    have G4 := Lib.hid (grow_none G2.out g4)
    clear g4
    go_wp2_with fail
    go_ret
    exact ⟨rfl, below_of_none G4.out⟩
  have HSMA : Hid (∀ o ∈ L, ∀ ks, OcOk w o ks → OcSm o ks) := fun o ho ks hk => hsm o ho ks (hk.keep G1.out)
  have HL := Lib.hid hl200
  clear hsm
  go_wp2_with fail
  refine (great_any _ M w2 (HM.out.keep G2.out).read HM.out.len (HM.out.keep G2.out).each).mono ?_
  rintro e w2b ⟨hg, g2⟩
  have G2b := Lib.hid (grow_none G2.out g2)
  clear g2
  rcases hg with rfl | ⟨rfl, hm200, hsm⟩
  · go_wp2_with fail
    refine (awake_any _).mono ?_
    rintro e w4 ⟨rfl, g4⟩
    have G4 := Lib.hid (grow_none G2b.out g4)
    clear g4
    go_wp2_with fail
    go_ret
    exact ⟨rfl, below_of_none G4.out⟩
  have HSMB : Hid (∀ o ∈ M, ∀ ks, OcOk w o ks → OcSm o ks) := fun o ho ks hk => hsm o ho ks (hk.keep G2.out)
  have HLM := Lib.hid hm200
  clear hsm
  go_wp2_with fail
  refine (New_any w2b).mono ?_
  rintro e w3 ⟨rfl, h3, g3⟩
  have H3 := Lib.hid h3
  have G3 := Lib.hid (grow_none G2b.out g3)
  clear h3 g3
  go_wp2_with fail
  refine (refNew_any w3).mono ?_
  rintro e w4 ⟨rfl, r4, g4⟩
  have HB4 : Hid (Both w w4 (w2b.heap.size + 1) w2b.heap.size 0 (fun _ => none) newD w3.heap.size (.slice none 0 0) noD) := by
    refine ⟨H3.out.keep g4, r4, ?_, ?_, ?_, grow_none G3.out g4⟩
    · rintro i (x | x | ⟨s, x⟩) (y | y)
      · have := H3.out.lt; omega
      · cases y
      · have := H3.out.lt; omega
      · cases y
      · cases x
      · cases x
    · rintro i (x | x | ⟨s, x⟩)
      · have := G2b.out.size; omega
      · have := G2b.out.size; omega
      · cases x
    · rintro i (y | y)
      · have := G3.out.size; omega
      · cases y
  obtain ⟨cc, hcc⟩ : ∃ cc, cc = w3.heap.size := ⟨_, rfl⟩
  obtain ⟨b, hb⟩ : ∃ b, b = w2b.heap.size + 1 := ⟨_, rfl⟩
  obtain ⟨mb, hmb⟩ : ∃ mb, mb = w2b.heap.size := ⟨_, rfl⟩
  rw [← hcc, ← hb, ← hmb] at HB4
  rw [← hcc, ← hb]
  clear r4 g4 hcc hb hmb
  have il : (L.length : Int) ≤ 200 := by omega
  have im : (M.length : Int) ≤ 200 := by omega
  go_wp2_with fail
  go_loopw [28] (fun i wr => Apn L w b mb cc i wr) (fun i _ => L.length - (intOf i).toNat)
  case atStart => exact ⟨0, 0, _, newD, _, noD, Nat.zero_le _, rfl, Nat.le_refl _, Nat.le_refl _, Nat.le_refl _, HB4.out, Cor.new⟩
  case round =>
    obtain ⟨j, n, GG, d, vv, r, hj, rfl, hnj, hdj, hrj, hB, hC⟩ := hrel
    have HB := Lib.hid hB
    have HC := Lib.hid hC
    have HNJ := Lib.hid (show _ ∧ _ ∧ _ ∧ _ from ⟨hj, hnj, hdj, hrj⟩)
    clear hB hC hnj hdj hrj
    by_cases hlt : j < L.length
    · obtain ⟨o, ho⟩ : ∃ o, o = L[j] := ⟨_, rfl⟩
      obtain ⟨ks, hks⟩ := HS.out.each o (by rw [ho]; exact List.getElem_mem hlt)
      have hosm := HSMA.out o (by rw [ho]; exact List.getElem_mem hlt) ks hks
      have HGW := Lib.hid (show w.grownBy wr none from HB.out.g)
      obtain ⟨g, off, rfl, hgl, r0, r1, r2, r3, r4⟩ := oc_at (HS.out.keep HGW.out).read rfl j hlt o (by rw [ho, List.getElem?_eq_getElem])
      clear ho
      obtain ⟨kd, nme, dta, num, kp⟩ := o
      obtain ⟨an, cn, en⟩ := rowAt_len hks.row
      rw [List.length_map] at en
      dsimp only at en r0 r1 r2 r3 r4
      subst en
      have HKS := Lib.hid hks
      have HOS := Lib.hid hosm
      have HLT := Lib.hid hlt
      have i1 : (j : Int) < L.length := by omega
      have i0' : (0 : Int) ≤ j := by omega
      clear hks hosm hlt
      have HGA := Lib.hid (show wr.grownBy (wr.alloc (.cells #[.int .i64 kd, .string nme, .string dta, .int .i64 num, .slice an ks.length cn] 31)) none from World.grownBy_alloc _ _ _)
      by_cases hk7 : kd < 7
      · have d6 : decide (kd < 7) = true := decide_eq_true hk7
        have HK7 := Lib.hid hk7
        have HBA := Lib.hid (HB.out.keep HGA.out)
        have bA : Blk (wr.alloc (.cells #[.int .i64 kd, .string nme, .string dta, .int .i64 num, .slice an ks.length cn] 31)) wr.heap.size 31 [.int .i64 kd, .string nme, .string dta, .int .i64 num, .slice an ks.length cn] := Blk.new wr 31 [.int .i64 kd, .string nme, .string dta, .int .i64 num, .slice an ks.length cn]
        obtain ⟨n0, hn0⟩ : ∃ n0, n0 = wr.heap.size := ⟨_, rfl⟩
        have BA := Lib.hid bA
        have HN0 := Lib.hid hn0
        clear bA hn0 hk7
        go_wp2_with fail
        refine (did6B_any HBA.out HC.out ⟨kd, nme, dta, num, .slice an ks.length cn⟩ ks (HKS.out.keep (grow_none HGW.out HGA.out)) HOS.out.2.2 (by have := HNJ.out; have := HL.out; omega) (by have := HNJ.out; have := HL.out; omega) HK7.out).mono ?_
        rintro e w5 ⟨u5, n5, G5, d5, rfl, hn5, hs5, hB5, hC5, hX5⟩
        have b5' : Blk w5 n0 31 [.int .i64 kd, .string nme, .string dta, .int .i64 num, .slice an ks.length cn] := by
          have h1 := BA.out
          rw [← HN0.out] at h1
          exact hX5.blk h1 (fun hs => by have := HB.out.D.live n0 hs; have := HN0.out; omega)
        have HB5 := Lib.hid hB5
        have HC5 := Lib.hid hC5
        have H55 := Lib.hid (show _ ∧ _ from ⟨hn5, hs5⟩)
        rw [← HN0.out]
        have x0 := b5'.cell 0 (by simp)
        have x1 := b5'.cell 1 (by simp)
        have x2 := b5'.cell 2 (by simp)
        have x3 := b5'.cell 3 (by simp)
        have x4 := b5'.cell 4 (by simp)
        have HO5 := Lib.hid (HKS.out.keep (show w.grownBy w5 none from hB5.g))
        clear hn5 hs5 hB5 hC5 hX5 b5'
        go_wp2_with fail
        refine (want_any cc vv r ⟨kd, nme, dta, num, .slice an ks.length cn⟩ ks w5 HB5.out.R HO5.out (by have := HC.out.cnt; have := HNJ.out; have := HL.out; omega) (by have := HNJ.out; have := HL.out; omega)).mono ?_
        rintro e w6 ⟨rfl, hE6⟩
        obtain ⟨v6, hB6⟩ := HB5.out.want hE6
        have HB6 := Lib.hid hB6
        have HLW := Lib.hid (wantD_len r ⟨kd, nme, dta, num, .slice an ks.length cn⟩ ks)
        clear hE6 hB6 x0 x1 x2 x3 x4
        go_wp2_with fail
        go_roundw
        case rel => exact ⟨j + 1, n5, G5, d5, v6, _, by have := HLT.out; omega, by go_num, by have := HNJ.out; have := H55.out; omega, by have := HNJ.out; have := H55.out; omega, by have := HNJ.out; have := HLW.out; omega, HB6.out, HC5.out⟩
        case measure => have := HLT.out; simp [intOf]; omega
      · have d6 : decide (kd < 7) = false := decide_eq_false hk7
        go_wp2_with fail
        go_roundw
        case rel => exact ⟨j + 1, n, GG, d, vv, r, by have := HLT.out; omega, by go_num, by have := HNJ.out; omega, by have := HNJ.out; omega, by have := HNJ.out; omega, HB.out.keep HGA.out, HC.out⟩
        case measure => have := HLT.out; simp [intOf]; omega
    · obtain rfl : j = L.length := by omega
      clear hlt
      go_wp2_with fail
      refine (Copy_any b mb n GG d wr HB.out.D).mono ?_
      rintro e wa ⟨b2, mb2, n2, Gc, rfl, hc, hn2, hb2, hmb2, hgc, ga⟩
      have HDC := Lib.hid hc
      have HDN : Hid (∀ i, DS b2 mb2 Gc i → wr.heap.size ≤ i) := by
        rintro i (x | x | ⟨s, x⟩)
        · rw [x]; exact hb2
        · rw [x]; exact hmb2
        · exact hgc s i x
      have HN2 := Lib.hid hn2
      have GA := Lib.hid ga
      clear hc hn2 hb2 hmb2 hgc ga
      go_wp2_with fail
      refine (refCopy_any cc vv r wa (HB.out.R.keep GA.out)).mono ?_
      rintro e wb ⟨c2, v2, rfl, hrc, hc2, hv2, gb⟩
      have HBC : Hid (Both wr wb b2 mb2 n2 Gc d c2 v2 r) := by
        refine ⟨HDC.out.keep gb, hrc, fun i hi hr => ?_, HDN.out, fun i hi => ?_, grow_none GA.out gb⟩
        · have h1 := HDC.out.live i hi
          rcases hr with y | y
          · omega
          · have := hv2 i y; omega
        · rcases hi with y | y
          · have := GA.out.size; omega
          · have := hv2 i y; have := GA.out.size; omega
      clear hrc hc2 hv2 gb
      obtain ⟨w9, hw9⟩ : ∃ w9, w9 = wr := ⟨_, rfl⟩
      rw [← hw9] at HB HBC
      have GW := Lib.hid HB.out.g
      clear hw9 hj
      go_wp2_with fail
      go_loopw [48] (fun i wr => Apm M w9 b2 mb2 c2 i wr) (fun i _ => M.length - (intOf i).toNat)
      case atStart => exact ⟨0, n2, _, d, _, r, Nat.zero_le _, rfl, by have := HNJ.out; have := HN2.out; have := HL.out; omega, by have := HNJ.out; have := HL.out; omega, by have := HNJ.out; have := HL.out; omega, HBC.out, HC.out⟩
      case round =>
        obtain ⟨j, nm2, GG2, dd, vv2, rr, hj, rfl, hnj, hdj, hrj, hB, hC⟩ := hrel
        have HB2 := Lib.hid hB
        have HC2 := Lib.hid hC
        have HNJ2 := Lib.hid (show _ ∧ _ ∧ _ ∧ _ from ⟨hj, hnj, hdj, hrj⟩)
        clear hB hC hnj hdj hrj
        by_cases hlt : j < M.length
        · obtain ⟨o, ho⟩ : ∃ o, o = M[j] := ⟨_, rfl⟩
          obtain ⟨ks, hks⟩ := HM.out.each o (by rw [ho]; exact List.getElem_mem hlt)
          have hosm := HSMB.out o (by rw [ho]; exact List.getElem_mem hlt) ks hks
          have HGW := Lib.hid (show w.grownBy wr none from grow_none GW.out HB2.out.g)
          obtain ⟨g, off, rfl, hgl, r0, r1, r2, r3, r4⟩ := oc_at (HM.out.keep HGW.out).read rfl j hlt o (by rw [ho, List.getElem?_eq_getElem])
          clear ho
          obtain ⟨kd, nme, dta, num, kp⟩ := o
          obtain ⟨an, cn, en⟩ := rowAt_len hks.row
          rw [List.length_map] at en
          dsimp only at en r0 r1 r2 r3 r4
          subst en
          have HKS := Lib.hid hks
          have HOS := Lib.hid hosm
          have HLT := Lib.hid hlt
          have i1 : (j : Int) < M.length := by omega
          have i0' : (0 : Int) ≤ j := by omega
          clear hks hosm hlt
          have HGA := Lib.hid (show wr.grownBy (wr.alloc (.cells #[.int .i64 kd, .string nme, .string dta, .int .i64 num, .slice an ks.length cn] 31)) none from World.grownBy_alloc _ _ _)
          by_cases hk7 : kd < 7
          · have d6 : decide (kd < 7) = true := decide_eq_true hk7
            have HK7 := Lib.hid hk7
            have HBA := Lib.hid (HB2.out.keep HGA.out)
            have bA : Blk (wr.alloc (.cells #[.int .i64 kd, .string nme, .string dta, .int .i64 num, .slice an ks.length cn] 31)) wr.heap.size 31 [.int .i64 kd, .string nme, .string dta, .int .i64 num, .slice an ks.length cn] := Blk.new wr 31 [.int .i64 kd, .string nme, .string dta, .int .i64 num, .slice an ks.length cn]
            obtain ⟨n0, hn0⟩ : ∃ n0, n0 = wr.heap.size := ⟨_, rfl⟩
            have BA := Lib.hid bA
            have HN0 := Lib.hid hn0
            clear bA hn0 hk7
            go_wp2_with fail
            refine (did6B_any HBA.out HC2.out ⟨kd, nme, dta, num, .slice an ks.length cn⟩ ks (HKS.out.keep (grow_none HGW.out HGA.out)) HOS.out.2.2 (by have := HNJ2.out; have := HLM.out; omega) (by have := HNJ2.out; have := HLM.out; omega) HK7.out).mono ?_
            rintro e w5 ⟨u5, n5, G5, d5, rfl, hn5, hs5, hB5, hC5, hX5⟩
            have b5' : Blk w5 n0 31 [.int .i64 kd, .string nme, .string dta, .int .i64 num, .slice an ks.length cn] := by
              have h1 := BA.out
              rw [← HN0.out] at h1
              exact hX5.blk h1 (fun hs => by have := HB2.out.D.live n0 hs; have := HN0.out; omega)
            have HB5 := Lib.hid hB5
            have HC5 := Lib.hid hC5
            have H55 := Lib.hid (show _ ∧ _ from ⟨hn5, hs5⟩)
            rw [← HN0.out]
            have x0 := b5'.cell 0 (by simp)
            have x1 := b5'.cell 1 (by simp)
            have x2 := b5'.cell 2 (by simp)
            have x3 := b5'.cell 3 (by simp)
            have x4 := b5'.cell 4 (by simp)
            have HO5 := Lib.hid (HKS.out.keep (show w.grownBy w5 none from grow_none GW.out hB5.g))
            clear hn5 hs5 hB5 hC5 hX5 b5'
            go_wp2_with fail
            refine (want_any c2 vv2 rr ⟨kd, nme, dta, num, .slice an ks.length cn⟩ ks w5 HB5.out.R HO5.out (by have := HC2.out.cnt; have := HNJ2.out; have := HLM.out; omega) (by have := HNJ2.out; have := HLM.out; omega)).mono ?_
            rintro e w6 ⟨rfl, hE6⟩
            obtain ⟨v6, hB6⟩ := HB5.out.want hE6
            have HB6 := Lib.hid hB6
            have HLW := Lib.hid (wantD_len rr ⟨kd, nme, dta, num, .slice an ks.length cn⟩ ks)
            clear hE6 hB6 x0 x1 x2 x3 x4
            go_wp2_with fail
            go_roundw
            case rel => exact ⟨j + 1, n5, G5, d5, v6, _, by have := HLT.out; omega, by go_num, by have := HNJ2.out; have := H55.out; omega, by have := HNJ2.out; have := H55.out; omega, by have := HNJ2.out; have := HLW.out; omega, HB6.out, HC5.out⟩
            case measure => have := HLT.out; simp [intOf]; omega
          · have d6 : decide (kd < 7) = false := decide_eq_false hk7
            go_wp2_with fail
            go_roundw
            case rel => exact ⟨j + 1, nm2, GG2, dd, vv2, rr, by have := HLT.out; omega, by go_num, by have := HNJ2.out; omega, by have := HNJ2.out; omega, by have := HNJ2.out; omega, HB2.out.keep HGA.out, HC2.out⟩
            case measure => have := HLT.out; simp [intOf]; omega
        · obtain rfl : j = M.length := by omega
          clear hlt
          go_wp2_with fail
          refine (alike_any b mb n GG d cc vv r _ (HB.out.D.keep HB2.out.g) (HB.out.R.keep HB2.out.g) HC.out).mono ?_
          rintro e wc ⟨rfl, gc⟩
          have HB3 := Lib.hid (HB2.out.keep gc)
          clear gc
          go_wp2_with fail
          refine (alike_any b2 mb2 nm2 GG2 dd c2 vv2 rr _ HB3.out.D HB3.out.R HC2.out).mono ?_
          rintro e wd ⟨rfl, gd⟩
          have HG := Lib.hid (grow_none GW.out (grow_none HB3.out.g gd))
          clear gd
          go_wp2_with fail
          go_ret
          exact ⟨rfl, below_of_none HG.out⟩
end Go.Proofs.Ytgfmmchmkfboaaa
