/- The law DiskAgain: its walk. -/
import Derived.Test.YtgfmmchmkfboaaaDkX
import Derived.Test.YtgfmmchmkfboaaaSame
import Derived.Test.YtgfmmchmkfboaaaOp9
namespace Go.Proofs.Ytgfmmchmkfboaaa
open Go.RowKit
set_option linter.unusedVariables false
def Agn (L : List Oc) (w1 : World) (b mb : Nat) (i : Value) (wr : World) : Prop :=
  ∃ (j n : Nat) (d : Dk), j ≤ L.length ∧ i = .int .i64 j ∧ n ≤ j ∧ d.steps ≤ j ∧ DEnd b mb (fun _ => none) n d w1 wr
theorem did6_steps {d d' : Dk} {o : Oc} {ks : List Int} {c : Int} (h : DidR6 d o ks c d') : d'.steps ≤ d.steps + 1 := by
  rcases h with h | ⟨_, _, rfl⟩
  · exact did_steps h
  · unfold flipD
    split
    · exact Nat.le_succ _
    · split
      · exact Nat.le_succ _
      · exact Nat.le_succ _
set_option maxRecDepth 100000 in
set_option maxHeartbeats 8000000 in
theorem law_DiskAgain (v : Value) (L : List Oc) {w : World} (hS : Scr w v L) (kv : Value) (kl : List Int) (hkr : RowAt w kv (kl.map (Value.int .i64))) (hkb : ∀ n ∈ kl, -9223372036854775808 ≤ n ∧ n ≤ 9223372036854775807) (hkm : kl.length ≤ maxLen)
    (mv : Value) (ml : List Int) (hmr : RowAt w mv (ml.map (Value.int .i64))) (hmb : ∀ n ∈ ml, -9223372036854775808 ≤ n ∧ n ≤ 9223372036854775807) (hmm : ml.length ≤ maxLen) :
    Calls Try.prog 5 #[v, kv, mv] w fun e w' => e = .returned (.bool true) ∧ Below w.heap.size w w' := by
  obtain ⟨p, c, rfl⟩ := hS.read.len
  obtain ⟨pk, ck, rfl⟩ := rowAt_len hkr
  obtain ⟨pm, cm, rfl⟩ := rowAt_len hmr
  rw [List.length_map, List.length_map]
  have hki : (kl.length : Int) ≤ 9223372036854775807 := by unfold maxLen at hkm; omega
  have hmi : (ml.length : Int) ≤ 9223372036854775807 := by unfold maxLen at hmm; omega
  rw [List.length_map] at hkr hmr
  have HS := Lib.hid hS
  have HKR := Lib.hid hkr
  have HMR := Lib.hid hmr
  clear hS hkr hkb hkm hmr hmb hmm
  obtain ⟨i0, hi, hz0, hz1, hz2⟩ := info_parts info_int05
  go_enter Try.func5, Try.ntmps5
  go_wp2_with fail
  refine (awake_any _).mono ?_
  rintro e w1 ⟨rfl, g1⟩
  have G1 := Lib.hid g1
  clear g1
  go_wp2_with fail
  refine (great_any _ L w1 (HS.out.keep G1.out).read HS.out.len (HS.out.keep G1.out).each).mono ?_
  rintro e w2 ⟨hg, g2⟩
  have G2 := Lib.hid (grow_none G1.out g2)
  clear g2
  rcases hg with rfl | ⟨rfl, hl200, hsm⟩
  · go_wp2_with fail
    refine (awake_any _).mono ?_
    rintro e w4 ⟨rfl, g4⟩
    have G4 := Lib.hid (grow_none G2.out g4)
    clear g4
    go_wp2_with fail
    go_ret
    exact ⟨rfl, below_of_none G4.out⟩
  by_cases hk1000 : 1000 < kl.length
  · have d2 : decide ((1000 : Int) < (kl.length : Int)) = true := decide_eq_true (by omega)
    go_wp2_with fail
    refine (awake_any _).mono ?_
    rintro e w4 ⟨rfl, g4⟩
    have G4 := Lib.hid (grow_none G2.out g4)
    clear g4
    go_wp2_with fail
    go_ret
    exact ⟨rfl, below_of_none G4.out⟩
  have d2 : decide ((1000 : Int) < (kl.length : Int)) = false := decide_eq_false (by omega)
  by_cases hm1000 : 1000 < ml.length
  · have d3 : decide ((1000 : Int) < (ml.length : Int)) = true := decide_eq_true (by omega)
    go_wp2_with fail
    refine (awake_any _).mono ?_
    rintro e w4 ⟨rfl, g4⟩
    have G4 := Lib.hid (grow_none G2.out g4)
    clear g4
    go_wp2_with fail
    go_ret
    exact ⟨rfl, below_of_none G4.out⟩
  have d3 : decide ((1000 : Int) < (ml.length : Int)) = false := decide_eq_false (by omega)
  have HK1 := Lib.hid hk1000
  have HM1 := Lib.hid hm1000
  have HL := Lib.hid hl200
  have HSMA : Hid (∀ o ∈ L, ∀ ks, OcOk w o ks → OcSm o ks) := fun o ho ks hk => hsm o ho ks (hk.keep G1.out)
  clear hk1000 hm1000 hsm
  go_wp2_with fail
  refine (New_any w2).mono ?_
  rintro e w3 ⟨rfl, h3, g3⟩
  obtain ⟨b, hb⟩ : ∃ b, b = w2.heap.size + 1 := ⟨_, rfl⟩
  obtain ⟨mb, hmb⟩ : ∃ mb, mb = w2.heap.size := ⟨_, rfl⟩
  rw [← hb, ← hmb] at h3
  rw [← hb]
  have HBB : Hid (w.heap.size ≤ b ∧ w.heap.size ≤ mb) := ⟨by have := G2.out.size; omega, by have := G2.out.size; omega⟩
  have G3 := Lib.hid (grow_none G2.out g3)
  have E3 := Lib.hid (DEnd.same h3 (grow_refl w3 none))
  clear h3 g3 hb hmb
  have il : (L.length : Int) ≤ 200 := by omega
  go_wp2_with fail
  go_loopw [38] (fun i wr => Agn L w3 b mb i wr) (fun i _ => L.length - (intOf i).toNat)
  case atStart => exact ⟨0, 0, newD, Nat.zero_le _, rfl, Nat.le_refl _, Nat.le_refl _, E3.out⟩
  case round =>
    obtain ⟨j, n, d, hj, rfl, hnj, hdj, hE⟩ := hrel
    have HE := Lib.hid hE
    have HNJ := Lib.hid (show _ ∧ _ ∧ _ from ⟨hj, hnj, hdj⟩)
    have GR : Hid (w.grownBy wr none) := hE.fresh G3.out HBB.out.1 HBB.out.2
    clear hE hnj hdj
    by_cases hlt : j < L.length
    · obtain ⟨o, ho⟩ : ∃ o, o = L[j] := ⟨_, rfl⟩
      obtain ⟨ks, hks⟩ := HS.out.each o (by rw [ho]; exact List.getElem_mem hlt)
      have hosm := HSMA.out o (by rw [ho]; exact List.getElem_mem hlt) ks hks
      obtain ⟨g, off, rfl, hgl, r0, r1, r2, r3, r4⟩ := oc_at (HS.out.keep GR.out).read rfl j hlt o (by rw [ho, List.getElem?_eq_getElem])
      clear ho
      obtain ⟨kd, nme, dta, num, kp⟩ := o
      obtain ⟨an, cn, en⟩ := rowAt_len hks.row
      rw [List.length_map] at en
      dsimp only at en r0 r1 r2 r3 r4
      subst en
      have HKS := Lib.hid hks
      have HOS := Lib.hid hosm
      have HLT := Lib.hid hlt
      have i1 : (j : Int) < L.length := by omega
      have i0' : (0 : Int) ≤ j := by omega
      clear hks hosm hlt
      have HGA := Lib.hid (show wr.grownBy (wr.alloc (.cells #[.int .i64 kd, .string nme, .string dta, .int .i64 num, .slice an ks.length cn] 31)) none from World.grownBy_alloc _ _ _)
      by_cases hk6 : kd < 7
      · have d6 : decide (kd < 7) = true := decide_eq_true hk6
        obtain ⟨GG, hD, x1, x2⟩ := HE.out
        have HD := Lib.hid (hD.keep HGA.out)
        have X1 := Lib.hid x1
        have X2 := Lib.hid x2
        have HK6 := Lib.hid hk6
        clear hD x1 x2
        go_wp2_with fail
        refine (did6_any b mb n GG d ⟨kd, nme, dta, num, .slice an ks.length cn⟩ ks _ HD.out (HKS.out.keep (grow_none GR.out HGA.out)) HOS.out.2.2 HK6.out (by have := HNJ.out; have := HL.out; omega) (by have := HNJ.out; have := HL.out; omega)).mono ?_
        rintro e w5 ⟨cc, d', n', rfl, hn', hdid, hE5⟩
        have E5 : Hid (DEnd b mb (fun _ => none) n' d' w3 w5) := DEnd.after X1.out X2.out (DEnd.front HGA.out hE5)
        have HB : Hid (j + 1 ≤ L.length ∧ n' ≤ j + 1 ∧ d'.steps ≤ j + 1) := by
          have := HNJ.out; have := HLT.out; have := did6_steps hdid
          exact ⟨by omega, by omega, by omega⟩
        clear hE5 hdid hn' X1 X2 HE
        go_wp2_with fail
        go_roundw
        case rel => exact ⟨j + 1, n', d', HB.out.1, by go_num, HB.out.2.1, HB.out.2.2, E5.out⟩
        case measure => have := HLT.out; simp [intOf]; omega
      · have d6 : decide (kd < 7) = false := decide_eq_false hk6
        go_wp2_with fail
        go_roundw
        case rel => exact ⟨j + 1, n, d, by have := HLT.out; omega, by go_num, by have := HNJ.out; omega, by have := HNJ.out; omega, DEnd.back HE.out HGA.out⟩
        case measure => have := HLT.out; simp [intOf]; omega
    · obtain rfl : j = L.length := by omega
      obtain ⟨GG, hD, x1, x2⟩ := HE.out
      have HD := Lib.hid hD
      have X1 := Lib.hid x1
      have X2 := Lib.hid x2
      clear hD x1 x2 hlt
      have r7a := HKR.out.kept (grow_none GR.out (World.grownBy_alloc wr (.cells #[] 3) none))
      have oEa := own_empty wr 3 1
      go_wp2_with (at_builtin; refine wpList_append_row _ rfl _ _ 29 rfl 3 i0 (.int .i64 0) 8 Try.underlying29 hi hz0 hz1 hz2 rfl (.slice (some ⟨wr.heap.size, 0, none⟩) 0 0) 0 [] rfl oEa _ (kl.map (Value.int .i64)) rfl r7a (ones_int05 kl) (by rw [List.length_map]; have := HK1.out; show _ ≤ 2^63-1; omega) (by rw [List.length_map]; have := HK1.out; omega) ?_)
      intro v8a w8a o8 g8 m8
      have N8 := newblk_at wr wr.heap.size 0 0 (Nat.le_refl _) 0
      have GXa := Lib.hid (show wr.grownBy w8a none from grow_newblk (World.grownBy_alloc wr (.cells #[] 3) none) N8 g8)
      have NVa := Lib.hid (show NewBlk wr v8a from N8.moved (World.grownBy_alloc wr (.cells #[] 3) none).size m8)
      have O8a := Lib.hid o8
      clear r7a oEa o8 g8 m8 N8
      have HR := Lib.hid (RowN.of_own2 (S := DS b mb GG) (by simpa using O8a.out) (fun g hg hs => by have := NVa.out g hg; have := HD.out.live g hs; omega))
      go_wp2_with fail
      refine (Crash_any b mb n GG d kl v8a _ (HD.out.keep GXa.out) HR.out).mono ?_
      rintro e w9 ⟨rfl, ts, hN, hl, hE9⟩
      have HNF := Lib.hid (hN.toF (HD.out.keep GXa.out))
      obtain ⟨d1, hd1⟩ : ∃ d1, d1 = crashD d kl ts := ⟨_, rfl⟩
      have HTW : Hid (∀ ts2, crashD d1 ml ts2 = d1) := fun ts2 => by rw [hd1]; exact crash_twice HNF.out
      have HDN : Hid (d1.down = false) := by show _ = _; rw [hd1]; rfl
      rw [← hd1] at hE9
      have E9 : Hid (DEnd b mb (fun _ => none) n d1 w3 w9) := DEnd.after X1.out X2.out (DEnd.front GXa.out hE9)
      have GR9 : Hid (w.grownBy w9 none) := E9.out.fresh G3.out HBB.out.1 HBB.out.2
      obtain ⟨G9, h9, c9, x9⟩ := E9.out
      have H9 := Lib.hid h9
      clear hN hl hE9 hd1 h9 c9 x9
      go_wp2_with fail
      refine (Copy_any b mb n G9 d1 w9 H9.out).mono ?_
      rintro e w10 ⟨b2, mb2, n2, Gc, rfl, hc, hn2, hb2, hmb2, hgc, g10⟩
      have HC := Lib.hid hc
      have HCB := Lib.hid (show _ ∧ _ ∧ _ from ⟨hb2, hmb2, hgc⟩)
      have G10 := Lib.hid g10
      have GR10 := Lib.hid (grow_none GR9.out g10)
      clear hc hn2 hb2 hmb2 hgc g10
      have r7b := HMR.out.kept (grow_none GR10.out (World.grownBy_alloc w10 (.cells #[] 3) none))
      have oEb := own_empty w10 3 1
      go_wp2_with (at_builtin; refine wpList_append_row _ rfl _ _ 29 rfl 3 i0 (.int .i64 0) 8 Try.underlying29 hi hz0 hz1 hz2 rfl (.slice (some ⟨w10.heap.size, 0, none⟩) 0 0) 0 [] rfl oEb _ (ml.map (Value.int .i64)) rfl r7b (ones_int05 ml) (by rw [List.length_map]; have := HM1.out; show _ ≤ 2^63-1; omega) (by rw [List.length_map]; have := HM1.out; omega) ?_)
      intro v8b w8b o8 g8 m8
      have N8 := newblk_at w10 w10.heap.size 0 0 (Nat.le_refl _) 0
      have GXb := Lib.hid (show w10.grownBy w8b none from grow_newblk (World.grownBy_alloc w10 (.cells #[] 3) none) N8 g8)
      have NVb := Lib.hid (show NewBlk w10 v8b from N8.moved (World.grownBy_alloc w10 (.cells #[] 3) none).size m8)
      have O8b := Lib.hid o8
      clear r7b oEb o8 g8 m8 N8
      have HR2 := Lib.hid (RowN.of_own2 (S := DS b2 mb2 Gc) (by simpa using O8b.out) (fun g hg hs => by have := NVb.out g hg; have := HC.out.live g hs; omega))
      go_wp2_with fail
      refine (Crash_any b2 mb2 n2 Gc d1 ml v8b _ (HC.out.keep GXb.out) HR2.out).mono ?_
      rintro e w12 ⟨rfl, ts2, hN2, hl2, hE12⟩
      rw [HTW.out] at hE12
      obtain ⟨G12, h12, c12, x12⟩ := hE12
      have HDS : Hid (∀ i, DS b2 mb2 Gc i → w9.heap.size ≤ i) := by
        rintro i (y | y | ⟨t, y⟩)
        · rw [y]; exact HCB.out.1
        · rw [y]; exact HCB.out.2.1
        · exact HCB.out.2.2 t i y
      have HA := Lib.hid ((H9.out.keep (grow_none G10.out GXb.out)).chg c12 (fun i hi hs => by have := H9.out.live i hi; have := HDS.out i hs; omega))
      have HB2 := Lib.hid h12
      have GR12 := Lib.hid (((Chg.of_none (grow_none GR10.out GXb.out) (S := DS b2 mb2 Gc)).trans c12 (fun _ _ x => x)).none (fun i hi hs => by have := HDS.out i hs; have := GR9.out.size; omega))
      clear hN2 hl2 h12 c12 x12
      go_wp2_with fail
      refine (Names_any b mb n G9 d1 ⟨#[]⟩ _ HA.out).mono ?_
      rintro e w13 ⟨va, la, rfl, hla, hlan, hra, hna, g13⟩
      have HA13 := Lib.hid (HA.out.keep g13)
      have HB13 := Lib.hid (HB2.out.keep g13)
      have GR13 := Lib.hid (grow_none GR12.out g13)
      go_wp2_with fail
      refine (Names_any b2 mb2 n2 G12 d1 ⟨#[]⟩ _ HB13.out).mono ?_
      rintro e w14 ⟨vb, lb, rfl, hlb, hlbn, hrb, hnb, g14⟩
      have hsame : la = lb := by
        rcases hla with ⟨y, _⟩ | ⟨_, ts3, n3, e3⟩
        · rw [HDN.out] at y; cases y
        · rcases hlb with ⟨y, _⟩ | ⟨_, ts4, n4, e4⟩
          · rw [HDN.out] at y; cases y
          · rw [e3, e4, (n3.toF HA.out).one (n4.toF HB13.out)]
      have HLA : Hid (∀ x ∈ la, (d1.F (nm x)).isSome = true ∧ x.length ≤ maxLen) := by
        rcases hla with ⟨y, _⟩ | ⟨_, ts3, n3, e3⟩
        · rw [HDN.out] at y; cases y
        · intro x hx
          rw [e3] at hx
          have hm := (List.mem_filter.1 hx).1
          exact ⟨(Names.of HA.out n3 x).1 hm, n3.le x hm⟩
      subst hsame
      obtain ⟨A, hA⟩ : ∃ A, A = la.map nm := ⟨_, rfl⟩
      have hmap : la.map encStr = A.map Value.string := by rw [hA, List.map_map]; rfl
      rw [hmap] at hra hrb
      have RA := Lib.hid ((RowAt.of_own hra).kept g14)
      have RB := Lib.hid (RowAt.of_own hrb)
      have HAL : Hid (A.length ≤ 1000000) := by show _ ≤ _; rw [hA, List.length_map]; have := HA.out.n1; omega
      have HAA : Hid (∀ k, k < A.length → ∃ r, readR d1 (A.getD k ⟨#[]⟩) = (r, true) ∧ (A.getD k ⟨#[]⟩).size ≤ maxLen) := by
        intro k hk
        have hk' : k < la.length := by rw [hA, List.length_map] at hk; exact hk
        have e1 : A.getD k ⟨#[]⟩ = nm la[k] := by rw [hA]; simp [List.getD, List.getElem?_eq_getElem hk']
        rw [e1]
        obtain ⟨h1, h2⟩ := HLA.out la[k] (List.getElem_mem hk')
        obtain ⟨e, he⟩ := Option.isSome_iff_exists.1 h1
        exact ⟨e.l ++ e.w, by unfold readR; rw [if_neg (by rw [HDN.out]; simp), he], h2⟩
      have HA14 := Lib.hid (HA13.out.keep g14)
      have HB14 := Lib.hid (HB13.out.keep g14)
      have GR14 := Lib.hid (grow_none GR13.out g14)
      clear hla hlb hlan hlbn hra hrb hna hnb hA hmap g13 g14
      go_wp2_with fail
      refine (Same_any va vb A A w14 RA.out RB.out (by have := HAL.out; unfold maxLen; omega) (by have := HAL.out; unfold maxLen; omega)).mono ?_
      rintro e w15 ⟨rfl, g15⟩
      rw [decide_eq_true (rfl : A = A)]
      have RA15 := Lib.hid (RA.out.kept g15)
      have HA15 := Lib.hid (HA14.out.keep g15)
      have HB15 := Lib.hid (HB14.out.keep g15)
      have GR15 := Lib.hid (grow_none GR14.out g15)
      have hra := RA15.out
      obtain ⟨pa, ca, rfl⟩ := row_form hra
      have ial : (A.length : Int) ≤ 1000000 := by have := HAL.out; omega
      clear g15
      go_wp2_with fail
      go_loopw [70] (fun i wr => ∃ k : Nat, k ≤ A.length ∧ i = .int .i64 k ∧ w15.grownBy wr none) (fun i _ => A.length - (intOf i).toNat)
      case atStart => exact ⟨0, Nat.zero_le _, rfl, grow_refl _ _⟩
      case round =>
        obtain ⟨k, hk, rfl, hg⟩ := hrel
        by_cases hlt : k < A.length
        · obtain ⟨b1, o1, rfl, q1, _⟩ := row_string (hra.kept hg) rfl hlt
          obtain ⟨x, hx⟩ : ∃ x, x = A.getD k ⟨#[]⟩ := ⟨_, rfl⟩
          rw [← hx] at q1
          obtain ⟨r, hr, hxs⟩ := HAA.out k hlt
          rw [← hx] at hr hxs
          have i1 : (k : Int) < A.length := by omega
          have i0' : (0 : Int) ≤ k := by omega
          have HK := Lib.hid hlt
          have HG := Lib.hid hg
          have HRR := Lib.hid hr
          have HXS := Lib.hid hxs
          clear hr hxs hg hlt hk hx
          go_wp2_with fail
          refine (Read_any b mb n G9 d1 x wr (HA15.out.keep HG.out) HXS.out).mono ?_
          rintro e w16 ⟨rfl, g16⟩
          rw [HRR.out]
          have G16 := Lib.hid (grow_none HG.out g16)
          clear g16
          go_wp2_with fail
          refine (Read_any b2 mb2 n2 G12 d1 x w16 (HB15.out.keep G16.out) HXS.out).mono ?_
          rintro e w17 ⟨rfl, g17⟩
          rw [HRR.out]
          have G17 := Lib.hid (grow_none G16.out g17)
          clear g17
          go_wp2_with fail
          go_roundw
          case rel => exact ⟨k + 1, by have := HK.out; omega, by go_num, G17.out⟩
          case measure => have := HK.out; simp [intOf]; omega
        · obtain rfl : k = A.length := by omega
          have HG := Lib.hid hg
          clear hg
          go_wp2_with fail
          go_ret
          exact ⟨rfl, below_of_none (grow_none GR15.out HG.out)⟩
end Go.Proofs.Ytgfmmchmkfboaaa
