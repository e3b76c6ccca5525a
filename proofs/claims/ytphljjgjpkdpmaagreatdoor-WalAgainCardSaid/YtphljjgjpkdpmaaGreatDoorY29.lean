/- Several texts in one: WnAg. -/
import Derived.Test.YtphljjgjpkdpmaaGreatDoorY24
import Derived.Test.YtphljjgjpkdpmaaGreatDoorY28
/- The law WalAgain: its walk. -/
namespace Go.Proofs.YtphljjgjpkdpmaaGreatDoor
open Go.RowKit Go.Maps Go.Sort
set_option linter.unusedVariables false
theorem info_int09 : (Tryz.prog.info? 3).map (fun i => (i.zero, i.size, i.bytes)) = some (some (.int .i64 0), 1, 8) := by kernel_rfl
theorem ones_int (l : List Int) : ∀ u ∈ l.map (Value.int .i64), u.oneCell' = true := by
  intro u hu
  obtain ⟨n, _, rfl⟩ := List.mem_map.1 hu
  rfl
theorem RowN.overD {w w' : World} {db mb : Nat} {G G' : ByteArray → Option Nat} {v : Value} {xs : List Value} (h : RowN (DS db mb G) w v xs) (k : Chg (DS db mb G) w w') (f : ∀ s g, G' s = some g → (∃ t, G t = some g) ∨ w.heap.size ≤ g) : RowN (DS db mb G') w' v xs := by
  obtain ⟨a, cap, rfl, hc, h⟩ := h
  refine ⟨a, cap, rfl, hc, ?_⟩
  rcases h with h | ⟨b, off, rfl, hb, hn, h⟩
  · exact .inl h
  · refine .inr ⟨b, off, rfl, Nat.lt_of_lt_of_le hb k.size, fun hs => ?_, fun j hj => by rw [← h j hj]; exact World.cell?_of_block (k.block b hb hn)⟩
    rcases hs with y | y | ⟨t, y⟩
    · exact hn (.inl y)
    · exact hn (.inr (.inl y))
    · rcases f t b y with ⟨u, z⟩ | z
      · exact hn (.inr (.inr ⟨u, z⟩))
      · omega
theorem RowN.keep {w w' : World} {S : Nat → Prop} {v : Value} {xs : List Value} (h : RowN S w v xs) (g : w.grownBy w' none) : RowN S w' v xs := h.chg (Chg.of_none g)
theorem lo_overD {B : Nat} {w : World} {db mb : Nat} {G G' : ByteArray → Option Nat} (hl : ∀ i, DS db mb G i → B ≤ i) (hB : B ≤ w.heap.size) (f : ∀ s g, G' s = some g → (∃ t, G t = some g) ∨ w.heap.size ≤ g) : ∀ i, DS db mb G' i → B ≤ i := by
  intro i hi
  rcases hi with rfl | rfl | ⟨t, hi⟩
  · exact hl _ (.inl rfl)
  · exact hl _ (.inr (.inl rfl))
  · rcases f t i hi with ⟨u, y⟩ | y
    · exact hl _ (.inr (.inr ⟨u, y⟩))
    · exact Nat.le_trans hB y
set_option maxRecDepth 100000 in
set_option maxHeartbeats 20000000 in
theorem law_WalAgain (v : Value) (S : List Wo) {w : World} (hS : WScr w v S) (vk : Value) (ks : List Int) (hrk : RowAt w vk (ks.map (Value.int .i64))) (hkb : ∀ n ∈ ks, -9223372036854775808 ≤ n ∧ n ≤ 9223372036854775807) (hkl : ks.length ≤ maxLen) (hv : Va w.heap.size w) :
    Calls Tryz.prog 5 #[v, vk] w fun e w' => e = .returned (.bool true) ∧ Below w.heap.size w w' := by
  obtain ⟨i0, hi, hz0, hz1, hz2⟩ := info_parts info_int09
  obtain ⟨p, c, rfl⟩ := hS.read.len
  obtain ⟨a1, c1, rfl⟩ := hrk.len
  rw [List.length_map] at hrk ⊢
  have HV := Lib.hid hv
  have HS := Lib.hid hS
  have HRK := Lib.hid hrk
  have hkl' : (ks.length : Int) ≤ 9223372036854775807 := by unfold maxLen at hkl; omega
  have hsl' : (S.length : Int) ≤ 9223372036854775807 := by have := hS.len; unfold maxLen at this; omega
  clear hv hS hrk hkb hkl
  go_enter Tryz.func5, Tryz.ntmps5
  go_wp2_with fail
  refine (awake09_any w HV.out).mono ?_
  rintro e w1 ⟨rfl, g1⟩
  have G1 := Lib.hid g1
  clear g1
  go_wp2_with fail
  refine (great09_any _ S w1 (HS.out.keep G1.out).read HS.out.len (HS.out.keep G1.out).each).mono ?_
  rintro e w2 ⟨he, g2⟩
  have G2 := Lib.hid (grow_none G1.out g2)
  have AW := Lib.hid (awake09_any w2 ((HV.out.keep G2.out).mono G2.out.size))
  rcases he with rfl | ⟨rfl, hlen, hsm⟩
  · clear g2
    go_wp2_with fail
    refine AW.out.mono ?_
    rintro e w3 ⟨rfl, g3⟩
    have G3 := Lib.hid (grow_none G2.out g3)
    clear g3
    go_wp2
    go_ret
    exact ⟨rfl, below_of_none G3.out⟩
  have HLEN := Lib.hid hlen
  have HSM : Hid (∀ o ∈ S, ∀ ls ks, WoOk w o ls ks → WoSm o ls ks) := fun o ho ls ks h => hsm o ho ls ks (h.keep G1.out)
  clear hlen hsm g2
  by_cases hn : 1000 < ks.length
  · have i1 : (1000 : Int) < ks.length := by omega
    go_wp2_with fail
    refine AW.out.mono ?_
    rintro e w3 ⟨rfl, g3⟩
    have G3 := Lib.hid (grow_none G2.out g3)
    clear g3
    go_wp2
    go_ret
    exact ⟨rfl, below_of_none G3.out⟩
  have i1 : ¬ (1000 : Int) < ks.length := by omega
  have HKL := Lib.hid (show ks.length ≤ 1000 by omega)
  have V2 := Lib.hid (HV.out.keep G2.out)
  obtain ⟨B, hBB⟩ : ∃ B, B = w.heap.size := ⟨_, rfl⟩
  rw [← hBB] at V2
  have HBE := Lib.hid hBB
  have hs1 : (S.length : Int) ≤ 100 := by have := HLEN.out; omega
  clear hBB AW hn
  go_wp2_with fail
  refine (New_any w2).mono ?_
  rintro e w3 ⟨rfl, h3, g3⟩
  have V3 := Lib.hid (V2.out.keep g3)
  have B3 : Hid (B ≤ w2.heap.size) := by show B ≤ _; have := HBE.out; have := G2.out.size; omega
  have H3 := Lib.hid h3
  have G3 := Lib.hid (grow_none G2.out g3)
  have Z3 := Lib.hid g3.size
  obtain ⟨db, hdb⟩ : ∃ db, db = w2.heap.size + 1 := ⟨_, rfl⟩
  obtain ⟨mb, hmb⟩ : ∃ mb, mb = w2.heap.size := ⟨_, rfl⟩
  rw [← hdb, ← hmb] at H3
  rw [← hdb]
  have LO3 : Hid (∀ i, DS db mb (fun _ => none) i → B ≤ i) := by
    intro i hi
    have := B3.out
    rcases hi with rfl | rfl | ⟨s, hs⟩
    · omega
    · omega
    · cases hs
  clear h3 g3 hdb hmb
  go_wp2_with fail
  refine (Open_good H3.out V3.out LO3.out (Nat.le_trans B3.out Z3.out) Good.new (by decide)).mono ?_
  rintro e w4 ⟨v4, G4, rfl, o4, n4, f4, h4, c4, x4⟩
  have W4 := Lib.hid h4
  have E4 : Hid (Below B w w4) := by
    have := HBE.out
    subst this
    exact (below_of_none G3.out).trans (c4.below (Nat.le_trans B3.out Z3.out) LO3.out)
  obtain ⟨lb, hlb⟩ : ∃ lb, lb = w3.heap.size := ⟨_, rfl⟩
  rw [← hlb] at W4
  rw [← hlb]
  clear o4 n4 f4 h4 c4 x4 hlb
  go_wp2
  go_loopw [43] (fun i wr => ∃ (j n' : Nat) (G : ByteArray → Option Nat) (c : Lc) (d : Dk), j ≤ S.length ∧ i = .int .i64 j ∧ Wl B wr lb db mb n' G c d ∧ LcN c ∧ Nok d.F ∧ d.steps ≤ 200 * j ∧ n' ≤ j ∧ c.last ≤ j ∧ c.size ≤ 1000000 * j ∧ Below B w wr) (fun i _ => S.length - (intOf i).toNat)
  case atStart => exact ⟨0, 0, G4, ⟨0, 0, 0, false⟩, newD, Nat.zero_le _, rfl, W4.out, ⟨⟨fun h => h, fun h => h⟩, Nat.le_refl _⟩, fun s e he => (by cases he), Nat.le_refl _, Nat.le_refl _, Nat.le_refl _, Nat.le_refl _, E4.out⟩
  case round =>
    obtain ⟨j, n', G, c, d, hj, rfl, hW, hlc, hnok, hst, hn', hcl, hcz, hE⟩ := hrel
    have W := Lib.hid hW
    have HLC := Lib.hid hlc
    have NOK := Lib.hid hnok
    have HST := Lib.hid hst
    have HN' := Lib.hid hn'
    have HCL := Lib.hid hcl
    have HCZ := Lib.hid hcz
    have E := Lib.hid hE
    have GW : Hid (w.grownBy wr none) := by
      rw [HBE.out] at hE
      exact grow_of_below hE
    clear hW hlc hnok hst hn' hcl hcz hE
    by_cases hlt : j < S.length
    · obtain ⟨o, ho⟩ : ∃ o, o = S[j] := ⟨_, rfl⟩
      obtain ⟨g, off, rfl, hgl, r0, r1, r2, r3, r4, r5⟩ := wo_at (HS.out.keep GW.out).read rfl j hlt o (by rw [ho, List.getElem?_eq_getElem])
      have hmem : o ∈ S := by rw [ho]; exact List.getElem_mem hlt
      obtain ⟨ls, k2, hok⟩ := HS.out.each o hmem
      have HSMO := Lib.hid (HSM.out o hmem ls k2 hok)
      have HOK := Lib.hid (hok.keep GW.out)
      obtain ⟨am, cm, e'⟩ := rowLen hok.rl
      obtain ⟨an, cn, e7⟩ := rowLen hok.rk
      rw [List.length_map] at e' e7
      rw [e'] at r1
      rw [e7] at r5
      have HE' := Lib.hid e'
      have j1 : (j : Int) < S.length := by omega
      have j0 : (0 : Int) ≤ j := by omega
      have HJ := Lib.hid hlt
      have HNUM : Hid (o.num ≤ 9223372036854775807) := hok.nm.2
      clear ho hmem hok e' e7 hlt
      by_cases k1 : o.kind = 1
      · rw [k1] at r0
        clear k1
        go_wp2_with fail
        have gA : wr.grownBy (wr.alloc (.cells #[.int .i64 1, .slice am ls.length cm, .string o.text, .string o.name, .int .i64 o.num, .slice an k2.length cn] 37)) none := World.grownBy_alloc _ _ _
        have GA := Lib.hid gA
        have HRL := Lib.hid (HOK.out.rl.kept gA)
        rw [HE'.out] at HRL
        clear gA
        refine (own09_any _ ls _ HRL.out (by have := HSMO.out.2.2; have := HSMO.out.1; omega)).mono ?_
        rintro e w7 ⟨v7, rfl, o7, n7, g7⟩
        have G7 := Lib.hid (grow_none GA.out g7)
        have R7 := Lib.hid (RowAt.of_own o7)
        clear o7 n7 g7
        go_wp2_with fail
        refine (Append_gen _ (W.out.keep G7.out) HLC.out (by have := HCZ.out; have := HLEN.out; have := HJ.out; omega) R7.out (by have := HSMO.out.2.2; have := HSMO.out.1; omega) (fun s hs => by have := HSMO.out.2.1 s hs; omega) (by have := HCL.out; have := HLEN.out; have := HJ.out; omega) (by have := HST.out; have := HLEN.out; have := HJ.out; omega) (by have := HN'.out; have := HLEN.out; have := HJ.out; omega) NOK.out).mono ?_
        rintro e w8 ⟨⟨x, rfl⟩, n8, c8, d8, hn8, hE8, q1, q2, q3, q4, q5⟩
        obtain ⟨G8, W8, E8⟩ := (W.out.keep G7.out).go hE8
        have W8 := Lib.hid W8
        have E8 := Lib.hid (E.out.trans ((bel_none G7.out W.out.hb).trans E8))
        have Q := Lib.hid (show _ ∧ _ ∧ _ ∧ _ ∧ _ ∧ _ from ⟨hn8, q1, q2, q3, q4, q5⟩)
        clear hE8 hn8 q1 q2 q3 q4 q5
        go_wp2
        go_roundw
        case rel =>
          obtain ⟨q0, q1, q2, q3, q4, q5⟩ := Q.out
          exact ⟨j + 1, n8, G8, c8, d8, by have := HJ.out; omega, by go_num, W8.out, q5, q1, by have := HST.out; omega, by have := HN'.out; omega, by have := HCL.out; omega, by have := HCZ.out; omega, E8.out⟩
        case measure => have := HJ.out; simp [intOf]; omega
      by_cases k2' : o.kind = 2
      · rw [k2'] at r0
        clear k1 k2'
        go_wp2_with fail
        have gA : wr.grownBy (wr.alloc (.cells #[.int .i64 2, .slice am ls.length cm, .string o.text, .string o.name, .int .i64 o.num, .slice an k2.length cn] 37)) none := World.grownBy_alloc _ _ _
        have GA := Lib.hid gA
        clear gA
        refine (Lay_gen o.text (W.out.keep GA.out) HLC.out (by have := HCZ.out; have := HLEN.out; have := HJ.out; omega) (by have := HSMO.out.1; omega) (by have := HCL.out; have := HLEN.out; have := HJ.out; omega) (by have := HCL.out; have := HST.out; have := HLEN.out; have := HJ.out; omega) (by have := HN'.out; have := HLEN.out; have := HJ.out; omega) NOK.out).mono ?_
        rintro e w8 ⟨⟨x, rfl⟩, n8, c8, d8, hn8, hE8, q1, q2, q3, q4, q5⟩
        obtain ⟨G8, W8, E8⟩ := (W.out.keep GA.out).go hE8
        have W8 := Lib.hid W8
        have E8 := Lib.hid (E.out.trans ((bel_none GA.out W.out.hb).trans E8))
        have Q := Lib.hid (show _ ∧ _ ∧ _ ∧ _ ∧ _ ∧ _ from ⟨hn8, q1, q2, q3, q4, q5⟩)
        clear hE8 hn8 q1 q2 q3 q4 q5
        go_wp2
        go_roundw
        case rel =>
          obtain ⟨q0, q1, q2, q3, q4, q5⟩ := Q.out
          exact ⟨j + 1, n8, G8, c8, d8, by have := HJ.out; omega, by go_num, W8.out, q5, q1, by have := HST.out; have := HCL.out; have := HLEN.out; have := HJ.out; omega, by have := HN'.out; omega, by have := HCL.out; omega, by have := HCZ.out; omega, E8.out⟩
        case measure => have := HJ.out; simp [intOf]; omega
      by_cases k3 : o.kind = 3
      · rw [k3] at r0
        clear k1 k2' k3
        go_wp2_with fail
        have gA : wr.grownBy (wr.alloc (.cells #[.int .i64 3, .slice am ls.length cm, .string o.text, .string o.name, .int .i64 o.num, .slice an k2.length cn] 37)) none := World.grownBy_alloc _ _ _
        have GA := Lib.hid gA
        clear gA
        refine (Fuse_gen o.num (W.out.keep GA.out) HNUM.out).mono ?_
        rintro e w8 ⟨rfl, hE8⟩
        obtain ⟨G8, W8, E8⟩ := (W.out.keep GA.out).go hE8
        have W8 := Lib.hid W8
        have E8 := Lib.hid (E.out.trans ((bel_none GA.out W.out.hb).trans E8))
        clear hE8
        go_wp2
        go_roundw
        case rel => exact ⟨j + 1, n', G8, c, fuseD d o.num, by have := HJ.out; omega, by go_num, W8.out, HLC.out, NOK.out, by have := HST.out; show d.steps ≤ _; omega, by have := HN'.out; omega, by have := HCL.out; omega, by have := HCZ.out; omega, E8.out⟩
        case measure => have := HJ.out; simp [intOf]; omega
      · have e1 : (o.kind == 1) = false := by simpa using k1
        have e2 : (o.kind == 2) = false := by simpa using k2'
        have e3 : (o.kind == 3) = false := by simpa using k3
        have GA := Lib.hid (World.grownBy_alloc wr (.cells #[.int .i64 o.kind, .slice am ls.length cm, .string o.text, .string o.name, .int .i64 o.num, .slice an k2.length cn] 37) none)
        clear k1 k2' k3
        go_wp2
        go_roundw
        case rel => exact ⟨j + 1, n', G, c, d, by have := HJ.out; omega, by go_num, W.out.keep GA.out, HLC.out, NOK.out, by have := HST.out; omega, by have := HN'.out; omega, by have := HCL.out; omega, by have := HCZ.out; omega, E.out.trans (bel_none GA.out W.out.hb)⟩
        case measure => have := HJ.out; simp [intOf]; omega
    · obtain rfl : j = S.length := by omega
      have ST : Hid (d.steps ≤ 20000 ∧ n' ≤ 100) := by
        have h1 := HST.out
        have h2 := HN'.out
        have h3 := HLEN.out
        show _ ∧ _
        omega
      have RK := Lib.hid (HRK.out.kept GW.out)
      clear hj hlt
      go_wp2_with (at_builtin; refine wpList_append_row _ rfl _ _ 35 rfl 3 i0 (.int .i64 0) 8 Tryz.underlying35 hi hz0 hz1 hz2 rfl _ _ _ rfl (own_empty _ _ _) _ (ks.map (Value.int .i64)) rfl (RK.out.kept (World.grownBy_alloc _ _ _)) (ones_int ks) (by rw [List.length_map]; have := HKL.out; show _ ≤ 2^63-1; omega) (by rw [List.length_map]; have := HKL.out; omega) ?_)
      intro v5 w5 o5 g5 m5
      have N5 := Lib.hid (own_ints (ks := ks) (by simpa using o5) g5 m5)
      have W5 := Lib.hid (W.out.keep N5.out.2.1)
      have R5 : Hid (RowN (DS db mb G) w5 v5 (ints ks)) := RowN.of_new o5 N5.out.1 (fun i hi => W.out.wat.dr.live i hi)
      have E5 := Lib.hid (E.out.trans (bel_none N5.out.2.1 W.out.hb))
      clear o5 g5 m5
      go_wp2_with fail
      refine (Crash_any db mb n' G d ks v5 w5 W5.out.wat.dr R5.out).mono ?_
      rintro e w6 ⟨rfl, ts, hN, htn, hD⟩
      have HNF := Lib.hid (Names.toF W5.out.wat.dr hN)
      obtain ⟨G6, W6, E6⟩ := W5.out.go (WEnd.drive W5.out.wat hD)
      have W6 := Lib.hid W6
      have E6 := Lib.hid (E5.out.trans E6)
      clear hN htn hD
      go_wp2_with fail
      refine (Open_clean W6.out.wat.dr W6.out.va (fun i hi => W6.out.lo i (.inr hi)) W6.out.hb rfl rfl (NOK.out.crash ks ts) (crash_settled HNF.out) (by have := ST.out; show d.steps + n' < 900000; omega)).mono ?_
      rintro e w7 ⟨v7, c7, d7, base, recs, G7, hg7, hs7, hl7, rfl, hr7, hd7, hv7, ho7, hb7, hbel7⟩
      obtain ⟨a7, k7, rfl, hk7⟩ := hr7.form
      rw [List.length_map] at hr7 ⊢
      have HG7 := Lib.hid hg7
      have HL7 := Lib.hid hl7
      have HR7 := Lib.hid hr7
      have HD7 := Lib.hid hd7
      have HV7 := Lib.hid hv7
      have HO7 := Lib.hid ho7
      have HB7 := Lib.hid hb7
      have E7 := Lib.hid (E6.out.trans hbel7)
      have HS7 : Hid (d7.steps ≤ 30000) := by show _ ≤ _; have := ST.out.1; have h : d7.steps ≤ d.steps + 1000 := hs7; omega
      clear hg7 hs7 hl7 hr7 hd7 hv7 ho7 hb7 hbel7 hk7
      go_wp2_with fail
      refine (Steps_any db mb n' G7 d7 w7 HD7.out).mono ?_
      rintro e w8 ⟨rfl, rfl⟩
      go_wp2
      go_loopw [87] (fun i wr => ∃ (k : Nat) (G : ByteArray → Option Nat) (dd : Dk), k ≤ 2 ∧ i = .int .i64 k ∧ DAt wr db mb n' G dd ∧ Good dd c7 base recs ∧ dd.steps = d7.steps ∧ Va B wr ∧ (∀ i, DS db mb G i → B ≤ i) ∧ B ≤ wr.heap.size ∧ RowN (DS db mb G) wr (.slice a7 recs.length k7) (recs.map Value.string) ∧ Below B w wr) (fun i _ => 2 - (intOf i).toNat)
      case atStart => exact ⟨0, G7, d7, by omega, rfl, HD7.out, HG7.out, rfl, HV7.out, HO7.out, HB7.out, HR7.out, E7.out⟩
      case round =>
        obtain ⟨k, Gk, dk, hk, rfl, hdk, hgk, hsk, hvk, hok, hbk, hrk, hek⟩ := hrel
        have HDK := Lib.hid hdk
        have HGK := Lib.hid hgk
        have HSK := Lib.hid hsk
        have HVK := Lib.hid hvk
        have HOK := Lib.hid hok
        have HBK := Lib.hid hbk
        have HRR := Lib.hid hrk
        have HEK := Lib.hid hek
        clear hdk hgk hsk hvk hok hbk hrk hek
        by_cases hlt : k < 2
        · have k1 : (k : Int) < 2 := by omega
          have k0 : (0 : Int) ≤ k := by omega
          have HK := Lib.hid hlt
          clear hlt hk
          go_wp2_with fail
          refine (Open_good HDK.out HVK.out HOK.out HBK.out HGK.out (by have := HSK.out; have := HS7.out; have := ST.out; omega)).mono ?_
          rintro e w9 ⟨v9, G9, rfl, o9, n9, f9, h9, c9, x9⟩
          have R9 := Lib.hid (RowAt.of_own o9)
          have L9 := Lib.hid (HRR.out.overD c9 x9)
          have W9 := Lib.hid h9
          have E9 := Lib.hid (HEK.out.trans (c9.below HBK.out HOK.out))
          obtain ⟨a9, k9, rfl⟩ := own_form o9
          have HSM9 := Lib.hid (Same_any (.slice a9 recs.length k9) (.slice a7 recs.length k7) recs recs w9 R9.out L9.out.row HL7.out HL7.out)
          rw [decide_eq_true rfl] at HSM9
          have hbb : (base.toList == base.toList) = true := by simp
          clear o9 n9 f9 h9 c9 x9
          go_wp2_with fail
          refine HSM9.out.mono ?_
          rintro e w10 ⟨rfl, g10⟩
          have W10 := Lib.hid (W9.out.keep g10)
          have L10 := Lib.hid (L9.out.keep g10)
          have E10 := Lib.hid (E9.out.trans (bel_none g10 W9.out.hb))
          have HST10 := Lib.hid (Steps_any db mb n' G9 dk w10 W10.out.wat.dr)
          rw [HSK.out] at HST10
          clear g10
          go_wp2_with fail
          refine HST10.out.mono ?_
          rintro e w11 ⟨rfl, rfl⟩
          have GW10 : Hid (w.grownBy w10 none) := by
            have h := E10.out
            rw [HBE.out] at h
            exact grow_of_below h
          have RK10 := Lib.hid (HRK.out.kept GW10.out)
          go_wp2_with (at_builtin; refine wpList_append_row _ rfl _ _ 35 rfl 3 i0 (.int .i64 0) 8 Tryz.underlying35 hi hz0 hz1 hz2 rfl _ _ _ rfl (own_empty _ _ _) _ (ks.map (Value.int .i64)) rfl (RK10.out.kept (World.grownBy_alloc _ _ _)) (ones_int ks) (by rw [List.length_map]; have := HKL.out; show _ ≤ 2^63-1; omega) (by rw [List.length_map]; have := HKL.out; omega) ?_)
          intro v12 w12 o12 g12 m12
          have N12 := Lib.hid (own_ints (ks := ks) (by simpa using o12) g12 m12)
          have W12 := Lib.hid (W10.out.keep N12.out.2.1)
          have L12 := Lib.hid (L10.out.keep N12.out.2.1)
          have R12 : Hid (RowN (DS db mb G9) w12 v12 (ints ks)) := RowN.of_new o12 N12.out.1 (fun i hi => W10.out.wat.dr.live i hi)
          have E12 := Lib.hid (E10.out.trans (bel_none N12.out.2.1 W10.out.hb))
          clear o12 g12 m12
          go_wp2_with fail
          refine (Crash_any db mb n' G9 dk ks v12 w12 W12.out.wat.dr R12.out).mono ?_
          rintro e w13 ⟨rfl, ts2, hN2, htn2, G13, h13, c13, x13⟩
          have E13 := Lib.hid (E12.out.trans (c13.below W12.out.hb (fun i hi => W12.out.lo i (.inr hi))))
          have V13 := Lib.hid (W12.out.va.below (c13.below W12.out.hb (fun i hi => W12.out.lo i (.inr hi))))
          have L13 := Lib.hid (L12.out.overD c13 x13)
          have O13 := Lib.hid (lo_overD (fun i hi => W12.out.lo i (.inr hi)) W12.out.hb x13)
          have H13 := Lib.hid h13
          have B13 : Hid (B ≤ w13.heap.size) := Nat.le_trans W12.out.hb c13.size
          clear hN2 htn2 h13 c13 x13
          go_wp2
          go_roundw
          case rel => exact ⟨k + 1, G13, crashD dk ks ts2, by have := HK.out; omega, by go_num, H13.out, HGK.out.crash ks ts2, HSK.out, V13.out, O13.out, B13.out, L13.out, E13.out⟩
          case measure => have := HK.out; simp [intOf]; omega
        · obtain rfl : k = 2 := by omega
          clear hlt hk
          go_wp2
          go_ret
          exact ⟨rfl, by have h := HEK.out; rw [HBE.out] at h; exact h⟩
end Go.Proofs.YtphljjgjpkdpmaaGreatDoor
