/- The law DiskPlays: its walk. -/
import Derived.Test.YtgfmmchmkfboaaaRdT
import Derived.Test.YtgfmmchmkfboaaaOp9
namespace Go.Proofs.Ytgfmmchmkfboaaa
open Go.RowKit
set_option linter.unusedVariables false
def Pln (L : List Oc) (w : World) (c : Nat) (p i : Value) (wr : World) : Prop :=
  ∃ (j b mb n : Nat) (G : ByteArray → Option Nat) (d : Dk) (v : Value) (r : Rk), j ≤ L.length ∧ i = .int .i64 j ∧ p = .pointer (some ⟨b, 0, none⟩) ∧ n ≤ j ∧ d.steps ≤ j ∧ r.L.length ≤ j ∧ Both w wr b mb n G d c v r ∧ Cor d r
set_option maxRecDepth 100000 in
set_option maxHeartbeats 8000000 in
theorem law_DiskPlays (v : Value) (L : List Oc) {w : World} (hS : Scr w v L) (name : ByteArray) (hnm : name.size ≤ maxLen) :
    Calls Try.prog 3 #[v, .string name] w fun e w' => e = .returned (.bool true) ∧ Below w.heap.size w w' := by
  obtain ⟨p, c, rfl⟩ := hS.read.len
  have hni : (name.size : Int) ≤ 9223372036854775807 := by unfold maxLen at hnm; omega
  have HS := Lib.hid hS
  have HNM := Lib.hid hnm
  clear hS hnm
  go_enter Try.func3, Try.ntmps3
  go_wp2_with fail
  refine (awake_any _).mono ?_
  rintro e w1 ⟨rfl, g1⟩
  have G1 := Lib.hid g1
  clear g1
  go_wp2_with fail
  refine (great_any _ L w1 (HS.out.keep G1.out).read HS.out.len (HS.out.keep G1.out).each).mono ?_
  rintro e w2 ⟨hg, g2⟩
  have G2 := Lib.hid (grow_none G1.out g2)
  clear g2
  rcases hg with rfl | ⟨rfl, hl200, hsm⟩
  · go_wp2_with fail
    refine (awake_any _).mono ?_
    rintro e w4 ⟨rfl, g4⟩
    have G4 := Lib.hid (grow_none G2.out g4)
    clear g4
    go_wp2_with fail
    go_ret
    exact ⟨rfl, below_of_none G4.out⟩
  by_cases hk200 : 200 < name.size
  · have d2 : decide ((200 : Int) < (name.size : Int)) = true := decide_eq_true (by omega)
    go_wp2_with fail
    refine (awake_any _).mono ?_
    rintro e w4 ⟨rfl, g4⟩
    have G4 := Lib.hid (grow_none G2.out g4)
    clear g4
    go_wp2_with fail
    go_ret
    exact ⟨rfl, below_of_none G4.out⟩
  have d2 : decide ((200 : Int) < (name.size : Int)) = false := decide_eq_false (by omega)
  have HL := Lib.hid hl200
  have HSMA : Hid (∀ o ∈ L, ∀ ks, OcOk w o ks → OcSm o ks) := fun o ho ks hk => hsm o ho ks (hk.keep G1.out)
  clear hk200 hsm
  go_wp2_with fail
  refine (New_any w2).mono ?_
  rintro e w3 ⟨rfl, h3, g3⟩
  have H3 := Lib.hid h3
  have G3 := Lib.hid (grow_none G2.out g3)
  have S3 := Lib.hid g3.size
  clear h3 g3
  go_wp2_with fail
  refine (refNew_any w3).mono ?_
  rintro e w4 ⟨rfl, r4, g4⟩
  have HB4 : Hid (Both w w4 (w2.heap.size + 1) w2.heap.size 0 (fun _ => none) newD w3.heap.size (.slice none 0 0) noD) := by
    refine ⟨H3.out.keep g4, r4, ?_, ?_, ?_, grow_none G3.out g4⟩
    · rintro i (x | x | ⟨s, x⟩) (y | y)
      · have := H3.out.lt; omega
      · cases y
      · have := H3.out.lt; omega
      · cases y
      · cases x
      · cases x
    · rintro i (x | x | ⟨s, x⟩)
      · have := G2.out.size; omega
      · have := G2.out.size; omega
      · cases x
    · rintro i (y | y)
      · have := G3.out.size; omega
      · cases y
  obtain ⟨cc, hcc⟩ : ∃ cc, cc = w3.heap.size := ⟨_, rfl⟩
  rw [← hcc] at HB4
  rw [← hcc]
  clear r4 g4 hcc
  have il : (L.length : Int) ≤ 200 := by omega
  go_wp2_with fail
  go_loopw [5, 31] (fun pp i wr => Pln L w cc pp i wr) (fun _ i _ => L.length - (intOf i).toNat)
  case atStart => exact ⟨0, _, _, 0, _, newD, _, noD, Nat.zero_le _, rfl, rfl, Nat.le_refl _, Nat.le_refl _, Nat.le_refl _, HB4.out, Cor.new⟩
  case round =>
    obtain ⟨j, b, mb, n, GG, d, vv, r, hj, rfl, rfl, hnj, hdj, hrj, hB, hC⟩ := hrel
    have HB := Lib.hid hB
    have HC := Lib.hid hC
    have HNJ := Lib.hid (show _ ∧ _ ∧ _ ∧ _ from ⟨hj, hnj, hdj, hrj⟩)
    clear hB hC hnj hdj hrj
    by_cases hlt : j < L.length
    · obtain ⟨o, ho⟩ : ∃ o, o = L[j] := ⟨_, rfl⟩
      obtain ⟨ks, hks⟩ := HS.out.each o (by rw [ho]; exact List.getElem_mem hlt)
      have hosm := HSMA.out o (by rw [ho]; exact List.getElem_mem hlt) ks hks
      obtain ⟨g, off, rfl, hgl, r0, r1, r2, r3, r4⟩ := oc_at (HS.out.keep HB.out.g).read rfl j hlt o (by rw [ho, List.getElem?_eq_getElem])
      clear ho
      obtain ⟨kd, nme, dta, num, kp⟩ := o
      obtain ⟨an, cn, en⟩ := rowAt_len hks.row
      rw [List.length_map] at en
      dsimp only at en r0 r1 r2 r3 r4
      subst en
      have HKS := Lib.hid hks
      have HOS := Lib.hid hosm
      have HLT := Lib.hid hlt
      have i1 : (j : Int) < L.length := by omega
      have i0' : (0 : Int) ≤ j := by omega
      clear hks hosm hlt
      have HGA := Lib.hid (show wr.grownBy (wr.alloc (.cells #[.int .i64 kd, .string nme, .string dta, .int .i64 num, .slice an ks.length cn] 31)) none from World.grownBy_alloc _ _ _)
      have HBA := Lib.hid (HB.out.keep HGA.out)
      have bA : Blk (wr.alloc (.cells #[.int .i64 kd, .string nme, .string dta, .int .i64 num, .slice an ks.length cn] 31)) wr.heap.size 31 [.int .i64 kd, .string nme, .string dta, .int .i64 num, .slice an ks.length cn] := Blk.new wr 31 [.int .i64 kd, .string nme, .string dta, .int .i64 num, .slice an ks.length cn]
      have hcp := HBA.out.sep
      obtain ⟨n0, hn0⟩ : ∃ n0, n0 = wr.heap.size := ⟨_, rfl⟩
      have BA := Lib.hid bA
      have HN0 := Lib.hid hn0
      clear bA hcp hn0
      go_wp2_with fail
      refine (didAll_any HBA.out HC.out ⟨kd, nme, dta, num, .slice an ks.length cn⟩ ks (HKS.out.keep (grow_none HB.out.g HGA.out)) HOS.out.2.2 (by have := HNJ.out; have := HL.out; omega) (by have := HNJ.out; have := HL.out; omega)).mono ?_
      rintro e w5 ⟨b5, mb5, n5, G5, d5, rfl, hn5, hs5, hB5, hC5, hX5⟩
      have b5' : Blk w5 n0 31 [.int .i64 kd, .string nme, .string dta, .int .i64 num, .slice an ks.length cn] := by
        have h1 := BA.out
        rw [← HN0.out] at h1
        exact hX5.blk h1 (fun hs => by have := HB.out.D.live n0 hs; have := HN0.out; omega)
      have HB5 := Lib.hid hB5
      have HC5 := Lib.hid hC5
      have H55 := Lib.hid (show _ ∧ _ from ⟨hn5, hs5⟩)
      obtain ⟨cw, hcw⟩ : ∃ cw, cw = wantC r ⟨kd, nme, dta, num, .slice an ks.length cn⟩ := ⟨_, rfl⟩
      have HCW := Lib.hid hcw
      rw [← hcw, ← HN0.out]
      have x0 := b5'.cell 0 (by simp)
      have x1 := b5'.cell 1 (by simp)
      have x2 := b5'.cell 2 (by simp)
      have x3 := b5'.cell 3 (by simp)
      have x4 := b5'.cell 4 (by simp)
      clear hn5 hs5 hB5 hC5 hX5 b5' hcw
      go_wp2_with fail
      refine (want_any cc vv r ⟨kd, nme, dta, num, .slice an ks.length cn⟩ ks w5 HB5.out.R (HKS.out.keep HB5.out.g) (by have := HC.out.cnt; have := HNJ.out; have := HL.out; omega) (by have := HNJ.out; have := HL.out; omega)).mono ?_
      rintro e w6 ⟨rfl, hE6⟩
      rw [← HCW.out]
      obtain ⟨v6, hB6⟩ := HB5.out.want hE6
      have HB6 := Lib.hid hB6
      clear hE6 hB6 x0 x1 x2 x3 x4
      go_wp2_with fail
      refine (alike_any b5 mb5 n5 G5 d5 cc v6 _ w6 HB6.out.D HB6.out.R HC5.out).mono ?_
      rintro e w7 ⟨rfl, g7⟩
      have HB7 := Lib.hid (HB6.out.keep g7)
      clear g7
      go_wp2_with fail
      refine (Names_any b5 mb5 n5 G5 d5 name w7 HB7.out.D).mono ?_
      rintro e w8 ⟨va, la, rfl, hla, hlan, hra, hna, g8⟩
      have HLA := Lib.hid (HC5.out.namesP HB7.out.D hla)
      have HB8 := Lib.hid (HB7.out.keep g8)
      have HLN : Hid (la.length ≤ 1000000) := by have := HB7.out.D.n1; show _ ≤ _; omega
      clear hla hlan hna g8
      obtain ⟨A, hA⟩ : ∃ A, A = la.map nm := ⟨_, rfl⟩
      have hmap : la.map encStr = A.map Value.string := by rw [hA, List.map_map]; rfl
      rw [hmap] at hra
      have RA := Lib.hid (RowAt.of_own hra)
      have HA := Lib.hid hA
      have HM := Lib.hid hmap
      have HAL : Hid (A.length ≤ maxLen) := by have := HLN.out; show _ ≤ _; rw [hA, List.length_map]; unfold maxLen; omega
      clear hmap hra hA
      go_wp2_with fail
      refine (refNames_any cc v6 _ name w8 HB8.out.R HNM.out).mono ?_
      rintro e w9 ⟨vb, lb, rfl, hlb, hlbn, hrb, hnb, g9⟩
      have hmb : lb.map encStr = A.map Value.string := by
        have : lb = la := by rw [hlb, HLA.out]
        rw [this, HM.out]
      rw [hmb] at hrb
      have RB := Lib.hid (RowAt.of_own hrb)
      have RA9 := Lib.hid (RA.out.kept g9)
      have HB9 := Lib.hid (HB8.out.keep g9)
      clear hlb hlbn hrb hnb g9 hmb
      go_wp2_with fail
      refine (Same_any va vb A A w9 RA9.out RB.out HAL.out HAL.out).mono ?_
      rintro e w10 ⟨rfl, g10⟩
      rw [decide_eq_true (rfl : A = A)]
      have HB10 := Lib.hid (HB9.out.keep g10)
      clear g10
      go_wp2_with fail
      refine (Read_any b5 mb5 n5 G5 d5 name w10 HB10.out.D HNM.out).mono ?_
      rintro e w11 ⟨rfl, g11⟩
      obtain ⟨rs, rb, hrd⟩ : ∃ rs rb, readR d5 name = (rs, rb) := ⟨_, _, rfl⟩
      have HRD := Lib.hid hrd
      rw [hrd]
      have HB11 := Lib.hid (HB10.out.keep g11)
      clear g11 hrd
      go_wp2_with fail
      refine (refRead_any cc v6 _ name w11 HB11.out.R).mono ?_
      rintro e w12 ⟨rfl, g12⟩
      rw [HC5.out.readR name, HRD.out]
      have HB12 := Lib.hid (HB11.out.keep g12)
      have HLW := Lib.hid (wantD_len r ⟨kd, nme, dta, num, .slice an ks.length cn⟩ ks)
      clear g12
      go_wp2_with fail
      go_roundw
      case rel => exact ⟨j + 1, b5, mb5, n5, G5, d5, v6, _, by have := HLT.out; omega, by go_num, rfl, by have := HNJ.out; have := H55.out; omega, by have := HNJ.out; have := H55.out; omega, by have := HNJ.out; have := HLW.out; omega, HB12.out, HC5.out⟩
      case measure => have := HLT.out; simp [intOf]; omega
    · obtain rfl : j = L.length := by omega
      go_wp2_with fail
      go_ret
      exact ⟨rfl, below_of_none HB.out.g⟩
end Go.Proofs.Ytgfmmchmkfboaaa
