/- The law DiskLasts: its walk. -/
import Derived.Test.YtgfmmchmkfboaaaDkP
import Derived.Test.YtgfmmchmkfboaaaOp9
namespace Go.Proofs.Ytgfmmchmkfboaaa
open Go.RowKit
set_option linter.unusedVariables false
theorem hI_end {d : Dk} {name sure : ByteArray} {there : Bool} {kl : List Int} (h : Inv d name sure there) (ts : List (List UInt8)) :
    there = false ∨ (there = true ∧ ∃ r, readR (crashD d kl ts) name = (r, true) ∧ sure.size ≤ r.size ∧ r.extract 0 sure.size = sure) := h.end kl ts
def Lst (L : List Oc) (name : ByteArray) (w0 w1 : World) (b mb : Nat) (sv tv i : Value) (wr : World) : Prop :=
  ∃ (j : Nat) (sure : ByteArray) (there : Bool) (n : Nat) (d : Dk), j ≤ L.length ∧ i = .int .i64 j ∧ sv = .string sure ∧ tv = .bool there ∧ n ≤ j ∧ d.steps ≤ j ∧ Inv d name sure there ∧ DEnd b mb (fun _ => none) n d w1 wr
set_option maxRecDepth 100000 in
set_option maxHeartbeats 8000000 in
theorem law_DiskLasts (v : Value) (L : List Oc) {w : World} (hS : Scr w v L) (name : ByteArray) (hname : name.size ≤ maxLen) (kv : Value) (kl : List Int) (hkr : RowAt w kv (kl.map (Value.int .i64))) (hkb : ∀ n ∈ kl, -9223372036854775808 ≤ n ∧ n ≤ 9223372036854775807) (hkm : kl.length ≤ maxLen) :
    Calls Try.prog 4 #[v, .string name, kv] w fun e w' => e = .returned (.bool true) ∧ Below w.heap.size w w' := by
  obtain ⟨p, c, rfl⟩ := hS.read.len
  obtain ⟨pk, ck, rfl⟩ := rowAt_len hkr
  rw [List.length_map]
  have hki : (kl.length : Int) ≤ 9223372036854775807 := by unfold maxLen at hkm; omega
  have hni : (name.size : Int) ≤ 9223372036854775807 := by unfold maxLen at hname; omega
  have HNM := Lib.hid hname
  rw [List.length_map] at hkr
  have HS := Lib.hid hS
  have HKR := Lib.hid hkr
  clear hS hkr hkb hkm hname
  obtain ⟨i0, hi, hz0, hz1, hz2⟩ := info_parts info_int05
  go_enter Try.func4, Try.ntmps4
  go_wp2_with fail
  refine (awake_any _).mono ?_
  rintro e w1 ⟨rfl, g1⟩
  have G1 := Lib.hid g1
  clear g1
  go_wp2_with fail
  refine (great_any _ L w1 (HS.out.keep G1.out).read HS.out.len (HS.out.keep G1.out).each).mono ?_
  rintro e w2 ⟨hg, g2⟩
  have G2 := Lib.hid (grow_none G1.out g2)
  clear g2
  rcases hg with rfl | ⟨rfl, hl200, hsm⟩
  · go_wp2_with fail
    refine (awake_any _).mono ?_
    rintro e w4 ⟨rfl, g4⟩
    have G4 := Lib.hid (grow_none G2.out g4)
    clear g4
    go_wp2_with fail
    go_ret
    exact ⟨rfl, below_of_none G4.out⟩
  by_cases hn200 : 200 < name.size
  · have d1 : decide ((200 : Int) < (name.size : Int)) = true := decide_eq_true (by omega)
    go_wp2_with fail
    refine (awake_any _).mono ?_
    rintro e w4 ⟨rfl, g4⟩
    have G4 := Lib.hid (grow_none G2.out g4)
    clear g4
    go_wp2_with fail
    go_ret
    exact ⟨rfl, below_of_none G4.out⟩
  have d1 : decide ((200 : Int) < (name.size : Int)) = false := decide_eq_false (by omega)
  by_cases hk1000 : 1000 < kl.length
  · have d2 : decide ((1000 : Int) < (kl.length : Int)) = true := decide_eq_true (by omega)
    go_wp2_with fail
    refine (awake_any _).mono ?_
    rintro e w4 ⟨rfl, g4⟩
    have G4 := Lib.hid (grow_none G2.out g4)
    clear g4
    go_wp2_with fail
    go_ret
    exact ⟨rfl, below_of_none G4.out⟩
  have d2 : decide ((1000 : Int) < (kl.length : Int)) = false := decide_eq_false (by omega)
  have HK1 := Lib.hid hk1000
  have HL := Lib.hid hl200
  have HSMA : Hid (∀ o ∈ L, ∀ ks, OcOk w o ks → OcSm o ks) := fun o ho ks hk => hsm o ho ks (hk.keep G1.out)
  clear hk1000 hn200 hsm
  go_wp2_with fail
  refine (New_any w2).mono ?_
  rintro e w3 ⟨rfl, h3, g3⟩
  obtain ⟨b, hb⟩ : ∃ b, b = w2.heap.size + 1 := ⟨_, rfl⟩
  obtain ⟨mb, hmb⟩ : ∃ mb, mb = w2.heap.size := ⟨_, rfl⟩
  rw [← hb, ← hmb] at h3
  rw [← hb]
  have HBB : Hid (w.heap.size ≤ b ∧ w.heap.size ≤ mb) := ⟨by have := G2.out.size; omega, by have := G2.out.size; omega⟩
  have G3 := Lib.hid (grow_none G2.out g3)
  have E3 := Lib.hid (DEnd.same h3 (grow_refl w3 none))
  clear h3 g3 hb hmb
  have il : (L.length : Int) ≤ 200 := by omega
  go_wp2_with fail
  go_loopw [8, 9, 36] (fun sv tv i wr => Lst L name w w3 b mb sv tv i wr) (fun _ _ i _ => L.length - (intOf i).toNat)
  case atStart => exact ⟨0, ⟨#[]⟩, false, 0, newD, Nat.zero_le _, rfl, rfl, rfl, Nat.le_refl _, Nat.le_refl _, (fun h => by cases h), E3.out⟩
  case round =>
    obtain ⟨j, sure, there, n, d, hj, rfl, rfl, rfl, hnj, hdj, hinv, hE⟩ := hrel
    have HE := Lib.hid hE
    have HNJ := Lib.hid (show _ ∧ _ ∧ _ from ⟨hj, hnj, hdj⟩)
    have HI := Lib.hid hinv
    have GR : Hid (w.grownBy wr none) := hE.fresh G3.out HBB.out.1 HBB.out.2
    clear hE hnj hdj hinv
    by_cases hlt : j < L.length
    · obtain ⟨o, ho⟩ : ∃ o, o = L[j] := ⟨_, rfl⟩
      obtain ⟨ks, hks⟩ := HS.out.each o (by rw [ho]; exact List.getElem_mem hlt)
      have hosm := HSMA.out o (by rw [ho]; exact List.getElem_mem hlt) ks hks
      obtain ⟨g, off, rfl, hgl, r0, r1, r2, r3, r4⟩ := oc_at (HS.out.keep GR.out).read rfl j hlt o (by rw [ho, List.getElem?_eq_getElem])
      clear ho
      obtain ⟨kd, nme, dta, num, kp⟩ := o
      obtain ⟨an, cn, en⟩ := rowAt_len hks.row
      rw [List.length_map] at en
      dsimp only at en r0 r1 r2 r3 r4
      subst en
      have HKS := Lib.hid hks
      have HOS := Lib.hid hosm
      have HLT := Lib.hid hlt
      have i1 : (j : Int) < L.length := by omega
      have i0' : (0 : Int) ≤ j := by omega
      clear hks hosm hlt
      have gA : wr.grownBy (wr.alloc (.cells #[.int .i64 kd, .string nme, .string dta, .int .i64 num, .slice an ks.length cn] 31)) none := World.grownBy_alloc _ _ _
      have HGA := Lib.hid gA
      have HBX := Lib.hid (Blk.new wr 31 [.int .i64 kd, .string nme, .string dta, .int .i64 num, .slice an ks.length cn])
      clear gA
      by_cases hk6 : kd < 6
      · have d6 : decide (6 ≤ kd) = false := decide_eq_false (by omega)
        have d6' : ¬ (6 ≤ kd) := by omega
        obtain ⟨GG, hD, x1, x2⟩ := HE.out
        have HD := Lib.hid (hD.keep HGA.out)
        have HDW := Lib.hid hD
        have X1 := Lib.hid x1
        have X2 := Lib.hid x2
        have HK6 := Lib.hid hk6
        clear hD x1 x2 hk6
        go_wp2_with fail
        refine (did_any b mb n GG d ⟨kd, nme, dta, num, .slice an ks.length cn⟩ ks _ HD.out (HKS.out.keep (grow_none GR.out HGA.out)) HOS.out.2.2 HK6.out (by have := HNJ.out; have := HL.out; omega) (by have := HNJ.out; have := HL.out; omega)).mono ?_
        rintro e w5 ⟨cc, d', n', rfl, hn', hdid, hE5⟩
        obtain ⟨G5, h5, c5, y5⟩ := hE5
        have hB5 := c5.blk HBX.out (fun hs => by have := HDW.out.live _ hs; omega)
        have q0 := hB5.cell 0 (by simp)
        have q1 := hB5.cell 1 (by simp)
        have H5 := Lib.hid h5
        have E5 : Hid (DEnd b mb (fun _ => none) n' d' w3 w5) := DEnd.after X1.out X2.out (DEnd.front HGA.out ⟨G5, h5, c5, y5⟩)
        have HDI := Lib.hid hdid
        have HB : Hid (j + 1 ≤ L.length ∧ n' ≤ j + 1 ∧ d'.steps ≤ j + 1) := by
          have := HNJ.out; have := HLT.out; have := did_steps hdid
          exact ⟨by omega, by omega, by omega⟩
        clear h5 c5 y5 hB5 hdid hn' X1 X2 HE
        by_cases h2 : kd = 2 ∧ nme = name ∧ cc = 0
        · obtain ⟨rfl, rfl, rfl⟩ := h2
          go_wp2_with fail
          refine (Read_any b mb n' G5 d' nme w5 H5.out HNM.out).mono ?_
          rintro e w6 ⟨rfl, g6⟩
          have E6 := Lib.hid (DEnd.back E5.out g6)
          have HI6 := Lib.hid (Inv.sync HDI.out ⟨rfl, rfl, rfl⟩)
          clear g6
          go_wp2_with fail
          go_roundw
          case rel => exact ⟨j + 1, _, _, n', d', HB.out.1, by go_num, rfl, rfl, HB.out.2.1, HB.out.2.2, HI6.out, E6.out⟩
          case measure => have := HLT.out; simp [intOf]; omega
        · by_cases h3 : kd = 3 ∧ nme = name ∧ cc = 0
          · obtain ⟨rfl, rfl, rfl⟩ := h3
            clear h2
            go_wp2_with fail
            go_roundw
            case rel => exact ⟨j + 1, _, _, n', d', HB.out.1, by go_num, rfl, rfl, HB.out.2.1, HB.out.2.2, (fun h => by cases h), E5.out⟩
            case measure => have := HLT.out; simp [intOf]; omega
          · have HI5 : Hid (Inv d' name sure there) := fun h => Firm.did HDI.out (HI.out h) h2 h3
            have H23 := Lib.hid (show _ ∧ _ from ⟨h2, h3⟩)
            clear h2 h3
            have key : (kd ≠ 2 ∧ kd ≠ 3) ∨ ((kd = 2 ∨ kd = 3) ∧ nme ≠ name) ∨ ((kd = 2 ∨ kd = 3) ∧ nme = name ∧ cc ≠ 0) := by
              have := H23.out
              by_cases a : nme = name
              · by_cases z : cc = 0
                · exact .inl ⟨fun y => this.1 ⟨y, a, z⟩, fun y => this.2 ⟨y, a, z⟩⟩
                · by_cases y : kd = 2 ∨ kd = 3
                  · exact .inr (.inr ⟨y, a, z⟩)
                  · exact .inl ⟨fun x => y (.inl x), fun x => y (.inr x)⟩
              · by_cases y : kd = 2 ∨ kd = 3
                · exact .inr (.inl ⟨y, a⟩)
                · exact .inl ⟨fun x => y (.inl x), fun x => y (.inr x)⟩
            rcases key with ⟨k2, k3⟩ | ⟨k23, hne⟩ | ⟨k23, rfl, hcn⟩
            · have e2 : (kd == 2) = false := by rw [beq_eq_false_iff_ne]; exact k2
              have e3 : (kd == 3) = false := by rw [beq_eq_false_iff_ne]; exact k3
              clear k2 k3
              go_wp2_with fail
              go_roundw
              case rel => exact ⟨j + 1, sure, there, n', d', HB.out.1, by go_num, rfl, rfl, HB.out.2.1, HB.out.2.2, HI5.out, E5.out⟩
              case measure => have := HLT.out; simp [intOf]; omega
            · have n1 : (nme.toList == name.toList) = false := by
                rw [beq_eq_false_iff_ne]
                intro e
                apply hne
                rw [ByteArray.toList_eq, ByteArray.toList_eq] at e
                exact bytes_inj e
              rcases k23 with rfl | rfl
              · go_wp2_with fail
                go_roundw
                case rel => exact ⟨j + 1, sure, there, n', d', HB.out.1, by go_num, rfl, rfl, HB.out.2.1, HB.out.2.2, HI5.out, E5.out⟩
                case measure => have := HLT.out; simp [intOf]; omega
              · go_wp2_with fail
                go_roundw
                case rel => exact ⟨j + 1, sure, there, n', d', HB.out.1, by go_num, rfl, rfl, HB.out.2.1, HB.out.2.2, HI5.out, E5.out⟩
                case measure => have := HLT.out; simp [intOf]; omega
            · have n1 : (cc == 0) = false := by rw [beq_eq_false_iff_ne]; exact hcn
              rcases k23 with rfl | rfl
              · go_wp2_with fail
                go_roundw
                case rel => exact ⟨j + 1, sure, there, n', d', HB.out.1, by go_num, rfl, rfl, HB.out.2.1, HB.out.2.2, HI5.out, E5.out⟩
                case measure => have := HLT.out; simp [intOf]; omega
              · go_wp2_with fail
                go_roundw
                case rel => exact ⟨j + 1, sure, there, n', d', HB.out.1, by go_num, rfl, rfl, HB.out.2.1, HB.out.2.2, HI5.out, E5.out⟩
                case measure => have := HLT.out; simp [intOf]; omega
      · have d6 : decide (6 ≤ kd) = true := decide_eq_true (by omega)
        go_wp2_with fail
        go_roundw
        case rel => exact ⟨j + 1, sure, there, n, d, by have := HLT.out; omega, by go_num, rfl, rfl, by have := HNJ.out; omega, by have := HNJ.out; omega, HI.out, DEnd.back HE.out HGA.out⟩
        case measure => have := HLT.out; simp [intOf]; omega
    · obtain rfl : j = L.length := by omega
      obtain ⟨GG, hD, x1, x2⟩ := HE.out
      have HD := Lib.hid hD
      have X1 := Lib.hid x1
      have X2 := Lib.hid x2
      have HI1 := Lib.hid (hI_end (kl := kl) HI.out)
      have r7 := HKR.out.kept (grow_none GR.out (World.grownBy_alloc wr (.cells #[] 3) none))
      have oE := own_empty wr 3 1
      clear hD x1 x2 hlt
      go_wp2_with (at_builtin; refine wpList_append_row _ rfl _ _ 29 rfl 3 i0 (.int .i64 0) 8 Try.underlying29 hi hz0 hz1 hz2 rfl (.slice (some ⟨wr.heap.size, 0, none⟩) 0 0) 0 [] rfl oE _ (kl.map (Value.int .i64)) rfl r7 (ones_int05 kl) (by rw [List.length_map]; have := HK1.out; show _ ≤ 2^63-1; omega) (by rw [List.length_map]; have := HK1.out; omega) ?_)
      intro v8 w8 o8 g8 m8
      have N8 := newblk_at wr wr.heap.size 0 0 (Nat.le_refl _) 0
      have GX : wr.grownBy w8 none := grow_newblk (World.grownBy_alloc wr (.cells #[] 3) none) N8 g8
      have NV : NewBlk wr v8 := N8.moved (World.grownBy_alloc wr (.cells #[] 3) none).size m8
      have H8 := Lib.hid (HD.out.keep GX)
      have HR := Lib.hid (RowN.of_own2 (S := DS b mb GG) (by simpa using o8) (fun g hg hs => by have := NV g hg; have := HD.out.live g hs; omega))
      have HGX := Lib.hid GX
      clear r7 oE o8 g8 m8 N8 GX NV
      go_wp2_with fail
      refine (Crash_any b mb n GG d kl v8 _ H8.out HR.out).mono ?_
      rintro e w9 ⟨rfl, ts, hN, hl, hE9⟩
      have E9 : Hid (DEnd b mb (fun _ => none) n (crashD d kl ts) w3 w9) := DEnd.after X1.out X2.out (DEnd.front HGX.out hE9)
      have HEND := Lib.hid (HI1.out ts)
      clear hN hl hE9
      obtain ⟨G9, h9, y1, y2⟩ := E9.out
      have H9 := Lib.hid h9
      clear h9 y1 y2
      go_wp2_with fail
      refine (Read_any b mb n G9 (crashD d kl ts) name w9 H9.out HNM.out).mono ?_
      rintro e w10 ⟨rfl, g10⟩
      have E10 := Lib.hid (DEnd.back E9.out g10)
      have H10 := Lib.hid (H9.out.keep g10)
      clear g10
      go_wp2_with fail
      refine (Down_any b mb n G9 (crashD d kl ts) w10 H10.out).mono ?_
      rintro e w11 ⟨rfl, rfl⟩
      rw [show (crashD d kl ts).down = false from rfl]
      rcases HEND.out with rfl | ⟨rfl, r, hr, hr1, hr2⟩
      · go_wp2_with fail
        go_ret
        exact ⟨rfl, below_of_none (E10.out.fresh G3.out HBB.out.1 HBB.out.2)⟩
      · rw [hr]
        have k1 : decide ((sure.size : Int) ≤ (r.size : Int)) = true := decide_eq_true (by omega)
        have k2 : (sure.size : Int) ≤ (r.size : Int) := by omega
        have k0 : (0 : Int) ≤ (sure.size : Int) := by omega
        have kr : r.size ≤ maxLen ∨ True := .inr trivial
        clear hr kr
        go_wp2_with fail
        go_ret
        exact ⟨rfl, below_of_none (E10.out.fresh G3.out HBB.out.1 HBB.out.2)⟩
end Go.Proofs.Ytgfmmchmkfboaaa
