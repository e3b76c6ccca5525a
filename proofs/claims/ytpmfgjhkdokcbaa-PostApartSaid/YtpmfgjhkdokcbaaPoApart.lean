/- The law PostApart: its walk. -/
import Derived.Test.YtpmfgjhkdokcbaaPoPlays
namespace Go.Proofs.Ytpmfgjhkdokcbaa
open Go.RowKit
set_option linter.unusedVariables false
theorem TwoMine.copy {w0 w1 w2 : World} {g h m : Nat} {v u : Value} {L : List Lt} (p1 : PAt 58 w1 g v L m) (hg : w0.heap.size ≤ g) (nv : NewBlk w0 v) (g1 : w0.grownBy w1 none) (p2 : PAt 48 w2 h u L m) (hh : w1.heap.size ≤ h) (nu : NewBlk w1 u) (g2 : w1.grownBy w2 none) :
    TwoMine w0 w2 g v h u L m := by
  have hlt := p1.lt
  refine ⟨⟨p1.keep g2, p2, by omega, fun e => ?_, fun e => ?_, fun x hx hx' => ?_⟩, hg, Nat.le_trans g1.size hh, nv, fun x hx => Nat.le_trans g1.size (nu x hx), grow_none g1 g2⟩
  · have := p1.own.lt e; omega
  · have := nu g e; omega
  · have := p1.own.lt hx; have := nu x hx'; omega
/-- The document's copy is laid. -/
def Laid (w1 : World) (L : List Lt) (m : Nat) (e : Value) (w2 : World) : Prop := ∃ h u, e = .pointer (some ⟨h, 0, none⟩) ∧ PAt 48 w2 h u L m ∧ w1.heap.size ≤ h ∧ NewBlk w1 u ∧ w1.grownBy w2 none
set_option maxRecDepth 100000 in
set_option maxHeartbeats 8000000 in
theorem law_PostApart (most : Int) (hmost : -9223372036854775808 ≤ most ∧ most ≤ 9223372036854775807) (v : Value) (S : List Cl) {w : World} (hs : Scr w v S) (v' : Value) (S' : List Cl) (hs' : Scr w v' S') :
    Calls Try.prog 5 #[.int .i64 most, v, v'] w fun e w' => e = .returned (.bool true) ∧ Below w.heap.size w w' := by
  obtain ⟨i0, hi, hz0, hz1, hz2⟩ := info_parts info_lt
  obtain ⟨av, cv, rfl⟩ := hs.read.len
  obtain ⟨av', cv', rfl⟩ := hs'.read.len
  have il : (S.length : Int) ≤ 9223372036854775807 := by have := hs.len; unfold maxLen at this; omega
  have il' : (S'.length : Int) ≤ 9223372036854775807 := by have := hs'.len; unfold maxLen at this; omega
  have HS := Lib.hid hs
  have HS' := Lib.hid hs'
  clear hs hs'
  go_enter Try.func5, Try.ntmps5
  go_wp2_with fail
  refine (New_any most w).mono ?_
  rintro e w1 hN
  rcases hN with ⟨hm, rfl, p1, g1⟩ | ⟨hm, rfl, g1⟩
  · have P1 := Lib.hid p1
    have G1 := Lib.hid g1
    have HM := Lib.hid hm
    clear p1 g1 hm
    go_wp2_with fail
    refine (refNew_any most w1).mono ?_
    rintro e w2 hN
    rcases hN with ⟨_, rfl, p2, g2⟩ | ⟨hb, _, _⟩
    · have T2 := Lib.hid (TwoMine.new P1.out G1.out p2 g2)
      obtain ⟨m, hmn⟩ : ∃ m, m = most.toNat := ⟨_, rfl⟩
      rw [← hmn] at T2
      clear p2 g2 P1 G1 hmn
      go_wp2_with fail
      refine (awake06_any w2).mono ?_
      rintro e w3 ⟨rfl, g3⟩
      have T3 := Lib.hid (T2.out.keep g3)
      clear T2 g3
      go_wp2_with fail
      refine (great_any _ S w3 (HS.out.keep T3.out.grown).read HS.out.len (HS.out.keep T3.out.grown).each).mono ?_
      rintro e w4 ⟨hg, g4⟩
      have T4 := Lib.hid (T3.out.keep g4)
      rcases hg with rfl | ⟨rfl, hl4, hn4⟩
      · clear T3 g4
        go_wp2_with fail
        refine (awake06_any w4).mono ?_
        rintro e w5 ⟨rfl, g5⟩
        go_wp2_with fail
        go_ret
        exact ⟨rfl, below_of_none (grow_none T4.out.grown g5)⟩
      · have HN4 : Hid (∀ o ∈ S, ∀ ns, ClOk w o ns → ns.length ≤ 2000) := fun o ho ns h => hn4 o ho ns (h.keep T3.out.grown)
        have i2 : (S.length : Int) ≤ 2000 := by omega
        clear T3 g4 hn4
        go_wp2_with fail
        refine (great_any _ S' w4 (HS'.out.keep T4.out.grown).read HS'.out.len (HS'.out.keep T4.out.grown).each).mono ?_
        rintro e w5 ⟨hg, g5⟩
        have T5 := Lib.hid (T4.out.keep g5)
        rcases hg with rfl | ⟨rfl, hl5, hn5⟩
        · clear T4 g5
          go_wp2_with fail
          refine (awake06_any w5).mono ?_
          rintro e w6 ⟨rfl, g6⟩
          go_wp2_with fail
          go_ret
          exact ⟨rfl, below_of_none (grow_none T5.out.grown g6)⟩
        · have HN5 : Hid (∀ o ∈ S', ∀ ns, ClOk w o ns → ns.length ≤ 2000) := fun o ho ns h => hn5 o ho ns (h.keep T4.out.grown)
          have i3 : (S'.length : Int) ≤ 2000 := by omega
          clear T4 g5 hn5
          go_wp2_with fail
          go_loopw [44] (fun i wr => ∃ (k : Nat) (v1 v2 : Value) (L : List Lt), k ≤ S.length ∧ i = .int .i64 k ∧ TwoMine w wr w.heap.size v1 w1.heap.size v2 L m) (fun i _ => S.length - (intOf i).toNat)
          case atStart => exact ⟨0, _, _, _, Nat.zero_le _, rfl, T5.out⟩
          case round =>
            obtain ⟨k, v1, v2, L, hk, rfl, hT⟩ := hrel
            have HT := Lib.hid hT
            clear hT T5
            have k0 : (0 : Int) ≤ k := by omega
            have k1 : (k : Int) ≤ 2000 := by omega
            by_cases hlt : k < S.length
            · have i1 : (k : Int) < S.length := by omega
              obtain ⟨o, ho⟩ : ∃ o, o = S[k] := ⟨_, rfl⟩
              have hoS : S[k]? = some o := by rw [ho, List.getElem?_eq_getElem]
              obtain ⟨ns, hok⟩ := HS.out.each o (by rw [ho]; exact List.getElem_mem hlt)
              have HNL : Hid (ns.length ≤ 2000) := HN4.out o (by rw [ho]; exact List.getElem_mem hlt) ns hok
              clear ho
              obtain ⟨kd, kk, l, n⟩ := o
              obtain ⟨an, cn, en⟩ := hok.1.len
              rw [List.length_map] at en
              dsimp only at en
              subst en
              obtain ⟨g, off, rfl, hgl, r0, r1, r2, r3, r4, r5⟩ := cl_at (HS.out.keep HT.out.grown).read rfl k hlt _ hoS
              dsimp only at r0 r1 r2 r3 r4 r5
              have HOK := Lib.hid hok
              have T6 := Lib.hid (HT.out.keep (World.grownBy_alloc wr (.cells #[.int .i64 kd, .int .i64 kk, .int .i64 l.f, .int .i64 l.t, .string l.d, .slice an ns.length cn] 36) none))
              clear hoS hok
              go_wp2_with fail
              refine (done_mine T6.out ⟨kd, kk, l, .slice an ns.length cn⟩ ns HOK.out HNL.out).mono ?_
              rintro e w7 ⟨rfl, L', v1', v2', t7⟩
              have T7 := Lib.hid t7
              clear t7 T6
              go_wp2_with fail
              go_roundw
              case rel => exact ⟨k + 1, v1', v2', L', by omega, by go_num, T7.out⟩
              case measure => simp [intOf]; omega
            · obtain rfl : k = S.length := by omega
              clear HN4
              obtain ⟨b1, hb1⟩ : ∃ b, b = w.heap.size := ⟨_, rfl⟩
              go_wp2_with fail
              refine (Copy_any w.heap.size v1 L m _ HT.out.two.p1).mono ?_
              rintro e w7 ⟨g, vc, rfl, pc, hgc, nvc, g7⟩
              have PC := Lib.hid pc
              have NVC := Lib.hid nvc
              have G7 := Lib.hid g7
              have T7 := Lib.hid (HT.out.keep g7)
              have hmm := pc.most
              have hml := pc.len
              obtain ⟨p2', c2', hv2⟩ := T7.out.two.p2.form
              have d0 := T7.out.two.p2.c0
              have d1 := T7.out.two.p2.c1
              have hn2 := T7.out.two.p2.own.read
              rw [hv2] at d0
              have HV2 := Lib.hid hv2
              have hb7 := T7.out.two.p2.lt
              have X7 := w7.grownBy_alloc (.cells #[] 33) none
              have d1' := (T7.out.two.p2.keep X7).c1
              have rA : ReadK Lt.cells 3 (w7.drew.alloc (.cells #[] 33)) (.slice p2' L.length c2') L := by rw [← hv2]; exact hn2.kept (grow_drawn (World.grownBy_alloc w7 (.cells #[] 33) none))
              have oE : OwnK Lt.cells 3 33 (w7.drew.alloc (.cells #[] 33)) (.slice (some ⟨w7.heap.size, 0, none⟩) 0 0) [] := OwnK.empty _ w7.drew
              have RA := Lib.hid rA
              have OE := Lib.hid oE
              have P2K := Lib.hid T7.out.two.p2
              clear pc nvc g7 hv2 hn2 rA oE X7 d1'
              go_wp2_with fail
              go_upto_region 11 with (fail)
              go_cut [14] (fun u wx => Laid w7 L m u wx)
              case first =>
                go_region_law (((with_reducible show (if Region.wanted (Oper.mk _ (Op.call { callee := .builtin .append, args := _, argTypes := _ }) _ _ _ _) _ = true then _ else _)); refine step_append_k (.tmp 55) (.tmp 59) 40 (by with_reducible rfl) 33 i0 _ 32 Lt.len Lt.ones (by omega) Try.underlying40 hi hz0 hz1 hz2 rfl _ rfl OE.out _ rfl RA.out (by show 0 + _ ≤ 2^63-1; omega) (by show (0 + _) * 32 ≤ _; omega) rfl ?_; intro v8 w8 o8 g8 m8; have N8 := Lib.hid ((newblk_at w7 w7.heap.size 0 0 (Nat.le_refl _) 0).moved (grow_drawn (World.grownBy_alloc w7 (.cells #[] 33) none)).size m8); have X8 := Lib.hid (grow_newblk (grow_drawn (World.grownBy_alloc w7 (.cells #[] 33) none)) (newblk_at w7 w7.heap.size 0 0 (Nat.le_refl _) 0) g8); have O8 := Lib.hid o8; obtain ⟨a8, c8', rfl⟩ := o8.read.len; have d8 := (P2K.out.keep X8.out).c1; clear g8 m8 o8))
                all_goals
                  go_wp2
                  go_meet
                  refine ⟨w8.heap.size, _, rfl, ⟨Blk.new w8 48 [.slice a8 L.length c8', .int .i64 (m : Int)], O8.out.keep (World.grownBy_alloc _ _ _), fun e => ?_, hml, hmm⟩, X8.out.size, N8.out, grow_none X8.out (World.grownBy_alloc _ _ _)⟩
                  have := O8.out.lt e; omega
              case rest =>
                obtain ⟨h, uc, rfl, pu, hh, nuc, g8⟩ := hcut
                have TC := Lib.hid (TwoMine.copy PC.out hgc NVC.out G7.out pu hh nuc g8)
                have TW := Lib.hid HT.out.two
                have GW := Lib.hid HT.out.grown
                clear d0 d1 RA OE P2K T7 PC NVC G7 pu hh nuc g8 hb7 HV2
                go_wp2_with fail
                go_loopw [69] (fun i wz => ∃ (k : Nat) (v3 v4 : Value) (L3 : List Lt), k ≤ S'.length ∧ i = .int .i64 k ∧ TwoMine wr wz g v3 h v4 L3 m) (fun i _ => S'.length - (intOf i).toNat)
                case atStart => exact ⟨0, _, _, _, Nat.zero_le _, rfl, TC.out⟩
                case round =>
                  obtain ⟨k, v3, v4, L3, hk, rfl, hT3⟩ := hrel
                  have H3 := Lib.hid hT3
                  clear hT3 TC
                  have k0 : (0 : Int) ≤ k := by omega
                  have k1 : (k : Int) ≤ 2000 := by omega
                  have GZ := Lib.hid (grow_none GW.out H3.out.grown)
                  by_cases hlt' : k < S'.length
                  · have i1 : (k : Int) < S'.length := by omega
                    obtain ⟨o, ho⟩ : ∃ o, o = S'[k] := ⟨_, rfl⟩
                    have hoS : S'[k]? = some o := by rw [ho, List.getElem?_eq_getElem]
                    obtain ⟨ns, hok⟩ := HS'.out.each o (by rw [ho]; exact List.getElem_mem hlt')
                    have HNL : Hid (ns.length ≤ 2000) := HN5.out o (by rw [ho]; exact List.getElem_mem hlt') ns hok
                    clear ho
                    obtain ⟨kd, kk, l, n⟩ := o
                    obtain ⟨an, cn, en⟩ := hok.1.len
                    rw [List.length_map] at en
                    dsimp only at en
                    subst en
                    obtain ⟨gg, off, rfl, hgl, r0, r1, r2, r3, r4, r5⟩ := cl_at (HS'.out.keep GZ.out).read rfl k hlt' _ hoS
                    dsimp only at r0 r1 r2 r3 r4 r5
                    have HOK := Lib.hid (hok.keep GW.out)
                    have T6 := Lib.hid (H3.out.keep (World.grownBy_alloc wr (.cells #[.int .i64 kd, .int .i64 kk, .int .i64 l.f, .int .i64 l.t, .string l.d, .slice an ns.length cn] 36) none))
                    clear hoS hok
                    go_wp2_with fail
                    refine (done_mine T6.out ⟨kd, kk, l, .slice an ns.length cn⟩ ns HOK.out HNL.out).mono ?_
                    rintro e w9 ⟨rfl, L', v1', v2', t9⟩
                    have T9 := Lib.hid t9
                    clear t9 T6
                    go_wp2_with fail
                    go_roundw
                    case rel => exact ⟨k + 1, v1', v2', L', by omega, by go_num, T9.out⟩
                    case measure => simp [intOf]; omega
                  · obtain rfl : k = S'.length := by omega
                    have TZ := Lib.hid (TW.out.keep H3.out.grown)
                    go_wp2_with fail
                    refine (alike_same w.heap.size w1.heap.size v1 v2 L m _ TZ.out.p1 TZ.out.p2).mono ?_
                    rintro e w9 ⟨rfl, g9⟩
                    have H9 := Lib.hid (H3.out.two.keep g9)
                    go_wp2_with fail
                    refine (alike_same g h v3 v4 L3 m _ H9.out.p1 H9.out.p2).mono ?_
                    rintro e w10 ⟨rfl, g10⟩
                    go_wp2_with fail
                    go_ret
                    exact ⟨rfl, below_of_none (grow_none GZ.out (grow_none g9 g10))⟩
    · rw [HM.out] at hb; exact absurd hb (by decide)
  · have HM := Lib.hid hm
    have G1 := Lib.hid g1
    clear hm g1
    go_wp2_with fail
    refine (refNew_any most w1).mono ?_
    rintro e w2 hN
    rcases hN with ⟨hb, _⟩ | ⟨_, rfl, g2⟩
    · rw [HM.out] at hb; exact absurd hb (by decide)
    · have G2 := Lib.hid (grow_none G1.out g2)
      clear g2
      go_wp2_with fail
      refine (awake06_any w2).mono ?_
      rintro e w3 ⟨rfl, g3⟩
      have G3 := Lib.hid (grow_none G2.out g3)
      clear g3
      go_wp2_with fail
      refine (awake06_any w3).mono ?_
      rintro e w4 ⟨rfl, g4⟩
      go_wp2_with fail
      go_ret
      exact ⟨rfl, below_of_none (grow_none G3.out g4)⟩
end Go.Proofs.Ytpmfgjhkdokcbaa
