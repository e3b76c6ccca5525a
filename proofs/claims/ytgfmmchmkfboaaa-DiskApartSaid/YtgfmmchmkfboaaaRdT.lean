/- Stage 5: alike; a drive that is copied by a call. -/
import Derived.Test.YtgfmmchmkfboaaaRdS
import Derived.Test.YtgfmmchmkfboaaaRel
namespace Go.Proofs.Ytgfmmchmkfboaaa
open Go.RowKit
set_option linter.unusedVariables false
def NmV (A : List ByteArray) (u : Value) (W : World) : Prop := ∃ p c, u = .slice p A.length c ∧ RowAt W (.slice p A.length c) (A.map Value.string)
theorem NmV.keep {A : List ByteArray} (v : Value) (W W' : World) (g : W.grownBy W' none) (h : NmV A v W) : NmV A v W' := by
  obtain ⟨p, c, e, r⟩ := h
  exact ⟨p, c, e, r.kept g⟩
theorem namesP_all (ts : List (List UInt8)) : namesP ts ⟨#[]⟩ = ts := by
  unfold namesP
  rw [List.filter_eq_self]
  intro x _
  rfl
theorem Cor.namesP {d : Dk} {r : Rk} (h : Cor d r) {w : World} {b mb n : Nat} {G : ByteArray → Option Nat} (hD : DAt w b mb n G d) {l : List (List UInt8)} {p : ByteArray} (hl : (d.down = true ∧ l = []) ∨ (d.down = false ∧ ∃ ts, Names G ts ∧ l = Go.Proofs.Ytgfmmchmkfboaaa.namesP ts p)) :
    l = if r.off = true then [] else Go.Proofs.Ytgfmmchmkfboaaa.namesP (rnm r.L) p := by
  rw [h.off]
  rcases hl with ⟨h1, h2⟩ | ⟨h1, ts, hN, h2⟩
  · rw [if_pos h1, h2]
  · rw [if_neg (by rw [h1]; simp), h2, h.names (hN.toF hD)]
set_option maxRecDepth 100000 in
set_option maxHeartbeats 4000000 in
theorem alike_any (b mb n : Nat) (G : ByteArray → Option Nat) (d : Dk) (c : Nat) (v : Value) (r : Rk) (w : World) (hD : DAt w b mb n G d) (hR : RAt w c v r) (hc : Cor d r) :
    Calls Try.prog 15 #[.pointer (some ⟨b, 0, none⟩), .pointer (some ⟨c, 0, none⟩)] w fun e w' => e = .returned (.bool true) ∧ w.grownBy w' none := by
  have HD := Lib.hid hD
  have HR := Lib.hid hR
  have HC := Lib.hid hc
  have hoff := hc.off
  have hcnt := hc.cnt
  clear hD hR hc
  go_enter Try.func15, Try.ntmps15
  go_wp2_with fail
  refine (Names_any b mb n G d ⟨#[]⟩ _ HD.out).mono ?_
  rintro e w1 ⟨va, la, rfl, hla, hlan, hra, hna, g1⟩
  have hla' := HC.out.namesP HD.out hla
  have HLA := Lib.hid hla'
  have D1 := Lib.hid (HD.out.keep g1)
  have R1 := Lib.hid (HR.out.keep g1)
  have G1 := Lib.hid g1
  obtain ⟨A, hA⟩ : ∃ A, A = la.map nm := ⟨_, rfl⟩
  have hmap : la.map encStr = A.map Value.string := by rw [hA, List.map_map]; rfl
  rw [hmap] at hra
  have RA := Lib.hid (RowAt.of_own hra)
  have HAL : Hid (A.length ≤ 1000000) := by show _ ≤ _; rw [hA, List.length_map]; have := HD.out.n1; omega
  have HAM : Hid (∀ k, k < A.length → ∃ e, d.F (A.getD k ⟨#[]⟩) = some e ∧ d.down = false ∧ (A.getD k ⟨#[]⟩).size ≤ maxLen) := by
    intro k hk
    have hk' : k < la.length := by rw [hA, List.length_map] at hk; exact hk
    have e1 : A.getD k ⟨#[]⟩ = nm la[k] := by rw [hA]; simp [List.getD, List.getElem?_eq_getElem hk']
    rw [e1]
    rcases hla with ⟨_, y⟩ | ⟨y, ts3, n3, e3⟩
    · rw [y] at hk'; cases hk'
    · have hsub : ∀ x ∈ la, x ∈ ts3 := fun x hx => by rw [e3, namesP_all] at hx; exact hx
      have hm := hsub la[k] (List.getElem_mem hk')
      obtain ⟨e, he⟩ := Option.isSome_iff_exists.1 ((Names.of HD.out n3 la[k]).1 hm)
      exact ⟨e, he, y, n3.le la[k] hm⟩
  have hral : (A.map Value.string).length = A.length := List.length_map _
  obtain ⟨pa, ca, eva⟩ := row_form RA.out
  subst eva
  have HAA := Lib.hid hA
  have ha1 : A.length ≤ maxLen := by have := HAL.out; unfold maxLen; omega
  have HA1 := Lib.hid ha1
  clear hla hlan hna hra hmap g1 hla' hA ha1
  go_wp2_with fail
  refine wp_region_rel (fun W => w1.grownBy W none) (fun W W' => W.grownBy W' none) (by kernel_rfl) (by kernel_rfl) (fun W => grow_refl W none) (grow_drawn (grow_refl _ _)) ?_
  iterate 2 (refine wpRel_det ?_; apply Exists.intro; refine ⟨fun W hI => ?_, ?_⟩; focus (go_simp; exact ⟨rfl, grow_refl _ _⟩))
  refine wpRel_step (NmV A) NmV.keep (fun W hI => ?_) ?_
  · go_simp
    refine (refNames_any c v r ⟨#[]⟩ W (R1.out.keep hI) (by decide)).mono ?_
    rintro e W' ⟨vb, lb, rfl, hlb, hlbn, hrb, hnb, g2⟩
    have e1 : lb.map encStr = A.map Value.string := by
      have : lb = la := by rw [hlb, HLA.out]
      rw [this, HAA.out, List.map_map]; rfl
    rw [e1] at hrb
    obtain ⟨pb, cb, e2⟩ := row_form (RowAt.of_own hrb)
    refine ⟨vb, rfl, ⟨pb, cb, e2, by rw [← e2]; exact RowAt.of_own hrb⟩, grow_none hI g2, g2⟩
  refine wpRel_det ?_; apply Exists.intro; refine ⟨fun W hI => ?_, ?_⟩
  · go_simp
    intro u hu
    obtain ⟨pb, cb, rfl, rb⟩ := hu
    go_simp
    refine (Same_any _ _ A A W (RA.out.kept hI) rb HA1.out HA1.out).mono ?_
    rintro e W' ⟨rfl, g2⟩
    rw [decide_eq_true (rfl : A = A)]
    exact ⟨_, rfl, rfl, grow_none hI g2, g2⟩
  iterate 3 (refine wpRel_det ?_; apply Exists.intro; refine ⟨fun W hI => ?_, ?_⟩; focus (go_simp; exact ⟨rfl, grow_refl _ _⟩))
  refine wpRel_det ?_; apply Exists.intro; refine ⟨fun W hI => ?_, ?_⟩
  · go_simp
    refine (Down_any b mb n G d W (D1.out.keep hI)).mono ?_
    rintro e W' ⟨rfl, rfl⟩
    exact ⟨_, rfl, rfl, hI, grow_refl _ _⟩
  iterate 8 (refine wpRel_det ?_; apply Exists.intro; refine ⟨fun W hI => ?_, ?_⟩; focus (have hc2 := (R1.out.keep hI).c2; rw [hoff] at hc2; go_simp; exact ⟨rfl, grow_refl _ _⟩))
  refine wpRel_det ?_; apply Exists.intro; refine ⟨fun W hI => ?_, ?_⟩
  · go_simp
    refine (Steps_any b mb n G d W (D1.out.keep hI)).mono ?_
    rintro e W' ⟨rfl, rfl⟩
    exact ⟨_, rfl, rfl, hI, grow_refl _ _⟩
  iterate 6 (refine wpRel_det ?_; apply Exists.intro; refine ⟨fun W hI => ?_, ?_⟩; focus (have hc3 := (R1.out.keep hI).c3; rw [hcnt] at hc3; go_simp; exact ⟨rfl, grow_refl _ _⟩))
  refine wpRel_nil ?_
  intro w2 hI
  go_simp
  intro v1 hv1
  clear hv1
  have D2 := Lib.hid (D1.out.keep hI)
  have R2 := Lib.hid (R1.out.keep hI)
  have G2 := Lib.hid (grow_none G1.out hI)
  have hra := RA.out.kept hI
  have ial : (A.length : Int) ≤ 1000000 := by have := HAL.out; omega
  clear hI hoff hcnt hral
  go_wp2_with fail
  go_loopw [39] (fun i wr => ∃ k : Nat, k ≤ A.length ∧ i = .int .i64 k ∧ w2.grownBy wr none) (fun i _ => A.length - (intOf i).toNat)
  case atStart => exact ⟨0, Nat.zero_le _, rfl, grow_refl _ _⟩
  case round =>
    obtain ⟨k, hk, rfl, hg⟩ := hrel
    by_cases hlt : k < A.length
    · obtain ⟨b1, o1, rfl, q1, _⟩ := row_string (hra.kept hg) rfl hlt
      obtain ⟨x, hx⟩ : ∃ x, x = A.getD k ⟨#[]⟩ := ⟨_, rfl⟩
      rw [← hx] at q1
      obtain ⟨e, he, hdn, hxs⟩ := HAM.out k hlt
      rw [← hx] at he hxs
      have HRR : Hid (readR d x = (e.l ++ e.w, true)) := by show _ = _; unfold readR; rw [if_neg (by rw [hdn]; simp), he]
      have HR2 : Hid (rreadR r x = (e.l ++ e.w, true)) := by show _ = _; rw [HC.out.readR x]; exact HRR.out
      have i1 : (k : Int) < A.length := by omega
      have i0' : (0 : Int) ≤ k := by omega
      have HK := Lib.hid hlt
      have HG := Lib.hid hg
      have HXS := Lib.hid hxs
      clear he hdn hxs hg hlt hk hx
      go_wp2_with fail
      refine (Read_any b mb n G d x wr (D2.out.keep HG.out) HXS.out).mono ?_
      rintro e1 w3 ⟨rfl, g3⟩
      rw [HRR.out]
      have G3 := Lib.hid (grow_none HG.out g3)
      clear g3
      go_wp2_with fail
      refine (refRead_any c v r x w3 (R2.out.keep G3.out)).mono ?_
      rintro e1 w4 ⟨rfl, g4⟩
      rw [HR2.out]
      have G4 := Lib.hid (grow_none G3.out g4)
      clear g4
      go_wp2_with fail
      go_roundw
      case rel => exact ⟨k + 1, by have := HK.out; omega, by go_num, G4.out⟩
      case measure => have := HK.out; simp [intOf]; omega
    · obtain rfl : k = A.length := by omega
      have HG := Lib.hid hg
      clear hg
      go_wp2_with fail
      go_ret
      exact ⟨rfl, grow_none G2.out HG.out⟩
/-- A call that copies the drive. -/
def CopyR (n : Nat) (d : Dk) (w : World) (e : Ending) (w' : World) : Prop := ∃ b2 mb2 n2 G2, e = .returned (.tuple #[.pointer (some ⟨b2, 0, none⟩), .int .i64 0]) ∧ DAt w' b2 mb2 n2 G2 d ∧ n2 ≤ n ∧ w.heap.size ≤ b2 ∧ w.heap.size ≤ mb2 ∧ (∀ s g, G2 s = some g → w.heap.size ≤ g) ∧ w.grownBy w' none
set_option maxRecDepth 100000 in
set_option maxHeartbeats 2000000 in
theorem did7_any (b mb n : Nat) (G : ByteArray → Option Nat) (d : Dk) (o : Oc) (ks : List Int) (w : World) (h : DAt w b mb n G d) (hok : OcOk w o ks) (hk : o.kind = 7) :
    Calls Try.prog 13 #[.pointer (some ⟨b, 0, none⟩), o.val] w (CopyR n d w) := by
  obtain ⟨kd, nme, dta, num, kp⟩ := o
  obtain ⟨an, cn, en⟩ := rowAt_len hok.row
  rw [List.length_map] at en
  dsimp only at en hk
  subst en hk
  have GA := Lib.hid (World.grownBy_alloc w (.cells #[.int .i64 7, .string nme, .string dta, .int .i64 num, .slice an ks.length cn] 31) none)
  have H2 := Lib.hid (h.keep GA.out)
  clear h hok
  unfold Oc.val
  go_enter Try.func13, Try.ntmps13
  go_wp2_with fail
  refine (Copy_any b mb n G d _ H2.out).mono ?_
  rintro e w1 ⟨b2, mb2, n2, G2, rfl, hc, hn2, hb2, hmb2, hgc, g1⟩
  have HC := Lib.hid (show _ ∧ _ ∧ _ ∧ _ ∧ _ ∧ _ from ⟨hc, hn2, hb2, hmb2, hgc, g1⟩)
  clear hc hn2 hb2 hmb2 hgc g1
  go_wp2_with fail
  go_ret2
  exact ⟨b2, mb2, n2, G2, rfl, HC.out.1, HC.out.2.1, Nat.le_trans GA.out.size HC.out.2.2.1, Nat.le_trans GA.out.size HC.out.2.2.2.1, fun s g hs => Nat.le_trans GA.out.size (HC.out.2.2.2.2.1 s g hs), grow_none GA.out HC.out.2.2.2.2.2⟩
set_option maxRecDepth 100000 in
set_option maxHeartbeats 2000000 in
theorem did8_any (b : Nat) (o : Oc) (ks : List Int) (w : World) (hok : OcOk w o ks) (hk : 7 < o.kind) :
    Calls Try.prog 13 #[.pointer (some ⟨b, 0, none⟩), o.val] w fun e w' => e = .returned (.tuple #[.pointer (some ⟨b, 0, none⟩), .int .i64 0]) ∧ w.grownBy w' none := by
  obtain ⟨kd, nme, dta, num, kp⟩ := o
  obtain ⟨an, cn, en⟩ := rowAt_len hok.row
  rw [List.length_map] at en
  dsimp only at en hk
  subst en
  have e1 : (kd == 1) = false := by rw [beq_eq_false_iff_ne]; omega
  have e2 : (kd == 2) = false := by rw [beq_eq_false_iff_ne]; omega
  have e3 : (kd == 3) = false := by rw [beq_eq_false_iff_ne]; omega
  have e4 : (kd == 4) = false := by rw [beq_eq_false_iff_ne]; omega
  have e5 : (kd == 5) = false := by rw [beq_eq_false_iff_ne]; omega
  have e6 : (kd == 6) = false := by rw [beq_eq_false_iff_ne]; omega
  have e7 : (kd == 7) = false := by rw [beq_eq_false_iff_ne]; omega
  clear hok hk
  unfold Oc.val
  go_enter Try.func13, Try.ntmps13
  go_wp2_with fail
  go_ret2
  exact ⟨rfl, World.grownBy_alloc _ _ _⟩
/-- What any call does to the drive: the same answer as the document's, and both are alike. -/
def DidAll (w w' : World) (b mb n : Nat) (G : ByteArray → Option Nat) (d : Dk) (c : Nat) (v : Value) (r : Rk) (o : Oc) (ks : List Int) (e : Ending) (w1 : World) : Prop :=
  ∃ b2 mb2 n2 G2 d2, e = .returned (.tuple #[.pointer (some ⟨b2, 0, none⟩), .int .i64 (wantC r o)]) ∧ n2 ≤ n + 1 ∧ d2.steps ≤ d.steps + 1 ∧ Both w w1 b2 mb2 n2 G2 d2 c v r ∧ Cor d2 (wantD r o ks) ∧ Chg (DS b mb G) w' w1
theorem wantD_len (r : Rk) (o : Oc) (ks : List Int) : (wantD r o ks).L.length ≤ r.L.length + 1 := by
  unfold wantD
  have h0 : (rstepD r).L = r.L := rstepD_L r
  have hso : ∀ s, (rstepOfD r s).L = r.L := fun s => by unfold rstepOfD; split; rfl; split; rfl; split; rfl; exact h0
  split
  · unfold rappD
    split; omega
    split; omega
    split; omega
    split; (rw [h0]; omega)
    show (rappL r o.name o.data).length ≤ _
    unfold rappL
    split
    · rw [List.length_set]; omega
    · rw [List.length_append, List.length_append, List.length_take, List.length_drop, List.length_singleton]; omega
  split
  · unfold rsyncD
    split
    · show ((rstepD r).L.set _ _).length ≤ _; rw [List.length_set, h0]; omega
    · rw [hso]; omega
  split
  · unfold rremoveD
    split
    · show (r.L.take _ ++ r.L.drop _).length ≤ _
      rw [List.length_append, List.length_take, List.length_drop]; omega
    · rw [hso]; omega
  split
  · show r.L.length ≤ _; omega
  split
  · have := rcr_len ks r.L []
    show (rcr r.L ks).1.length ≤ _
    unfold rcr
    simp only [List.length_nil] at this
    omega
  split
  · unfold rflipD
    split; omega
    split; omega
    show (r.L.set _ _).length ≤ _; rw [List.length_set]; omega
  · omega
theorem didAll_any {w w' : World} {b mb n : Nat} {G : ByteArray → Option Nat} {d : Dk} {c : Nat} {v : Value} {r : Rk} (h : Both w w' b mb n G d c v r) (hc : Cor d r) (o : Oc) (ks : List Int) (hok : OcOk w' o ks) (hsm : ks.length ≤ 8192) (hst : d.steps < 1000000) (hn : n < 1000000) :
    Calls Try.prog 13 #[.pointer (some ⟨b, 0, none⟩), o.val] w' (DidAll w w' b mb n G d c v r o ks) := by
  by_cases h7 : o.kind < 7
  · refine (did6_any b mb n G d o ks w' h.D hok hsm h7 hst hn).mono ?_
    rintro e w1 ⟨cc, d2, n2, rfl, hn2, hd, hE⟩
    obtain ⟨e1, e2⟩ := hc.did hd
    obtain ⟨G2, hB⟩ := h.did hE
    have hs : d2.steps ≤ d.steps + 1 := by
      rcases hd with hd | ⟨_, _, rfl⟩
      · exact did_steps hd
      · unfold flipD
        split
        · exact Nat.le_succ _
        · split
          · exact Nat.le_succ _
          · exact Nat.le_succ _
    exact ⟨b, mb, n2, G2, d2, by rw [e1], hn2, hs, hB, e2, hE.choose_spec.2.1⟩
  · have hw0 : wantC r o = 0 ∧ wantD r o ks = r := ⟨by unfold wantC; rw [if_neg (by omega), if_neg (by omega), if_neg (by omega), if_neg (by omega)], by unfold wantD; rw [if_neg (by omega), if_neg (by omega), if_neg (by omega), if_neg (by omega), if_neg (by omega), if_neg (by omega)]⟩
    by_cases h8 : o.kind = 7
    · refine (did7_any b mb n G d o ks w' h.D hok h8).mono ?_
      rintro e w1 ⟨b2, mb2, n2, G2, rfl, hD, hn2, hb2, hmb2, hg2, g1⟩
      have hnew : ∀ i, DS b2 mb2 G2 i → w'.heap.size ≤ i := by
        rintro i (x | x | ⟨s, x⟩)
        · rw [x]; exact hb2
        · rw [x]; exact hmb2
        · exact hg2 s i x
      refine ⟨b2, mb2, n2, G2, d, by rw [hw0.1], by omega, by omega, ⟨hD, h.R.keep g1, fun i hi hr => ?_, fun i hi => Nat.le_trans h.g.size (hnew i hi), h.rn, grow_none h.g g1⟩, by rw [hw0.2]; exact hc, Chg.of_none g1⟩
      have := hnew i hi
      have := h.R.live i hr
      omega
    · refine (did8_any b o ks w' hok (by omega)).mono ?_
      rintro e w1 ⟨rfl, g1⟩
      exact ⟨b, mb, n, G, d, by rw [hw0.1], by omega, by omega, h.keep g1, by rw [hw0.2]; exact hc, Chg.of_none g1⟩
end Go.Proofs.Ytgfmmchmkfboaaa
