/- Stage 5: a call of both drives; what is asked of both. -/
import Derived.Test.YtgfmmchmkfboaaaRdR
import Derived.Test.YtgfmmchmkfboaaaSame
import Derived.Test.YtgfmmchmkfboaaaDkW
namespace Go.Proofs.Ytgfmmchmkfboaaa
open Go.RowKit
set_option linter.unusedVariables false
/-- What the document's call answers, and what its drive is then. -/
def wantC (r : Rk) (o : Oc) : Int := if o.kind = 1 then rappC r o.name o.data else if o.kind = 2 then rstepOfC r o.name else if o.kind = 3 then rstepOfC r o.name else if o.kind = 6 then rflipC r o.name o.num else 0
def wantD (r : Rk) (o : Oc) (ks : List Int) : Rk := if o.kind = 1 then rappD r o.name o.data else if o.kind = 2 then rsyncD r o.name else if o.kind = 3 then rremoveD r o.name else if o.kind = 4 then rfuseD r o.num else if o.kind = 5 then rcrashD r ks else if o.kind = 6 then rflipD r o.name o.num else r
set_option maxRecDepth 100000 in
set_option maxHeartbeats 2000000 in
theorem want_any (b : Nat) (v : Value) (r : Rk) (o : Oc) (ks : List Int) (w : World) (h : RAt w b v r) (hok : OcOk w o ks) (hst : r.cnt < 1000000) (hl1 : r.L.length < 1000000) :
    Calls Try.prog 14 #[.pointer (some ⟨b, 0, none⟩), o.val] w fun e w' => e = .returned (.int .i64 (wantC r o)) ∧ REnd b v (wantD r o ks) w w' := by
  obtain ⟨kd, nme, dta, num, kp⟩ := o
  obtain ⟨an, cn, en⟩ := rowAt_len hok.row
  rw [List.length_map] at en
  dsimp only at en
  subst en
  have HOK := Lib.hid hok
  have H := Lib.hid h
  have HST := Lib.hid hst
  have HL1 := Lib.hid hl1
  have GA := Lib.hid (World.grownBy_alloc w (.cells #[.int .i64 kd, .string nme, .string dta, .int .i64 num, .slice an ks.length cn] 31) none)
  clear hok h hst hl1
  unfold Oc.val
  by_cases h1 : kd = 1
  · subst h1
    go_enter Try.func14, Try.ntmps14
    go_wp2_with fail
    refine (refAppend_any b v r nme dta _ (H.out.keep GA.out) HOK.out.nml HOK.out.dtl HST.out HL1.out).mono ?_
    rintro e w1 ⟨rfl, hE⟩
    have HE := Lib.hid (REnd.front GA.out hE)
    clear hE
    go_wp2_with fail
    go_ret
    exact ⟨by unfold wantC; rw [if_pos rfl]; rfl, by unfold wantD; rw [if_pos rfl]; exact HE.out⟩
  by_cases h2 : kd = 2
  · subst h2
    go_enter Try.func14, Try.ntmps14
    go_wp2_with fail
    refine (refSync_any b v r nme _ (H.out.keep GA.out) HOK.out.nml HST.out).mono ?_
    rintro e w1 ⟨rfl, hE⟩
    have HE := Lib.hid (REnd.front GA.out hE)
    clear hE
    go_wp2_with fail
    go_ret
    exact ⟨rfl, HE.out⟩
  by_cases h3 : kd = 3
  · subst h3
    go_enter Try.func14, Try.ntmps14
    go_wp2_with fail
    refine (refRemove_any b v r nme _ (H.out.keep GA.out) HOK.out.nml HST.out).mono ?_
    rintro e w1 ⟨rfl, hE⟩
    have HE := Lib.hid (REnd.front GA.out hE)
    clear hE
    go_wp2_with fail
    go_ret
    exact ⟨rfl, HE.out⟩
  by_cases h4 : kd = 4
  · subst h4
    go_enter Try.func14, Try.ntmps14
    go_wp2_with fail
    refine (refFuse_any b v r num _ (H.out.keep GA.out) HOK.out.nm2).mono ?_
    rintro e w1 ⟨rfl, hE⟩
    have HE := Lib.hid (REnd.front GA.out hE)
    clear hE
    go_wp2_with fail
    go_ret
    exact ⟨rfl, HE.out⟩
  by_cases h5 : kd = 5
  · subst h5
    go_enter Try.func14, Try.ntmps14
    go_wp2_with fail
    refine (refCrash_any b v r ks _ _ (H.out.keep GA.out) (HOK.out.row.kept GA.out) (by have := HOK.out.ksl; unfold maxLen; omega)).mono ?_
    rintro e w1 ⟨rfl, hE⟩
    have HE := Lib.hid (REnd.front GA.out hE)
    clear hE
    go_wp2_with fail
    go_ret
    exact ⟨rfl, HE.out⟩
  by_cases h6 : kd = 6
  · subst h6
    go_enter Try.func14, Try.ntmps14
    go_wp2_with fail
    refine (refFlip_any b v r nme num _ (H.out.keep GA.out) HOK.out.nm2).mono ?_
    rintro e w1 ⟨rfl, hE⟩
    have HE := Lib.hid (REnd.front GA.out hE)
    clear hE
    go_wp2_with fail
    go_ret
    exact ⟨rfl, HE.out⟩
  have e1 : (kd == 1) = false := by rw [beq_eq_false_iff_ne]; exact h1
  have e2 : (kd == 2) = false := by rw [beq_eq_false_iff_ne]; exact h2
  have e3 : (kd == 3) = false := by rw [beq_eq_false_iff_ne]; exact h3
  have e4 : (kd == 4) = false := by rw [beq_eq_false_iff_ne]; exact h4
  have e5 : (kd == 5) = false := by rw [beq_eq_false_iff_ne]; exact h5
  have e6 : (kd == 6) = false := by rw [beq_eq_false_iff_ne]; exact h6
  have HX : Hid (wantC r ⟨kd, nme, dta, num, .slice an ks.length cn⟩ = 0 ∧ wantD r ⟨kd, nme, dta, num, .slice an ks.length cn⟩ ks = r) := ⟨by unfold wantC; rw [if_neg h1, if_neg h2, if_neg h3, if_neg h6], by unfold wantD; rw [if_neg h1, if_neg h2, if_neg h3, if_neg h4, if_neg h5, if_neg h6]⟩
  have HXE : Hid (REnd b v r w _) := REnd.same H.out GA.out
  go_enter Try.func14, Try.ntmps14
  go_wp2_with fail
  go_ret
  exact ⟨by rw [HX.out.1]; rfl, by rw [HX.out.2]; exact HXE.out⟩
/-- What both answer is one, and they stay alike. -/
theorem Cor.did {d d' : Dk} {r : Rk} {o : Oc} {ks : List Int} {c : Int} (h : Cor d r) (hd : DidR6 d o ks c d') : wantC r o = c ∧ Cor d' (wantD r o ks) := by
  unfold wantC wantD
  rcases hd with (⟨hk, rfl, rfl⟩ | ⟨hk, rfl, rfl⟩ | ⟨hk, rfl, rfl⟩ | ⟨hk, rfl, rfl⟩ | ⟨hk, rfl, ts, hN, rfl⟩ | ⟨hk, rfl, rfl⟩) | ⟨hk, rfl, rfl⟩
  · rw [if_pos hk, if_pos hk]; exact h.app _ _
  · rw [if_neg (by omega), if_pos hk, if_neg (by omega), if_pos hk]; exact ⟨(h.stepOf _).1, h.sync _⟩
  · rw [if_neg (by omega), if_neg (by omega), if_pos hk, if_neg (by omega), if_neg (by omega), if_pos hk]; exact ⟨(h.stepOf _).1, h.remove _⟩
  · rw [if_neg (by omega), if_neg (by omega), if_neg (by omega), if_neg (by omega), if_neg (by omega), if_neg (by omega), if_neg (by omega), if_pos hk]; exact ⟨rfl, h.fuse _⟩
  · rw [if_neg (by omega), if_neg (by omega), if_neg (by omega), if_neg (by omega), if_neg (by omega), if_neg (by omega), if_neg (by omega), if_neg (by omega), if_pos hk]; exact ⟨rfl, h.crash ks hN⟩
  · rw [if_neg (by omega), if_neg (by omega), if_neg (by omega), if_neg (by omega), if_neg (by omega), if_neg (by omega), if_neg (by omega), if_neg (by omega), if_neg (by omega), if_neg (by omega)]; exact ⟨rfl, h⟩
  · rw [if_neg (by omega), if_neg (by omega), if_neg (by omega), if_pos hk, if_neg (by omega), if_neg (by omega), if_neg (by omega), if_neg (by omega), if_neg (by omega), if_pos hk]; exact h.flip _ _
/-- Two drives lie apart, in new memory. -/
structure Both (w w' : World) (b mb n : Nat) (G : ByteArray → Option Nat) (d : Dk) (c : Nat) (v : Value) (r : Rk) : Prop where
  D : DAt w' b mb n G d
  R : RAt w' c v r
  sep : ∀ i, DS b mb G i → ¬ RS c v i
  dn : ∀ i, DS b mb G i → w.heap.size ≤ i
  rn : ∀ i, RS c v i → w.heap.size ≤ i
  g : w.grownBy w' none
section
variable {w w' w1 : World} {b mb n n' c : Nat} {G G' : ByteArray → Option Nat} {d d' : Dk} {v v' : Value} {r r' : Rk}
theorem Both.keep (h : Both w w' b mb n G d c v r) (g : w'.grownBy w1 none) : Both w w1 b mb n G d c v r := { h with D := h.D.keep g, R := h.R.keep g, g := grow_none h.g g }
theorem Both.did (h : Both w w' b mb n G d c v r) (hE : DEnd b mb G n' d' w' w1) : ∃ G', Both w w1 b mb n' G' d' c v r := by
  obtain ⟨G', h1, h2, h3⟩ := hE
  have hnew : ∀ i, DS b mb G' i → DS b mb G i ∨ w'.heap.size ≤ i := by
    rintro i (x | x | ⟨s, x⟩)
    · exact .inl (.inl x)
    · exact .inl (.inr (.inl x))
    · rcases h3 s i x with y | y
      · exact .inl (.inr (.inr y))
      · exact .inr y
  refine ⟨G', h1, h.R.chg h2 (fun i hi hs => h.sep i hs hi), fun i hi hr => ?_, fun i hi => ?_, h.rn, ?_⟩
  · rcases hnew i hi with x | x
    · exact h.sep i x hr
    · have := h.R.live i hr; omega
  · rcases hnew i hi with x | x
    · exact h.dn i x
    · exact Nat.le_trans h.g.size x
  · exact ((Chg.of_none h.g (S := DS b mb G)).trans h2 (fun _ _ x => x)).none (fun i hi hs => by have := h.dn i hs; omega)
theorem Both.want (h : Both w w' b mb n G d c v r) (hE : REnd c v r' w' w1) : ∃ v', Both w w1 b mb n G d c v' r' := by
  obtain ⟨v', h1, h2, h3⟩ := hE
  have hnew : ∀ i, RS c v' i → RS c v i ∨ w'.heap.size ≤ i := by
    rintro i (x | x)
    · exact .inl (.inl x)
    · rcases h3 i x with y | y
      · exact .inl (.inr y)
      · exact .inr y
  refine ⟨v', h.D.chg h2 (fun i hi hs => h.sep i hi hs), h1, fun i hi hr => ?_, h.dn, fun i hi => ?_, ?_⟩
  · rcases hnew i hr with x | x
    · exact h.sep i hi x
    · have := h.D.live i hi; omega
  · rcases hnew i hi with x | x
    · exact h.rn i x
    · exact Nat.le_trans h.g.size x
  · exact ((Chg.of_none h.g (S := RS c v)).trans h2 (fun _ _ x => x)).none (fun i hi hs => by have := h.rn i hs; omega)
end
end Go.Proofs.Ytgfmmchmkfboaaa
