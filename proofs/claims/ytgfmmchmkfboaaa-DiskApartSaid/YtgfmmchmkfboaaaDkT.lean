/- Stage 5: a file's bit turns. -/
import Derived.Test.YtgfmmchmkfboaaaDkS
namespace Go.Proofs.Ytgfmmchmkfboaaa
open Go.RowKit
set_option linter.unusedVariables false
def turnE (e : Ent) (i : Nat) : Ent := if i / 8 < e.l.size then ⟨turnB e.l (i / 8) (i % 8), e.w, e.s⟩ else ⟨e.l, turnB e.w (i / 8 - e.l.size) (i % 8), e.s⟩
set_option maxRecDepth 100000 in
set_option maxHeartbeats 2000000 in
theorem turn_any (g : Nat) (e : Ent) (i : Nat) (w : World) (h : FB w g e) (hs : e.sz ≤ 1048576) (hi : i / 8 < e.sz) :
    Calls Try.prog 47 #[.pointer (some ⟨g, 0, none⟩), .int .i64 i] w fun en w' => en = .returned (.tuple #[]) ∧ FB w' g (turnE e i) ∧ w.grownBy w' (some g) := by
  obtain ⟨a, ha⟩ : ∃ a, a = i / 8 := ⟨_, rfl⟩
  obtain ⟨j, hj⟩ : ∃ j, j = i % 8 := ⟨_, rfl⟩
  have q1 : (i : Int).tdiv 8 = (a : Int) := by rw [Int.tdiv_eq_ediv_of_nonneg (by omega)]; omega
  have q2 : (i : Int) / 8 = (a : Int) := by omega
  have q3 : (i : Int).tmod 8 = (j : Int) := by rw [Int.tmod_eq_emod_of_nonneg (by omega)]; omega
  have q4 : (i : Int) % 8 = (j : Int) := by omega
  have hj8 : j < 8 := by omega
  have HJ := Lib.hid hj8
  have wa : IntKind.i64.wrap (a : Int) = (a : Int) := by rw [IntKind.wrap_i64]; unfold Ent.sz at *; omega
  have wj : IntKind.i64.wrap (j : Int) = (j : Int) := by rw [IntKind.wrap_i64]; omega
  rw [← ha] at hi
  have H := Lib.hid h
  have c0 := h.c0
  have c1 := h.c1
  have f0 := h.fr 0
  have f1 := h.fr 1
  by_cases hl : a < e.l.size
  · have HT : Hid (turnE e i = ⟨turnB e.l a j, e.w, e.s⟩) := by show _ = _; unfold turnE; rw [← ha, ← hj, if_pos hl]
    have d1 : decide ((a : Int) < (e.l.size : Int)) = true := decide_eq_true (by omega)
    have d2 : (a : Int) < (e.l.size : Int) := by omega
    have TU := Lib.hid (turned_any e.l a j w hl hj8 (by unfold Ent.sz at hs; omega))
    clear ha hj hj8 hi hs hl h
    go_enter Try.func47, Try.ntmps47
    go_wp2_with fail
    refine TU.out.mono ?_
    rintro en w1 ⟨rfl, g1⟩
    have hb1 := Lib.hid (Blk.keep H.out g1)
    have k0 := FB.c0 hb1.out
    have k1 := FB.fr hb1.out 0
    have G1 := Lib.hid g1
    clear g1
    go_wp2_with fail
    go_end0
    exact ⟨rfl, by rw [HT.out]; exact FB.set0 hb1.out _, grow_none G1.out (grow_set w1 ⟨g, 0, none⟩ _)⟩
  · obtain ⟨m, hm⟩ : ∃ m, m = a - e.l.size := ⟨_, rfl⟩
    have HT : Hid (turnE e i = ⟨e.l, turnB e.w m j, e.s⟩) := by show _ = _; unfold turnE; rw [← ha, ← hj, if_neg hl, hm]
    have d1 : decide ((a : Int) < (e.l.size : Int)) = false := decide_eq_false (by omega)
    have d2 : ¬ (a : Int) < (e.l.size : Int) := by omega
    have s1 : (a : Int) - (e.l.size : Int) = (m : Int) := by omega
    have wm : IntKind.i64.wrap (m : Int) = (m : Int) := by rw [IntKind.wrap_i64]; unfold Ent.sz at *; omega
    have HM : Hid (m < e.w.size ∧ e.w.size ≤ 1048576) := by unfold Ent.sz at *; exact ⟨by omega, by omega⟩
    clear ha hj hj8 hi hs hl h hm
    go_enter Try.func47, Try.ntmps47
    go_wp2_with fail
    go_region_law (((with_reducible show (if Region.wanted (Oper.mk _ (Op.call { callee := .value (.func 53), args := _, argTypes := _ }) _ _ _ _) _ = true then _ else _)); refine step_wanted rfl ?_; go_simp; go_at_call 53; refine (turned_any e.w m j _ HM.out.1 HJ.out HM.out.2).mono ?_; rintro e2 w2 ⟨rfl, g2⟩; have G2 := Lib.hid g2; clear g2; have GW : Hid (w.grownBy w2 none) := grow_none (by first | exact grow_refl _ none | exact grow_drawn (grow_refl _ _) | exact grow_drawnN _ (grow_refl _ _)) G2.out; have k1 : w2.cell? ⟨g, 1, none⟩ = some (.string e.w) := FB.c1 (Blk.keep H.out GW.out); have k2 : w2.frozen? ⟨g, 1, none⟩ = false := FB.fr (Blk.keep H.out GW.out) 1))
    all_goals
      go_wp2
      go_end0
      first
        | exact ⟨rfl, by rw [HT.out]; exact FB.set1 (Blk.keep H.out GW.out) _, grow_none GW.out (grow_set w2 ⟨g, 1, none⟩ _)⟩
        | exact ⟨rfl, by rw [HT.out]; exact FB.set1 (Blk.keep H.out GW.out) _, grow_drawn (grow_none GW.out (grow_set w2 ⟨g, 1, none⟩ _))⟩
        | exact ⟨rfl, by rw [HT.out]; exact FB.set1 (Blk.keep H.out GW.out) _, grow_drawnN _ (grow_none GW.out (grow_set w2 ⟨g, 1, none⟩ _))⟩
end Go.Proofs.Ytgfmmchmkfboaaa
