/- Stage 6: letters are sent. -/
import Derived.Test.YtpmfgjhkdokcbaaPoA
import Derived.Test.YtpmfgjhkdokcbaaStB
namespace Go.Proofs.Ytpmfgjhkdokcbaa
open Go.RowKit
set_option linter.unusedVariables false
theorem info_lt : (Try.prog.info? 33).map (fun i => (i.zero, i.size, i.bytes)) = some (some (.agg #[.int .i64 0, .int .i64 0, .string ⟨#[]⟩]), 3, 32) := by kernel_rfl
/-- The row is where it was, or new, or none. -/
def Kept (B : Nat) (v v' : Value) : Prop := ∀ g, v'.ownBlock = some g → v.ownBlock = some g ∨ B ≤ g
theorem Kept.of_moved {w : World} {v v' : Value} {B : Nat} (h : Moved w v v') (hB : B ≤ w.heap.size) : Kept B v v' := by
  intro g hg
  rcases h with h | ⟨k, hk, h⟩
  · rw [h] at hg; exact .inl hg
  · rw [h] at hg; injection hg with hg; exact .inr (by omega)
theorem Kept.refl (B : Nat) (v : Value) : Kept B v v := fun _ h => .inl h
theorem Kept.trans {B : Nat} {v v1 v2 : Value} (h : Kept B v v1) (k : Kept B v1 v2) : Kept B v v2 := by
  intro g hg
  rcases k g hg with k | k
  · exact h g k
  · exact .inr k
theorem Kept.mono {B C : Nat} {v v1 : Value} (h : Kept B v v1) (hc : C ≤ B) : Kept C v v1 := by
  intro g hg
  rcases h g hg with h | h
  · exact .inl h
  · exact .inr (Nat.le_trans hc h)
theorem Kept.new {w : World} {v v' : Value} (h : NewBlk w v') : Kept w.heap.size v v' := fun g hg => .inr (h g hg)
/-- The row is another one: it is stored. -/
theorem PAt.store {t : TypeId} {w w4 : World} {b : Nat} {v v4 : Value} {L L' : List Lt} {m : Nat} (h : PAt t w b v L m) (g4 : w.grownBy w4 v.ownBlock) (m4 : Kept w.heap.size v v4) (o4 : OwnK Lt.cells 3 33 w4 v4 L') (hm : L'.length ≤ m) :
    PAt t (w4.setCell ⟨b, 0, none⟩ v4) b v4 L' m ∧ Chg (PS b v) w (w4.setCell ⟨b, 0, none⟩ v4) := by
  have hf : v4.ownBlock ≠ some b := by
    intro e
    rcases m4 b e with h1 | h1
    · exact h.far h1
    · have := h.lt; omega
  refine ⟨⟨(h.blk.kept g4 (fun e => h.far e.symm)).set_ 0 v4, o4.same fun g hg => Below.heap_setCell _ _ _ _ (fun e => hf (by rw [hg, e])), hf, hm, h.most⟩, ?_⟩
  refine (Chg.of_row g4 (fun i hi _ => .inr hi)).trans (Chg.of_row (grow_set w4 ⟨b, 0, none⟩ v4) (S := fun i => i = b) (fun i hi _ => by injection hi with hi; exact hi.symm)) (fun i _ hi => .inl hi)
theorem PAt.setfar {t : TypeId} {w : World} {b : Nat} {v : Value} {L : List Lt} {m : Nat} (h : PAt t w b v L m) {a : Addr} (h1 : a.block ≠ b) (h2 : v.ownBlock ≠ some a.block) (u : Value) : PAt t (w.setCell a u) b v L m :=
  ⟨h.blk.far (fun e => h1 e.symm) u, h.own.same fun g hg => Below.heap_setCell _ _ _ _ (fun e => h2 (by rw [hg, e])), h.far, h.len, h.most⟩
/-- Behind a call the post has the letters L', and only its own blocks are other ones. -/
def PEnd (t : TypeId) (b : Nat) (v : Value) (L' : List Lt) (m : Nat) (w w' : World) : Prop := ∃ v', PAt t w' b v' L' m ∧ Chg (PS b v) w w' ∧ Kept w.heap.size v v'
theorem PEnd.same {t : TypeId} {w w' : World} {b : Nat} {v : Value} {L : List Lt} {m : Nat} (h : PAt t w b v L m) (g : w.grownBy w' none) : PEnd t b v L m w w' := ⟨v, h.keep g, Chg.of_none g, Kept.refl _ _⟩
theorem PEnd.front {t : TypeId} {w w1 w' : World} {b : Nat} {v : Value} {L : List Lt} {m : Nat} (g : w.grownBy w1 none) (h : PEnd t b v L m w1 w') : PEnd t b v L m w w' := by
  obtain ⟨v', h1, h2, h3⟩ := h
  exact ⟨v', h1, (Chg.of_none g (S := PS b v)).trans h2 (fun _ _ h => h), h3.mono g.size⟩
theorem PEnd.back {t : TypeId} {w w1 w' : World} {b : Nat} {v : Value} {L : List Lt} {m : Nat} (h : PEnd t b v L m w w1) (g : w1.grownBy w' none) : PEnd t b v L m w w' := by
  obtain ⟨v', h1, h2, h3⟩ := h
  exact ⟨v', h1.keep g, h2.trans (Chg.of_none g (S := PS b v)) (fun _ _ h => h), h3⟩
set_option maxRecDepth 100000 in
set_option maxHeartbeats 1000000 in
theorem add_any (t : TypeId) (b : Nat) (v : Value) (L : List Lt) (m : Nat) (l : Lt) (w : World) (h : PAt t w b v L m) (hm : L.length < m) :
    Calls Try.prog 27 #[.pointer (some ⟨b, 0, none⟩), l.val] w fun e w' => e = .returned (.tuple #[]) ∧ PEnd t b v (L ++ [l]) m w w' := by
  obtain ⟨i0, hi, hz0, hz1, hz2⟩ := info_parts info_lt
  obtain ⟨a, c, hv⟩ := h.form
  have c0 := h.c0
  have hb := h.lt
  have hmm := h.most
  obtain ⟨o1, ho1⟩ : ∃ o1 : Obj, o1 = .cells #[.int .i64 l.f, .int .i64 l.t, .string l.d] 33 := ⟨_, rfl⟩
  have gA : w.grownBy ((w.alloc o1).drew.alloc o1) none := grow_none (grow_drawn (World.grownBy_alloc w o1 none)) (World.grownBy_alloc _ o1 none)
  have hA := h.keep gA
  have oA := hA.own
  have rA : ReadK Lt.cells 3 ((w.alloc o1).drew.alloc o1) (.slice (some ⟨w.heap.size + 1, 0, none⟩) 1 1) [l] := by
    have := ReadK.one Lt.len (w.alloc o1).drew l 33 1 #[.int .i64 l.f, .int .i64 l.t, .string l.d] rfl
    rw [ho1]; rw [ho1] at this
    simpa using this
  have F4 : Hid (∀ w4 : World, ((w.alloc o1).drew.alloc o1).grownBy w4 v.ownBlock → w4.frozen? ⟨b, 0, none⟩ = false ∧ w4.cell? ⟨b, 0, none⟩ = some v) := fun w4 g4 => have h5 := hA.blk.kept g4 (fun e => h.far e.symm); ⟨h5.frozen 0, h5.cell 0 (by simp)⟩
  have HA := Lib.hid hA
  have HM := Lib.hid hm
  have HMM := Lib.hid hmm
  have HV := Lib.hid hv
  clear hA hm hmm h hv
  subst ho1
  unfold Lt.val
  go_enter Try.func27, Try.ntmps27
  go_wp2_with fail
  go_region_law (((with_reducible show (if Region.wanted (Oper.mk _ (Op.call { callee := .builtin .append, args := _, argTypes := _ }) _ _ _ _) _ = true then _ else _)); refine step_append_k (.tmp 8) (.tmp 10) 40 (by with_reducible rfl) 33 i0 _ 32 Lt.len Lt.ones (by omega) Try.underlying40 hi hz0 hz1 hz2 rfl _ rfl oA _ rfl rA (by have := HM.out; have := HMM.out; show _ + 1 ≤ 2^63-1; omega) (by have := HM.out; have := HMM.out; show (_ + 1) * 32 ≤ _; omega) rfl ?_; intro v4 w4 o4 g4 m4; obtain ⟨f4, f5⟩ := F4.out w4 g4; obtain ⟨a4, c4, rfl⟩ := o4.read.len))
  all_goals
    obtain ⟨p1, p2⟩ := HA.out.store g4 (Kept.of_moved m4 (Nat.le_refl _)) o4 (by have := HM.out; simp; omega)
    have k4 : Kept w.heap.size v _ := Kept.of_moved m4 gA.size
    rw [List.length_append, List.length_singleton] at p1 p2 k4
    go_wp2
    go_end0
    exact ⟨rfl, _, p1, (Chg.of_none gA (S := PS b v)).trans p2 (fun _ _ h => h), k4⟩
/-- What Send answers, and the letters behind it. -/
def sendC (L : List Lt) (m : Nat) (l : Lt) : Int := if (nodeB l.f && nodeB l.t) = false then 1 else if m ≤ L.length then 52 else 0
def sendL (L : List Lt) (m : Nat) (l : Lt) : List Lt := if (nodeB l.f && nodeB l.t) = false then L else if m ≤ L.length then L else L ++ [l]
set_option maxRecDepth 100000 in
set_option maxHeartbeats 1000000 in
theorem Send_any (t : TypeId) (ht : t = 58) (b : Nat) (v : Value) (L : List Lt) (m : Nat) (l : Lt) (w : World) (h : PAt t w b v L m) :
    Calls Try.prog 13 #[.pointer (some ⟨b, 0, none⟩), l.val] w fun e w' => e = .returned (.int .i64 (sendC L m l)) ∧ PEnd t b v (sendL L m l) m w w' := by
  have hb := h.lt
  obtain ⟨o1, ho1⟩ : ∃ o1 : Obj, o1 = .cells #[.int .i64 l.f, .int .i64 l.t, .string l.d] 33 := ⟨_, rfl⟩
  have g1 : w.grownBy (w.alloc o1) none := World.grownBy_alloc w o1 none
  have h1 := h.keep g1
  have hmm := h.most
  have hml := h.len
  have hmi : (m : Int) ≤ 512 := by omega
  have hli : (L.length : Int) ≤ 512 := by omega
  have c1 := h1.c1
  by_cases hn : (nodeB l.f && nodeB l.t) = false
  · have HC : Hid (sendC L m l = 1 ∧ sendL L m l = L) := ⟨by unfold sendC; rw [if_pos hn], by unfold sendL; rw [if_pos hn]⟩
    have HE : Hid (PEnd t b v L m w (w.alloc o1)) := PEnd.same h g1
    have hn' : nodeB l.f = false ∨ (nodeB l.f = true ∧ nodeB l.t = false) := by
      cases h5 : nodeB l.f <;> simp_all
    subst ho1
    clear h h1 g1 hn
    unfold Lt.val
    rcases hn' with hf | ⟨hf, hg⟩
    · have HF := Lib.hid hf
      clear hf
      go_enter Try.func13, Try.ntmps13
      go_wp2_with fail
      refine (isNode_any l.f _).mono ?_
      rintro e w1 ⟨rfl, rfl⟩
      rw [HF.out]
      go_wp2
      go_ret
      exact ⟨by rw [HC.out.1]; rfl, by rw [HC.out.2]; exact HE.out⟩
    · have HF := Lib.hid hf
      have HG := Lib.hid hg
      clear hf hg
      go_enter Try.func13, Try.ntmps13
      go_wp2_with fail
      refine (isNode_any l.f _).mono ?_
      rintro e w1 ⟨rfl, rfl⟩
      rw [HF.out]
      go_wp2_with fail
      refine (isNode_any l.t _).mono ?_
      rintro e w1 ⟨rfl, rfl⟩
      rw [HG.out]
      go_wp2
      go_ret
      exact ⟨by rw [HC.out.1]; rfl, by rw [HC.out.2]; exact HE.out⟩
  · have hn' : nodeB l.f = true ∧ nodeB l.t = true := by
      cases h5 : nodeB l.f <;> cases h6 : nodeB l.t <;> simp_all
    obtain ⟨hf, hg⟩ := hn'
    have HF := Lib.hid hf
    have HG := Lib.hid hg
    by_cases hr : m ≤ L.length
    · have HC : Hid (sendC L m l = 52 ∧ sendL L m l = L) := ⟨by unfold sendC; rw [if_neg hn, if_pos hr], by unfold sendL; rw [if_neg hn, if_pos hr]⟩
      have HE : Hid (∀ n, PEnd t b v L m w ((w.alloc o1).drewN n)) := fun n => PEnd.same h (grow_drawnN n g1)
      have d1 : decide (m ≤ L.length) = true := decide_eq_true hr
      have H1 := Lib.hid h1
      subst ho1
      clear h h1 g1 hn hf hg hr
      unfold Lt.val
      go_enter Try.func13, Try.ntmps13
      go_wp2_with fail
      refine (isNode_any l.f _).mono ?_
      rintro e w1 ⟨rfl, rfl⟩
      rw [HF.out]
      go_wp2_with fail
      refine (isNode_any l.t _).mono ?_
      rintro e w1 ⟨rfl, rfl⟩
      rw [HG.out]
      go_wp2
      go_quiet ((go_at_call 26; exact Calls.quiet_of_same ((count_any t b v L m _ (H1.out.drewN _)).mono fun _ _ ⟨x, y⟩ => ⟨x, y.symm⟩)))
      go_wp2
      go_ret
      exact ⟨by rw [HC.out.1]; rfl, by rw [HC.out.2]; exact HE.out _⟩
    · have HC : Hid (sendC L m l = 0 ∧ sendL L m l = L ++ [l]) := ⟨by unfold sendC; rw [if_neg hn, if_neg hr], by unfold sendL; rw [if_neg hn, if_neg hr]⟩
      have d1 : decide (m ≤ L.length) = false := decide_eq_false hr
      have H1 := Lib.hid h1
      have G1 := Lib.hid g1
      have hlt : L.length < m := by omega
      subst ho1
      clear h h1 g1 hn hf hg hr
      unfold Lt.val
      go_enter Try.func13, Try.ntmps13
      go_wp2_with fail
      refine (isNode_any l.f _).mono ?_
      rintro e w1 ⟨rfl, rfl⟩
      rw [HF.out]
      go_wp2_with fail
      refine (isNode_any l.t _).mono ?_
      rintro e w1 ⟨rfl, rfl⟩
      rw [HG.out]
      go_wp2
      go_quiet ((go_at_call 26; exact Calls.quiet_of_same ((count_any t b v L m _ (H1.out.drewN _)).mono fun _ _ ⟨x, y⟩ => ⟨x, y.symm⟩)))
      go_wp2
      go_region_law (((with_reducible show (if Region.wanted (Oper.mk _ (Op.call { callee := .value (.func 27), args := _, argTypes := _ }) _ _ _ _) _ = true then _ else _)); refine step_wanted rfl ?_; go_simp; go_at_call 27; refine (add_any t b v L m l _ ((H1.out.drewN _).drew) hlt).mono ?_; rintro e w6 ⟨rfl, hE⟩))
      all_goals
        go_wp2
        go_ret
        exact ⟨by rw [HC.out.1]; rfl, by rw [HC.out.2]; exact PEnd.front (grow_drawn (grow_drawnN _ G1.out)) hE⟩
end Go.Proofs.Ytpmfgjhkdokcbaa
