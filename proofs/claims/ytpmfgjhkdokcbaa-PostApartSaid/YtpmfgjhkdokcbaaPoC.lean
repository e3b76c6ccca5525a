/- Stage 6: the document's Send, At, Take, Twin. -/
import Derived.Test.YtpmfgjhkdokcbaaPoB
namespace Go.Proofs.Ytpmfgjhkdokcbaa
open Go.RowKit
set_option linter.unusedVariables false
theorem node_bad {l : Lt} (h : (nodeB l.f && nodeB l.t) = false) : l.f < 0 ∨ (0 ≤ l.f ∧ 6 < l.f) ∨ (0 ≤ l.f ∧ l.f ≤ 6 ∧ l.t < 0) ∨ (0 ≤ l.f ∧ l.f ≤ 6 ∧ 0 ≤ l.t ∧ 6 < l.t) := by
  unfold nodeB at h
  rw [Bool.and_eq_false_iff, decide_eq_false_iff_not, decide_eq_false_iff_not] at h
  omega
theorem node_ok {l : Lt} (h : ¬ (nodeB l.f && nodeB l.t) = false) : 0 ≤ l.f ∧ l.f ≤ 6 ∧ 0 ≤ l.t ∧ l.t ≤ 6 := by
  unfold nodeB at h
  rw [Bool.not_eq_false, Bool.and_eq_true, decide_eq_true_eq, decide_eq_true_eq] at h
  omega
set_option maxRecDepth 100000 in
set_option maxHeartbeats 1000000 in
theorem refSend_any (t : TypeId) (ht : t = 48) (b : Nat) (v : Value) (L : List Lt) (m : Nat) (l : Lt) (w : World) (h : PAt t w b v L m) :
    Calls Try.prog 20 #[.pointer (some ⟨b, 0, none⟩), l.val] w fun e w' => e = .returned (.int .i64 (sendC L m l)) ∧ PEnd t b v (sendL L m l) m w w' := by
  obtain ⟨i0, hi, hz0, hz1, hz2⟩ := info_parts info_lt
  have hb := h.lt
  obtain ⟨o1, ho1⟩ : ∃ o1 : Obj, o1 = .cells #[.int .i64 l.f, .int .i64 l.t, .string l.d] 33 := ⟨_, rfl⟩
  have g1 : w.grownBy (w.alloc o1) none := World.grownBy_alloc w o1 none
  have hmm := h.most
  have hml := h.len
  have hmi : (m : Int) ≤ 512 := by omega
  have hli : (L.length : Int) ≤ 512 := by omega
  by_cases hn : (nodeB l.f && nodeB l.t) = false
  · have HC : Hid (sendC L m l = 1 ∧ sendL L m l = L) := ⟨by unfold sendC; rw [if_pos hn], by unfold sendL; rw [if_pos hn]⟩
    have HE : Hid (PEnd t b v L m w (w.alloc o1)) := PEnd.same h g1
    have hbad := node_bad hn
    subst ho1
    clear h g1 hn
    unfold Lt.val
    rcases hbad with d1 | ⟨d1, d2⟩ | ⟨d1, d2, d3⟩ | ⟨d1, d2, d3, d4⟩
    all_goals
      go_enter Try.func20, Try.ntmps20
      go_wp2
      go_ret
      exact ⟨by rw [HC.out.1]; rfl, by rw [HC.out.2]; exact HE.out⟩
  · obtain ⟨d1, d2, d3, d4⟩ := node_ok hn
    by_cases hr : m ≤ L.length
    · have HC : Hid (sendC L m l = 52 ∧ sendL L m l = L) := ⟨by unfold sendC; rw [if_neg hn, if_pos hr], by unfold sendL; rw [if_neg hn, if_pos hr]⟩
      have HE : Hid (∀ n, PEnd t b v L m w ((w.alloc o1).drewN n)) := fun n => PEnd.same h (grow_drawnN n g1)
      have e1 : decide (m ≤ L.length) = true := decide_eq_true hr
      have h1 := h.keep g1
      obtain ⟨a, c, rfl⟩ := h.form
      have c0 := h1.c0
      have c1 := h1.c1
      subst ho1
      clear h h1 g1 hn hr
      unfold Lt.val
      go_enter Try.func20, Try.ntmps20
      go_wp2
      go_quiet (fail)
      go_wp2
      go_ret
      exact ⟨by rw [HC.out.1]; rfl, by rw [HC.out.2]; exact HE.out _⟩
    · have HC : Hid (sendC L m l = 0 ∧ sendL L m l = L ++ [l]) := ⟨by unfold sendC; rw [if_neg hn, if_neg hr], by unfold sendL; rw [if_neg hn, if_neg hr]⟩
      have e1 : decide (m ≤ L.length) = false := decide_eq_false hr
      have h1 := h.keep g1
      have c1 := h1.c1
      have H1 := Lib.hid h1
      have G1 := Lib.hid g1
      have HLT : Hid (L.length < m) := Nat.lt_of_not_le hr
      obtain ⟨a, c, hv⟩ := h.form
      have c0 := h1.c0
      have c0' := h1.c0
      rw [hv] at c0'
      have HV := Lib.hid hv
      subst ho1
      clear h h1 g1 hn hr hv c0
      unfold Lt.val
      go_enter Try.func20, Try.ntmps20
      go_wp2
      go_quiet (fail)
      go_wp2
      have gA : (w.alloc (.cells #[.int .i64 l.f, .int .i64 l.t, .string l.d] 33)).grownBy ((((w.alloc (.cells #[.int .i64 l.f, .int .i64 l.t, .string l.d] 33)).drewN nq).drew).alloc (.cells #[.int .i64 l.f, .int .i64 l.t, .string l.d] 33)) none := grow_none (grow_drawn (grow_drawnN nq (grow_refl _ none))) (World.grownBy_alloc _ _ none)
      have hA := H1.out.keep gA
      have oA := hA.own
      have rA : ReadK Lt.cells 3 ((((w.alloc (.cells #[.int .i64 l.f, .int .i64 l.t, .string l.d] 33)).drewN nq).drew).alloc (.cells #[.int .i64 l.f, .int .i64 l.t, .string l.d] 33)) (.slice (some ⟨w.heap.size + 1, 0, none⟩) 1 1) [l] := by
        have := ReadK.one Lt.len ((w.alloc (.cells #[.int .i64 l.f, .int .i64 l.t, .string l.d] 33)).drewN nq).drew l 33 1 #[.int .i64 l.f, .int .i64 l.t, .string l.d] rfl
        simpa using this
      have F4 : Hid (∀ w4 : World, ((((w.alloc (.cells #[.int .i64 l.f, .int .i64 l.t, .string l.d] 33)).drewN nq).drew).alloc (.cells #[.int .i64 l.f, .int .i64 l.t, .string l.d] 33)).grownBy w4 v.ownBlock → w4.frozen? ⟨b, 0, none⟩ = false ∧ w4.cell? ⟨b, 0, none⟩ = some v) := fun w4 g4 => have h5 := hA.blk.kept g4 (fun e => hA.far e.symm); ⟨h5.frozen 0, h5.cell 0 (by simp)⟩
      have HA := Lib.hid hA
      have GA := Lib.hid gA
      rw [HV.out] at oA
      clear hA gA
      go_region_law (((with_reducible show (if Region.wanted (Oper.mk _ (Op.call { callee := .builtin .append, args := _, argTypes := _ }) _ _ _ _) _ = true then _ else _)); refine step_append_k (.tmp 37) (.tmp 39) 40 (by with_reducible rfl) 33 i0 _ 32 Lt.len Lt.ones (by omega) Try.underlying40 hi hz0 hz1 hz2 rfl _ rfl oA _ rfl rA (by have := HLT.out; show _ + 1 ≤ 2^63-1; omega) (by have := HLT.out; show (_ + 1) * 32 ≤ _; omega) rfl ?_; intro v4 w4 o4 g4 m4; obtain ⟨f4, f5⟩ := F4.out w4 (by rw [HV.out]; exact g4); obtain ⟨a4, c4, rfl⟩ := o4.read.len))
      all_goals
        obtain ⟨p1, p2⟩ := HA.out.store (by rw [HV.out]; exact g4) (Kept.of_moved (by rw [HV.out]; exact m4) (Nat.le_refl _)) o4 (by have := HLT.out; simp; omega)
        have k4 : Kept w.heap.size v _ := Kept.of_moved (w := ((((w.alloc (.cells #[.int .i64 l.f, .int .i64 l.t, .string l.d] 33)).drewN nq).drew).alloc (.cells #[.int .i64 l.f, .int .i64 l.t, .string l.d] 33))) (by rw [HV.out]; exact m4) (grow_none G1.out GA.out).size
        rw [List.length_append, List.length_singleton] at p1 p2 k4
        go_wp2
        go_ret
        exact ⟨by rw [HC.out.1]; rfl, by rw [HC.out.2]; exact ⟨_, p1, (Chg.of_none (grow_none G1.out GA.out) (S := PS b v)).trans p2 (fun _ _ h => h), k4⟩⟩
set_option maxRecDepth 100000 in
set_option maxHeartbeats 1000000 in
theorem refAt_any (t : TypeId) (b : Nat) (v : Value) (L : List Lt) (m : Nat) (k : Int) (w : World) (h : PAt t w b v L m) :
    Calls Try.prog 24 #[.pointer (some ⟨b, 0, none⟩), .int .i64 k] w fun e w' => e = .returned (.tuple #[(atL L k).val, .bool (kthB k L.length)]) ∧ w.grownBy w' none := by
  obtain ⟨o1, ho1⟩ : ∃ o1 : Obj, o1 = .cells #[.int .i64 0, .int .i64 0, .string ⟨#[]⟩] 33 := ⟨_, rfl⟩
  have g1 : w.grownBy (w.alloc o1) none := World.grownBy_alloc w o1 none
  have h1 := h.keep g1
  have hb := h.lt
  have hmm := h.most
  have hml := h.len
  obtain ⟨a, c, rfl⟩ := h.form
  have c0 := h1.c0
  have hli : (L.length : Int) ≤ 512 := by omega
  have H1 := Lib.hid h1
  have G1 := Lib.hid g1
  have HR := Lib.hid h1.own.read
  subst ho1
  clear h h1 g1
  go_enter Try.func24, Try.ntmps24
  go_wp2
  go_loop [6] (fun i => ∃ j : Nat, j ≤ L.length ∧ i = .int .i64 j ∧ ((k < 0 ∨ (j : Int) ≤ k))) (fun i => L.length - (intOf i).toNat)
  case atStart => exact ⟨0, Nat.zero_le _, rfl, by omega⟩
  case round =>
    obtain ⟨j, hj, rfl, hkj⟩ := hrel
    by_cases hlt : j < L.length
    · have i1 : (j : Int) < L.length := by omega
      have i2 : (j : Int) ≤ 512 := by omega
      by_cases he : (j : Int) = k
      · subst he
        have HK := Lib.hid (atL_yes hlt)
        obtain ⟨l, hl⟩ : ∃ l, l = L[j] := ⟨_, rfl⟩
        rw [← hl] at HK
        obtain ⟨g, off, rfl, hg, r0, r1, r2⟩ := lt_at HR.out rfl j hlt l (by rw [hl, List.getElem?_eq_getElem])
        clear hl hkj
        go_wp2
        refine bodyPost_ret (v := .tuple #[l.val, .bool true]) ?_ ?_ ?_
        · simp [results, go_sem, Lt.val]
        · rfl
        · exact ⟨by rw [HK.out.1, HK.out.2], World.grownBy_alloc _ _ _⟩
      · have e1 : ((j : Int) == k) = false := by simpa using he
        clear he
        go_wp2
        go_round
        case rel => exact ⟨j + 1, by omega, by go_num, by simp at e1; omega⟩
        case measure => simp [intOf]; omega
    · obtain rfl : j = L.length := by omega
      have HK : Hid (kthB k L.length = false) := by show _ = _; unfold kthB; exact decide_eq_false (by omega)
      clear hkj
      go_wp2
      refine bodyPost_ret (v := .tuple #[Lt.val ⟨0, 0, ⟨#[]⟩⟩, .bool false]) ?_ ?_ ?_
      · simp [results, go_sem, Lt.val]
      · rfl
      · exact ⟨by rw [HK.out, atL_no HK.out], World.grownBy_alloc _ _ _⟩
end Go.Proofs.Ytpmfgjhkdokcbaa
