/- Stage 6: what is taken, and is there twice. -/
import Derived.Test.YtpmfgjhkdokcbaaPoD
namespace Go.Proofs.Ytpmfgjhkdokcbaa
open Go.RowKit
set_option linter.unusedVariables false
theorem take_snocL {α : Type} (L : List α) (j : Nat) (h : j < L.length) : L.take (j + 1) = L.take j ++ [L[j]] := List.take_succ_eq_append_getElem h
theorem eraseIdx_eq (L : List Lt) (k : Nat) : L.take k ++ L.drop (k + 1) = L.eraseIdx k := (List.eraseIdx_eq_take_drop_succ L k).symm
set_option maxRecDepth 100000 in
set_option maxHeartbeats 1000000 in
theorem remove_any (t : TypeId) (b : Nat) (v : Value) (L : List Lt) (m : Nat) (k : Nat) (w : World) (h : PAt t w b v L m) (hk : k < L.length) :
    Calls Try.prog 29 #[.pointer (some ⟨b, 0, none⟩), .int .i64 k] w fun e w' => e = .returned (L[k]).val ∧ PEnd t b v (L.eraseIdx k) m w w' := by
  obtain ⟨a, c, hv⟩ := h.form
  obtain ⟨l, hl⟩ : ∃ l, l = L[k] := ⟨_, rfl⟩
  rw [← hl]
  have hlk : L[k]? = some l := by rw [hl, List.getElem?_eq_getElem]
  obtain ⟨o1, ho1⟩ : ∃ o1 : Obj, o1 = .cells #[.int .i64 0, .int .i64 0, .string ⟨#[]⟩] 33 := ⟨_, rfl⟩
  obtain ⟨o2, ho2⟩ : ∃ o2 : Obj, o2 = .cells #[.int .i64 l.f, .int .i64 l.t, .string l.d] 33 := ⟨_, rfl⟩
  have gA : w.grownBy ((w.alloc o1).alloc o2) none := grow_alloc w o1 (World.grownBy_alloc _ o2 none)
  have hA := h.keep gA
  have h1 := h.keep (World.grownBy_alloc w o1 none)
  have hb := h.lt
  have hmm := h.most
  have hml := h.len
  have hli : (L.length : Int) ≤ 512 := by omega
  have i1 : (k : Int) < L.length := by omega
  have i0 : (0 : Int) ≤ k := by omega
  subst hv
  obtain ⟨g, rfl⟩ : ∃ g, a = some ⟨g, 0, none⟩ := by
    rcases h.own.2 with ⟨h0, h2⟩ | ⟨g, cap, cur, h0, _⟩
    · rw [h2] at hk; exact absurd hk (Nat.not_lt_zero _)
    · injection h0 with e1 _ _; exact ⟨g, e1⟩
  obtain ⟨g', off, hge, hg, r0, r1, r2⟩ := lt_at h.own.read rfl k hk l hlk
  injection hge with hge; injection hge with hge1 hge2
  subst hge1 hge2
  simp only [Nat.zero_add] at r0 r1 r2
  have c0 := h.c0
  have oA := hA.own
  have HA := Lib.hid hA
  have GA := Lib.hid gA
  have HFAR : Hid (g ≠ b) := fun e => h.far (by rw [e]; rfl)
  have HL : Hid ((L.eraseIdx k).length = L.length - 1 ∧ (L.take k ++ L.drop (k + 1)) = L.eraseIdx k) := ⟨by rw [List.length_eraseIdx, if_pos hk], eraseIdx_eq L k⟩
  clear hl hlk h h1 hA gA
  subst ho1 ho2
  go_enter Try.func29, Try.ntmps29
  go_wp2_with fail
  refine (Delete_any g L.length c L k _ oA hk (by omega)).mono ?_
  rintro e w3 ⟨rfl, g3, o3⟩
  have hz3 := g3.size
  simp only [World.size_alloc] at hz3
  have b3 := HA.out.blk.kept g3 (by intro e; injection e with e; exact HFAR.out e.symm)
  have c3 := b3.cell 0 (by simp)
  have f3 := b3.frozen 0
  have hne : g ≠ w.heap.size := by omega
  have hne1 : g ≠ w.heap.size + 1 := by omega
  obtain ⟨bR, bL⟩ := two_blks w [.int .i64 0, .int .i64 0, .string ⟨#[]⟩] [.int .i64 l.f, .int .i64 l.t, .string l.d] 33 33
  have bR3 := bR.kept g3 (by intro e; injection e with e; exact hne e.symm)
  have bL3 := bL.kept g3 (by intro e; injection e with e; exact hne1 e.symm)
  have R0 := bR3.cell 0 (by simp)
  have R1 := bR3.cell 1 (by simp)
  have R2 := bR3.cell 2 (by simp)
  have F0 := bR3.frozen 0
  have F1 := bR3.frozen 1
  have F2 := bR3.frozen 2
  have L0 := bL3.cell 0 (by simp)
  have L1 := bL3.cell 1 (by simp)
  have L2 := bL3.cell 2 (by simp)
  have HST := Lib.hid (HA.out.store (v4 := .slice (some ⟨g, 0, none⟩) (L.length - 1) c) g3 (Kept.refl _ _) o3 (by rw [HL.out.2, HL.out.1]; omega))
  have bRs := (((bR3.far (p := ⟨b, 0, none⟩) (by simp; omega) (.slice (some ⟨g, 0, none⟩) (L.length - 1) c)).set_ 0 (.int .i64 l.f)).set_ 1 (.int .i64 l.t)).set_ 2 (.string l.d)
  have q0 := bRs.cell 0 (by simp)
  have q1 := bRs.cell 1 (by simp)
  have q2 := bRs.cell 2 (by simp)
  simp only [List.set_cons_zero, List.set_cons_succ, List.getD_cons_zero, List.getD_cons_succ] at q0 q1 q2
  clear bR bL bR3 bL3 b3 o3 g3 oA bRs
  go_wp2
  refine bodyPost_ret (v := l.val) ?_ ?_ ?_
  · simp [results, go_sem, Lt.val, q0, q1, q2]
  · rfl
  · obtain ⟨p1, p2⟩ := HST.out
    have gA := GA.out
    rw [HL.out.2] at p1
    refine ⟨rfl, _, ((p1.setfar (a := ⟨w.heap.size, 0, none⟩) (by simp; omega) (by intro e; injection e with e; exact hne e) _).setfar (a := ⟨w.heap.size, 1, none⟩) (by simp; omega) (by intro e; injection e with e; exact hne e) _).setfar (a := ⟨w.heap.size, 2, none⟩) (by simp; omega) (by intro e; injection e with e; exact hne e) _, ((((Chg.of_none gA (S := PS b _)).trans p2 (fun _ _ h => h)).setnew (Nat.le_refl _) _).setnew (Nat.le_refl _) _).setnew (Nat.le_refl _) _, Kept.refl _ _⟩
theorem PEnd.setres {t : TypeId} {w w3 : World} {b : Nat} {v : Value} {L L' : List Lt} {m : Nat} {o : Obj} (h : PAt t w b v L m) (hE : PEnd t b v L' m (w.alloc o) w3) (u1 u2 u3 : Value) :
    PEnd t b v L' m w (((w3.setCell ⟨w.heap.size, 0, none⟩ u1).setCell ⟨w.heap.size, 1, none⟩ u2).setCell ⟨w.heap.size, 2, none⟩ u3) := by
  obtain ⟨v', p, c, k⟩ := hE
  have hb := h.lt
  have h1 : w.heap.size ≠ b := by omega
  have h2 : v'.ownBlock ≠ some w.heap.size := by
    intro e
    rcases k _ e with k | k
    · have := h.own.lt k; omega
    · simp at k; omega
  refine ⟨v', ((p.setfar (a := ⟨w.heap.size, 0, none⟩) h1 h2 _).setfar (a := ⟨w.heap.size, 1, none⟩) h1 h2 _).setfar (a := ⟨w.heap.size, 2, none⟩) h1 h2 _, ?_, k.mono (by simp)⟩
  exact ((((Chg.of_none (World.grownBy_alloc w o none) (S := PS b v)).trans c (fun _ _ h => h)).setnew (Nat.le_refl _) _).setnew (Nat.le_refl _) _).setnew (Nat.le_refl _) _
theorem PEnd.res {t : TypeId} {w w3 : World} {b : Nat} {v : Value} {L L' : List Lt} {m : Nat} {xs : List Value} {T : TypeId} (h : PAt t w b v L m) (hE : PEnd t b v L' m (w.alloc (.cells xs.toArray T)) w3) : Blk w3 w.heap.size T xs := by
  obtain ⟨v', p, c, k⟩ := hE
  refine c.blk (Blk.new w T xs) ?_
  rintro (e | e)
  · have := h.lt; omega
  · have := h.own.lt e; omega
def takeC (L : List Lt) (k : Int) : Int := if kthB k L.length then 0 else 51
def takeR (L : List Lt) (k : Int) : List Lt := if kthB k L.length then L.eraseIdx k.toNat else L
set_option maxRecDepth 100000 in
set_option maxHeartbeats 1000000 in
theorem Take_any (t : TypeId) (b : Nat) (v : Value) (L : List Lt) (m : Nat) (k : Int) (w : World) (h : PAt t w b v L m) :
    Calls Try.prog 14 #[.pointer (some ⟨b, 0, none⟩), .int .i64 k] w fun e w' => e = .returned (.tuple #[(atL L k).val, .int .i64 (takeC L k)]) ∧ PEnd t b v (takeR L k) m w w' := by
  have hb := h.lt
  rcases hkb : kthB k L.length with _ | _
  · have HK := Lib.hid hkb
    have HA := Lib.hid (atL_no hkb)
    have HC : Hid (takeC L k = 51 ∧ takeR L k = L) := ⟨by unfold takeC; rw [hkb]; rfl, by unfold takeR; rw [hkb]; rfl⟩
    clear hkb
    go_enter Try.func14, Try.ntmps14
    go_wp2_with fail
    refine (kth_any t b _ L m k _ (h.keep (World.grownBy_alloc _ _ _))).mono ?_
    rintro e w1 ⟨rfl, rfl⟩
    rw [HK.out]
    go_wp2
    refine bodyPost_ret (v := .tuple #[Lt.val ⟨0, 0, ⟨#[]⟩⟩, .int .i64 51]) ?_ ?_ ?_
    · simp [results, go_sem, Lt.val]
    · rfl
    · exact ⟨by rw [HA.out, HC.out.1], by rw [HC.out.2]; exact PEnd.same h (World.grownBy_alloc _ _ _)⟩
  · obtain ⟨j, rfl, hj⟩ := kthB_nat hkb
    have HK := Lib.hid hkb
    have HA := Lib.hid (atL_yes hj).2
    have HC : Hid (takeC L (j : Int) = 0 ∧ takeR L (j : Int) = L.eraseIdx j) := ⟨by unfold takeC; rw [hkb]; rfl, by unfold takeR; rw [hkb]; rfl⟩
    obtain ⟨l, hl⟩ : ∃ l, l = L[j] := ⟨_, rfl⟩
    have HL := Lib.hid hl
    clear hkb hl
    go_enter Try.func14, Try.ntmps14
    go_wp2_with fail
    refine (kth_any t b _ L m j _ (h.keep (World.grownBy_alloc _ _ _))).mono ?_
    rintro e w1 ⟨rfl, rfl⟩
    rw [HK.out]
    go_wp2_with fail
    refine (remove_any t b _ L m j _ (h.keep (World.grownBy_alloc _ _ _)) hj).mono ?_
    rintro e w3 ⟨rfl, hE⟩
    rw [← HL.out]
    have bR := PEnd.res (xs := [.int .i64 0, .int .i64 0, .string ⟨#[]⟩]) h hE
    have R0 := bR.cell 0 (by simp)
    have R1 := bR.cell 1 (by simp)
    have R2 := bR.cell 2 (by simp)
    have F0 := bR.frozen 0
    have F1 := bR.frozen 1
    have F2 := bR.frozen 2
    have HE := Lib.hid (PEnd.setres h hE)
    have bRs := ((bR.set_ 0 (.int .i64 l.f)).set_ 1 (.int .i64 l.t)).set_ 2 (.string l.d)
    have q0 := bRs.cell 0 (by simp)
    have q1 := bRs.cell 1 (by simp)
    have q2 := bRs.cell 2 (by simp)
    simp only [List.set_cons_zero, List.set_cons_succ, List.getD_cons_zero, List.getD_cons_succ] at q0 q1 q2
    clear bR hE bRs
    unfold Lt.val
    go_wp2
    refine bodyPost_ret (v := .tuple #[l.val, .int .i64 0]) ?_ ?_ ?_
    · simp [results, go_sem, Lt.val, q0, q1, q2]
    · rfl
    · exact ⟨by rw [HA.out, HC.out.1, HL.out], by rw [HC.out.2]; exact HE.out _ _ _⟩
set_option maxRecDepth 100000 in
theorem Take_nil (k : Int) (w : World) : Calls Try.prog 14 #[.pointer none, .int .i64 k] w fun e w' => e = .returned (.tuple #[Lt.val ⟨0, 0, ⟨#[]⟩⟩, .int .i64 2]) ∧ w.grownBy w' none := by
  go_enter Try.func14, Try.ntmps14
  go_wp2
  refine bodyPost_ret (v := .tuple #[Lt.val ⟨0, 0, ⟨#[]⟩⟩, .int .i64 2]) ?_ ?_ ?_
  · simp [results, go_sem, Lt.val]
  · rfl
  · exact ⟨rfl, World.grownBy_alloc _ _ _⟩
def twinC (L : List Lt) (m : Nat) (k : Int) : Int := if kthB k L.length then sendC L m (atL L k) else 51
def twinR (L : List Lt) (m : Nat) (k : Int) : List Lt := if kthB k L.length then sendL L m (atL L k) else L
set_option maxRecDepth 100000 in
set_option maxHeartbeats 1000000 in
theorem Twin_any (t : TypeId) (ht : t = 58) (b : Nat) (v : Value) (L : List Lt) (m : Nat) (k : Int) (w : World) (h : PAt t w b v L m) :
    Calls Try.prog 18 #[.pointer (some ⟨b, 0, none⟩), .int .i64 k] w fun e w' => e = .returned (.int .i64 (twinC L m k)) ∧ PEnd t b v (twinR L m k) m w w' := by
  have hb := h.lt
  have H := Lib.hid h
  rcases hkb : kthB k L.length with _ | _
  · have HK := Lib.hid hkb
    have HC : Hid (twinC L m k = 51 ∧ twinR L m k = L) := ⟨by unfold twinC; rw [hkb]; rfl, by unfold twinR; rw [hkb]; rfl⟩
    clear hkb h
    go_enter Try.func18, Try.ntmps18
    go_wp2_with fail
    refine (kth_any t b _ L m k _ H.out).mono ?_
    rintro e w1 ⟨rfl, rfl⟩
    rw [HK.out]
    go_wp2
    go_ret
    exact ⟨by rw [HC.out.1]; rfl, by rw [HC.out.2]; exact PEnd.same H.out (grow_refl _ _)⟩
  · obtain ⟨j, rfl, hj⟩ := kthB_nat hkb
    have HK := Lib.hid hkb
    obtain ⟨l, hl⟩ : ∃ l, l = L[j] := ⟨_, rfl⟩
    have HC : Hid (twinC L m (j : Int) = sendC L m l ∧ twinR L m (j : Int) = sendL L m l) := ⟨by unfold twinC; rw [hkb, (atL_yes hj).2, hl]; rfl, by unfold twinR; rw [hkb, (atL_yes hj).2, hl]; rfl⟩
    obtain ⟨a, c, rfl⟩ := h.form
    obtain ⟨g, off, rfl, hg, r0, r1, r2⟩ := lt_at h.own.read rfl j hj l (by rw [hl, List.getElem?_eq_getElem])
    have hmm := h.most
    have hml := h.len
    have hli : (L.length : Int) ≤ 512 := by omega
    have i1 : (j : Int) < L.length := by omega
    have i0 : (0 : Int) ≤ j := by omega
    have c0 := h.c0
    clear hkb hl h
    go_enter Try.func18, Try.ntmps18
    go_wp2_with fail
    refine (kth_any t b _ L m j _ H.out).mono ?_
    rintro e w1 ⟨rfl, rfl⟩
    rw [HK.out]
    go_wp2_with fail
    refine (Send_any t ht b _ L m l _ H.out).mono ?_
    rintro e w1 ⟨rfl, hE⟩
    go_wp2
    go_ret
    exact ⟨by rw [HC.out.1]; rfl, by rw [HC.out.2]; exact hE⟩
set_option maxRecDepth 100000 in
theorem Twin_nil (k : Int) (w : World) : Calls Try.prog 18 #[.pointer none, .int .i64 k] w fun e w' => e = .returned (.int .i64 2) ∧ w = w' := by
  go_enter Try.func18, Try.ntmps18
  go_wp2
  go_ret
  exact ⟨rfl, rfl⟩
set_option maxRecDepth 100000 in
theorem Send_nil (l : Lt) (w : World) : Calls Try.prog 13 #[.pointer none, l.val] w fun e w' => e = .returned (.int .i64 2) ∧ w.grownBy w' none := by
  unfold Lt.val
  go_enter Try.func13, Try.ntmps13
  go_wp2
  go_ret
  exact ⟨rfl, World.grownBy_alloc _ _ _⟩
set_option maxRecDepth 100000 in
theorem Purge_nil (v : Value) (w : World) : Calls Try.prog 19 #[.pointer none, v] w fun e w' => e = .returned (.int .i64 0) ∧ w = w' := by
  go_enter Try.func19, Try.ntmps19
  go_wp2
  go_ret
  exact ⟨rfl, rfl⟩
set_option maxRecDepth 100000 in
theorem Copy_nil (w : World) : Calls Try.prog 16 #[.pointer none] w fun e w' => e = .returned (.pointer none) ∧ w = w' := by
  go_enter Try.func16, Try.ntmps16
  go_wp2
  go_ret
  exact ⟨rfl, rfl⟩
end Go.Proofs.Ytpmfgjhkdokcbaa
