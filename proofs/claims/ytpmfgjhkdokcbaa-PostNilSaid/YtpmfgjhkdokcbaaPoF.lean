/- Stage 6: the document's Take and Twin. -/
import Derived.Test.YtpmfgjhkdokcbaaPoE
namespace Go.Proofs.Ytpmfgjhkdokcbaa
open Go.RowKit
set_option linter.unusedVariables false
def restT (L : List Lt) (k j : Nat) : List Lt := (L.take j).eraseIdx k
theorem restT_zero (L : List Lt) (k : Nat) : restT L k 0 = [] := by simp [restT]
theorem restT_all (L : List Lt) (k : Nat) : restT L k L.length = L.eraseIdx k := by rw [restT, List.take_length]
theorem restT_len (L : List Lt) (k j : Nat) : (restT L k j).length ≤ j := by
  unfold restT
  have := List.length_eraseIdx_le (L.take j) k
  rw [List.length_take] at this; omega
theorem restT_skip (L : List Lt) (k : Nat) (h : k < L.length) : restT L k (k + 1) = restT L k k := by
  have hl : (L.take k).length = k := by rw [List.length_take]; omega
  unfold restT
  rw [take_snocL L k h, List.eraseIdx_append_of_length_le (by omega), hl, Nat.sub_self, List.eraseIdx_of_length_le (l := L.take k) (by omega)]
  simp
theorem restT_next (L : List Lt) (k j : Nat) (hj : j < L.length) (hne : j ≠ k) : restT L k (j + 1) = restT L k j ++ [L[j]] := by
  have hl : (L.take j).length = j := by rw [List.length_take]; omega
  unfold restT
  rw [take_snocL L j hj]
  rcases Nat.lt_or_ge k j with h | h
  · rw [List.eraseIdx_append_of_lt_length (by omega)]
  · rw [List.eraseIdx_append_of_length_le (by omega), List.eraseIdx_of_length_le (l := L.take j) (by omega), List.eraseIdx_of_length_le (by simp; omega)]
set_option maxRecDepth 100000 in
set_option maxHeartbeats 2000000 in
theorem refTake_any (t : TypeId) (b : Nat) (v : Value) (L : List Lt) (m : Nat) (k : Int) (w : World) (h : PAt t w b v L m) :
    Calls Try.prog 21 #[.pointer (some ⟨b, 0, none⟩), .int .i64 k] w fun e w' => e = .returned (.tuple #[(atL L k).val, .int .i64 (takeC L k)]) ∧ PEnd t b v (takeR L k) m w w' := by
  have hb := h.lt
  obtain ⟨l, hl⟩ : ∃ l, l = atL L k := ⟨_, rfl⟩
  rw [← hl]
  have HLK := Lib.hid hl
  clear hl
  have H := Lib.hid h
  rcases hkb : kthB k L.length with _ | _
  · have HC : Hid (takeC L k = 51 ∧ takeR L k = L) := ⟨by unfold takeC; rw [hkb]; rfl, by unfold takeR; rw [hkb]; rfl⟩
    have HK := Lib.hid hkb
    clear hkb h
    go_enter Try.func21, Try.ntmps21
    go_wp2_with fail
    refine (refAt_any t b v L m k _ (H.out.keep (World.grownBy_alloc _ _ _))).mono ?_
    rintro e w1 ⟨rfl, g1⟩
    rw [HK.out, ← HLK.out]
    have bR := (Blk.new w 33 [.int .i64 0, .int .i64 0, .string ⟨#[]⟩]).keep g1
    have G1 := Lib.hid (grow_none (World.grownBy_alloc w (.cells #[.int .i64 0, .int .i64 0, .string ⟨#[]⟩] 33) none) g1)
    have R0 := bR.cell 0 (by simp)
    have R1 := bR.cell 1 (by simp)
    have R2 := bR.cell 2 (by simp)
    have F0 := bR.frozen 0
    have F1 := bR.frozen 1
    have F2 := bR.frozen 2
    have bRs := (((bR.set_ 0 (.int .i64 l.f)).set_ 1 (.int .i64 l.t)).set_ 2 (.string l.d)).alloc (.cells #[.int .i64 l.f, .int .i64 l.t, .string l.d] 33)
    have q0 := bRs.cell 0 (by simp)
    have q1 := bRs.cell 1 (by simp)
    have q2 := bRs.cell 2 (by simp)
    simp only [List.set_cons_zero, List.set_cons_succ, List.getD_cons_zero, List.getD_cons_succ] at q0 q1 q2
    have hs1 : w.heap.size < w1.heap.size := by have := bR.lt; omega
    clear bR bRs g1
    unfold Lt.val
    go_wp2
    refine bodyPost_ret (v := .tuple #[l.val, .int .i64 51]) ?_ ?_ ?_
    · simp [results, go_sem, Lt.val, q0, q1, q2]
    · rfl
    · exact ⟨by rw [HC.out.1], by rw [HC.out.2]; exact PEnd.same H.out (grow_none (grow_setnew (grow_setnew (grow_setnew G1.out (a := ⟨w.heap.size, 0, none⟩) (Nat.le_refl _) _) (a := ⟨w.heap.size, 1, none⟩) (Nat.le_refl _) _) (a := ⟨w.heap.size, 2, none⟩) (Nat.le_refl _) _) (World.grownBy_alloc _ _ _))⟩
  · obtain ⟨j0, rfl, hj0⟩ := kthB_nat hkb
    have HC : Hid (takeC L (j0 : Int) = 0 ∧ takeR L (j0 : Int) = L.eraseIdx j0) := ⟨by unfold takeC; rw [hkb]; rfl, by unfold takeR; rw [hkb]; rfl⟩
    have HK := Lib.hid hkb
    obtain ⟨i0, hi, hz0, hz1, hz2⟩ := info_parts info_lt
    have hmm := h.most
    have hml := h.len
    have hli : (L.length : Int) ≤ 512 := by omega
    clear hkb h
    go_enter Try.func21, Try.ntmps21
    go_wp2_with fail
    refine (refAt_any t b v L m j0 _ (H.out.keep (World.grownBy_alloc _ _ _))).mono ?_
    rintro e w1 ⟨rfl, g1⟩
    rw [HK.out, ← HLK.out]
    have bR := (Blk.new w 33 [.int .i64 0, .int .i64 0, .string ⟨#[]⟩]).keep g1
    have hs1 : w.heap.size < w1.heap.size := by have := bR.lt; omega
    have hRL : Hid (Blk (w1.alloc (.cells #[.int .i64 l.f, .int .i64 l.t, .string l.d] 33)) w.heap.size 33 [.int .i64 0, .int .i64 0, .string ⟨#[]⟩] ∧
      Blk (w1.alloc (.cells #[.int .i64 l.f, .int .i64 l.t, .string l.d] 33)) w1.heap.size 33 [.int .i64 l.f, .int .i64 l.t, .string l.d] ∧
      w.grownBy (w1.alloc (.cells #[.int .i64 l.f, .int .i64 l.t, .string l.d] 33)) none) :=
      ⟨bR.alloc _, Blk.new w1 _ [.int .i64 l.f, .int .i64 l.t, .string l.d], grow_none (grow_none (World.grownBy_alloc w _ none) g1) (World.grownBy_alloc _ _ _)⟩
    clear bR g1
    unfold Lt.val
    go_wp2
    go_loopw [8, 9] (fun u i wr => ∃ j : Nat, j ≤ L.length ∧ i = .int .i64 j ∧ OwnK Lt.cells 3 33 wr u (restT L j0 j) ∧ NewBlk (w1.alloc (.cells #[.int .i64 l.f, .int .i64 l.t, .string l.d] 33)) u ∧ (w1.alloc (.cells #[.int .i64 l.f, .int .i64 l.t, .string l.d] 33)).grownBy wr none) (fun _ i _ => L.length - (intOf i).toNat)
    case atStart => exact ⟨0, Nat.zero_le _, rfl, by rw [restT_zero]; exact OwnK.nil _ _, newblk_nil _, grow_refl _ _⟩
    case round =>
      obtain ⟨j, hj, rfl, ho, hnb, hg⟩ := hrel
      obtain ⟨h0, h1, h2⟩ := hRL.out
      have hP := (H.out.keep h2).keep hg
      obtain ⟨a, c, rfl⟩ := hP.form
      have c0 := hP.c0
      have HP := Lib.hid hP
      have h1g := h1.keep hg
      have h0g := h0.keep hg
      have hj5 : (j : Int) ≤ 512 := by omega
      have HR := Lib.hid (hP.own.read)
      clear h0 h1 h2 hP
      by_cases hlt : j < L.length
      · have i1 : (j : Int) < L.length := by omega
        by_cases he : j = j0
        · subst he
          have ho2 : OwnK Lt.cells 3 33 wr u8 (restT L j (j + 1)) := by rw [restT_skip L j hlt]; exact ho
          have e1 : ((j : Int) != (j : Int)) = false := by simp
          have HO := Lib.hid ho2
          clear ho ho2
          go_wp2
          go_roundw
          case rel => exact ⟨j + 1, by omega, by go_num, HO.out, hnb, hg⟩
          case measure => simp [intOf]; omega
        · obtain ⟨x, hx⟩ : ∃ x, x = L[j] := ⟨_, rfl⟩
          obtain ⟨g, off, rfl, hgl, r0, r1, r2⟩ := lt_at HR.out rfl j hlt x (by rw [hx, List.getElem?_eq_getElem])
          have e1 : ((j : Int) != (j0 : Int)) = true := by simp; omega
          have HX : Hid (restT L j0 j ++ [x] = restT L j0 (j + 1)) := by show _ = _; rw [hx, restT_next L j0 j hlt he]
          have hl5 : (restT L j0 j).length ≤ 512 := by have := restT_len L j0 j; omega
          have oA := ho.keep (World.grownBy_alloc wr (.cells #[.int .i64 x.f, .int .i64 x.t, .string x.d] 33) none)
          have rA := ReadK.one Lt.len wr x 33 1 #[.int .i64 x.f, .int .i64 x.t, .string x.d] rfl
          have HL5 := Lib.hid hl5
          clear hx he ho hl5
          go_wp2_with (at_builtin; refine wpList_append_k rfl _ _ 40 rfl 33 i0 _ 32 Lt.len Lt.ones (by omega) Try.underlying40 hi hz0 hz1 hz2 rfl _ rfl oA _ rfl rA (by have := HL5.out; show _ + 1 ≤ 2^63-1; omega) (by have := HL5.out; show (_ + 1) * 32 ≤ _; omega) ?_)
          intro v4 w4 o4 g4 m4
          have X4 := grow_newblk (grow_none hg (World.grownBy_alloc wr (.cells #[.int .i64 x.f, .int .i64 x.t, .string x.d] 33) none)) hnb g4
          have N4 := hnb.moved (grow_none hg (World.grownBy_alloc wr (.cells #[.int .i64 x.f, .int .i64 x.t, .string x.d] 33) none)).size m4
          rw [HX.out] at o4
          clear oA rA g4 m4
          go_wp2
          go_roundw
          case rel => exact ⟨j + 1, by omega, by go_num, o4, N4, X4⟩
          case measure => simp [intOf]; omega
      · obtain rfl : j = L.length := by omega
        rw [restT_all] at ho
        obtain ⟨a8, k8, rfl⟩ := ho.read.len
        have f0 := HP.out.fr 0
        have ne1 : b ≠ w1.heap.size := by omega
        have ne2 : b ≠ w.heap.size := by omega
        have ne3 : w.heap.size ≠ w1.heap.size := by omega
        have M0 := h1g.cell 0 (by simp)
        have M1 := h1g.cell 1 (by simp)
        have M2 := h1g.cell 2 (by simp)
        have R0 := h0g.cell 0 (by simp)
        have R1 := h0g.cell 1 (by simp)
        have R2 := h0g.cell 2 (by simp)
        have F0 := h0g.frozen 0
        have F1 := h0g.frozen 1
        have F2 := h0g.frozen 2
        have bRs := (((h0g.far (p := ⟨b, 0, none⟩) (by simp; omega) (.slice a8 (L.eraseIdx j0).length k8)).set_ 0 (.int .i64 l.f)).set_ 1 (.int .i64 l.t)).set_ 2 (.string l.d)
        have q0 := bRs.cell 0 (by simp)
        have q1 := bRs.cell 1 (by simp)
        have q2 := bRs.cell 2 (by simp)
        simp only [List.set_cons_zero, List.set_cons_succ, List.getD_cons_zero, List.getD_cons_succ] at q0 q1 q2
        have hle : (L.eraseIdx j0).length ≤ m := by have := List.length_eraseIdx_le L j0; omega
        have hgo := Lib.hid (H.out.keep (hRL.out.2.2))
        have HST := Lib.hid ((H.out.store (w4 := wr) (grow_to (grow_none hRL.out.2.2 hg)) (fun g' hg' => .inr (by have := hnb g' hg'; simp at this; omega)) ho hle))
        have HNB := Lib.hid hnb
        obtain ⟨N, hN⟩ : ∃ N, N = (L.eraseIdx j0).length := ⟨_, rfl⟩
        rw [← hN] at q0 q1 q2 HST HNB
        rw [← hN]
        clear hN ho hnb bRs h0g h1g
        go_wp2
        refine bodyPost_ret (v := .tuple #[l.val, .int .i64 0]) ?_ ?_ ?_
        · simp [results, go_sem, Lt.val, q0, q1, q2]
        · rfl
        · obtain ⟨p1, p2⟩ := HST.out
          have hx : ∀ g', (Value.slice a8 N k8).ownBlock = some g' → w.heap.size < g' := fun g' hg' => by have := HNB.out g' hg'; simp at this; omega
          exact ⟨by rw [HC.out.1], by rw [HC.out.2]; exact ⟨_, ((p1.setfar (a := ⟨w.heap.size, 0, none⟩) (by simp; omega) (fun e => Nat.lt_irrefl _ (hx _ e)) _).setfar (a := ⟨w.heap.size, 1, none⟩) (by simp; omega) (fun e => Nat.lt_irrefl _ (hx _ e)) _).setfar (a := ⟨w.heap.size, 2, none⟩) (by simp; omega) (fun e => Nat.lt_irrefl _ (hx _ e)) _, ((p2.setnew (Nat.le_refl _) _).setnew (Nat.le_refl _) _).setnew (Nat.le_refl _) _, fun g' hg' => .inr (Nat.le_of_lt (hx g' hg'))⟩⟩
set_option maxRecDepth 100000 in
set_option maxHeartbeats 1000000 in
theorem refTwin_any (t : TypeId) (ht : t = 48) (b : Nat) (v : Value) (L : List Lt) (m : Nat) (k : Int) (w : World) (h : PAt t w b v L m) :
    Calls Try.prog 22 #[.pointer (some ⟨b, 0, none⟩), .int .i64 k] w fun e w' => e = .returned (.int .i64 (twinC L m k)) ∧ PEnd t b v (twinR L m k) m w w' := by
  have hb := h.lt
  obtain ⟨l, hl⟩ : ∃ l, l = atL L k := ⟨_, rfl⟩
  have H := Lib.hid h
  rcases hkb : kthB k L.length with _ | _
  · have HK := Lib.hid hkb
    have HL := Lib.hid hl
    have HC : Hid (twinC L m k = 51 ∧ twinR L m k = L) := ⟨by unfold twinC; rw [hkb]; rfl, by unfold twinR; rw [hkb]; rfl⟩
    clear hkb h hl
    go_enter Try.func22, Try.ntmps22
    go_wp2_with fail
    refine (refAt_any t b _ L m k _ H.out).mono ?_
    rintro e w1 ⟨rfl, g1⟩
    rw [HK.out, ← HL.out]
    unfold Lt.val
    go_wp2
    go_ret
    exact ⟨by rw [HC.out.1]; rfl, by rw [HC.out.2]; exact PEnd.same H.out (grow_none g1 (World.grownBy_alloc _ _ _))⟩
  · have HK := Lib.hid hkb
    have HL := Lib.hid hl
    have HC : Hid (twinC L m k = sendC L m l ∧ twinR L m k = sendL L m l) := ⟨by unfold twinC; rw [hkb, hl]; rfl, by unfold twinR; rw [hkb, hl]; rfl⟩
    clear hkb h hl
    go_enter Try.func22, Try.ntmps22
    go_wp2_with fail
    refine (refAt_any t b _ L m k _ H.out).mono ?_
    rintro e w1 ⟨rfl, g1⟩
    rw [HK.out, ← HL.out]
    have g2 := grow_none g1 (World.grownBy_alloc w1 (.cells #[.int .i64 l.f, .int .i64 l.t, .string l.d] 33) none)
    have H2 := Lib.hid (H.out.keep g2)
    clear g1
    unfold Lt.val
    go_wp2_with fail
    refine (refSend_any t ht b _ L m l _ H2.out).mono ?_
    rintro e w3 ⟨rfl, hE⟩
    go_wp2
    go_ret
    exact ⟨by rw [HC.out.1]; rfl, by rw [HC.out.2]; exact PEnd.front g2 hE⟩
end Go.Proofs.Ytpmfgjhkdokcbaa
