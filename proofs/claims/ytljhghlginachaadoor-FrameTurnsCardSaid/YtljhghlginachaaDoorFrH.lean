/- Stage 4: Open, of all bytes; the document's Open. -/
import Derived.Test.YtljhghlginachaaDoorFrM
import Derived.Test.YtljhghlginachaaDoorRfD
namespace Go.Proofs.YtljhghlginachaaDoor
open Go.RowKit
set_option linter.unusedVariables false
theorem opB_len {s : ByteArray} (h : lenOk s) : opB s = (((nextS s).extract 0 4).toList == (⟨(sumB (crcN (payB s))).toArray⟩ : ByteArray).toList) := by
  unfold opB; rw [decide_eq_true h, Bool.true_and]
theorem opB_no {s : ByteArray} (h : ¬ lenOk s) : opB s = false := by
  unfold opB; rw [decide_eq_false h, Bool.false_and]
theorem Open_yes (s : ByteArray) (w : World) (hm : Mv w) (hs : s.size ≤ 1000000000) (h : opB s = true) :
    Calls Tryd.prog 13 #[.string s] w fun e w' => e = .returned (.tuple #[.string (payB s), .string (behB s), .int .i64 0]) ∧ w.grownBy w' none := by
  by_cases hl : lenOk s
  · have hq : false = !(((nextS s).extract 0 4).toList == (⟨(sumB (crcN (payB s))).toArray⟩ : ByteArray).toList) := by rw [← opB_len hl, h]; rfl
    exact Open_len s w hm hs hl false hq
  · rw [opB_no hl] at h; cases h
theorem Open_not (s : ByteArray) (w : World) (hm : Mv w) (hs : s.size ≤ 1000000000) (h : opB s = false) :
    Calls Tryd.prog 13 #[.string s] w fun e w' => e = .returned (.tuple #[.string ⟨#[]⟩, .string ⟨#[]⟩, .int .i64 3]) ∧ w.grownBy w' none := by
  by_cases hl : lenOk s
  · have hq : true = !(((nextS s).extract 0 4).toList == (⟨(sumB (crcN (payB s))).toArray⟩ : ByteArray).toList) := by rw [← opB_len hl, h]; rfl
    exact Open_len s w hm hs hl true hq
  · exact Open_no s w hs hl
theorem rest_zero (s : ByteArray) : rest s 0 = s := by
  unfold rest; rw [List.drop_zero]
theorem Rr.new (w : World) (s : ByteArray) : Rr (w.alloc (.cells #[.string s, .int .i64 0, .bool false] 58)) w.heap.size s 0 false := heap_alloc_new w _
set_option maxRecDepth 100000 in
set_option maxHeartbeats 1000000 in
theorem refOpen_no (s : ByteArray) (w : World) (hs : s.size ≤ 1000000000) (h : ¬ lenOk s) :
    Calls Tryd.prog 14 #[.string s] w fun e w' => e = .returned (.tuple #[.string ⟨#[]⟩, .string ⟨#[]⟩, .bool false]) ∧ w.grownBy w' none := by
  have hnb := getN_bd s
  have hu := getN_used s
  have hns := nextS_size s
  obtain ⟨n, hn⟩ : ∃ n, n = (getN s).1 := ⟨_, rfl⟩
  obtain ⟨t, ht⟩ : ∃ t, t = nextBad s := ⟨_, rfl⟩
  obtain ⟨u, hue⟩ : ∃ u, u = (getN s).2 := ⟨_, rfl⟩
  rw [← hue] at hu hns
  have hc : t = true ∨ (t = false ∧ decide (n < 0) = true) ∨ (t = false ∧ decide (n < 0) = false ∧ decide (1048576 < n) = true) ∨ (t = false ∧ decide (n < 0) = false ∧ decide (1048576 < n) = false ∧ decide ((s.size : Int) - (u : Int) - 4 < n) = true) := by
    unfold lenOk at h
    rw [← hn, ← ht, hns] at h
    cases t
    · simp only [decide_eq_true_eq, decide_eq_false_iff_not]
      simp only [true_and] at h
      right
      by_cases h1 : n < 0
      · exact .inl ⟨trivial, h1⟩
      · by_cases h2 : 1048576 < n
        · exact .inr (.inl ⟨trivial, h1, h2⟩)
        · exact .inr (.inr ⟨trivial, h1, h2, by omega⟩)
    · exact .inl rfl
  have hr := Rr.new w s
  have gA := World.grownBy_alloc w (.cells #[.string s, .int .i64 0, .bool false] 58) none
  rw [← hn] at hnb
  have hui : (u : Int) ≤ s.size := by omega
  have hsi : (s.size : Int) ≤ 1000000000 := by omega
  have HN := Lib.hid hn
  have HT := Lib.hid ht
  have HU := Lib.hid hue
  have HZ := Lib.hid (rest_zero s)
  clear hn ht h hns hue hu
  rcases hc with rfl | ⟨rfl, e1⟩ | ⟨rfl, e1, e2⟩ | ⟨rfl, e1, e2, e3⟩
  all_goals
    go_enter Tryd.func14, Tryd.ntmps14
    go_wp2_with fail
    refine (refRNum_good _ s 0 _ hr (Nat.zero_le _) (by omega)).mono ?_
    rintro e w2 ⟨rfl, x2, g2⟩
    rw [HZ.out] at x2 ⊢
    rw [Nat.zero_add, ← HT.out, ← HU.out] at x2
    rw [← HN.out]
    have G2 := grow_new gA (Nat.le_refl _) g2
    have c1 := x2.c1
    have c2 := x2.c2
    clear gA g2 hr
    go_wp2
    refine bodyPost_ret (v := .tuple #[.string ⟨#[]⟩, .string ⟨#[]⟩, .bool false]) ?_ ?_ ?_
    · simp [results, go_sem]
    · rfl
    · exact ⟨rfl, G2⟩
theorem One_rel {w0 : World} (p : ByteArray) (w : World) {A : ByteArray} (hA : A = ⟨(frB p).toArray⟩) (hp : p.size ≤ 1000000000) (hI : w0.grownBy w none) :
    Calls Tryd.prog 22 #[.string p] w fun e w' => ∃ u, e = .returned u ∧ u = .string A ∧ w0.grownBy w' none ∧ w.grownBy w' none :=
  (One_any p w hp).mono fun e w' ⟨he, g⟩ => ⟨_, he, by rw [hA], grow_none hI g, g⟩
theorem open_doc {s : ByteArray} (h : lenOk s) : opB s = (((bs (frB (payB s))).toList) == (s.extract 0 ((getN s).2 + 4 + payN s)).toList) := by
  obtain ⟨a, b, ha, hp1, hp2, hx, hs, hb, hu⟩ := len_sound h
  have hpn : payN s = (payB s).size := by unfold payN; omega
  have hcut : s.extract 0 ((getN s).2 + 4 + payN s) = bs (numB ((payB s).size : Int) ++ (a ++ (payB s).data.toList)) := by
    obtain ⟨P, hP⟩ : ∃ P, P = payB s := ⟨_, rfl⟩
    rw [hpn, hu]
    rw [← hP] at hs ⊢
    conv => lhs; rw [← bs_self s]
    rw [extract_bs, List.drop_zero, Nat.sub_zero, hs, ← List.append_assoc, ← List.append_assoc, List.take_left', ← List.append_assoc]
    rw [List.length_append, List.length_append, ha, len_bs]
  rw [opB_len h, hcut, hx, Bool.eq_iff_iff, beq_bytes, beq_bytes]
  constructor
  · intro e
    have ea : a = sumB (crcN (payB s)) := bs_inj e
    rw [ea]; rfl
  · intro e
    have e2 := bs_inj e
    unfold frB at e2
    rw [List.append_cancel_left_eq, List.append_cancel_right_eq] at e2
    rw [← e2]; rfl
theorem extract_self (s : ByteArray) (a b : Nat) : s.extract a b = bs ((s.data.toList.drop a).take (b - a)) := by
  have h := extract_bs s.data.toList a b
  rw [bs_self] at h; exact h
theorem len_pay {s : ByteArray} (h : lenOk s) : s.extract ((getN s).2 + 4) ((getN s).2 + 4 + payN s) = payB s ∧ s.extract ((getN s).2 + 4 + payN s) s.size = behB s := by
  have hns := nextS_size s
  have hu := getN_used s
  obtain ⟨h0, h1, h2, h3⟩ := h
  have hx : nextS s = bs (s.data.toList.drop (getN s).2) := nextS_list s
  have hl : s.data.toList.length = s.size := len_bs s
  constructor
  · unfold payB
    rw [extract_self s, hx, extract_bs, List.drop_drop, Nat.add_sub_cancel_left, Nat.add_sub_cancel_left]
  · unfold behB
    have hsz : (nextS s).size = s.size - (getN s).2 := hns
    rw [hsz, extract_self s, hx, extract_bs, List.drop_drop, List.take_of_length_le, List.take_of_length_le]
    · congr 2; omega
    · rw [List.length_drop, hl]; omega
    · rw [List.length_drop, hl]; omega
set_option maxRecDepth 100000 in
set_option maxHeartbeats 1000000 in
theorem refOpen_len (s : ByteArray) (w : World) (hs : s.size ≤ 1000000000) (h : lenOk s) (q : Bool) (hq : q = !opB s) :
    Calls Tryd.prog 14 #[.string s] w fun e w' => e = .returned (if q then .tuple #[.string ⟨#[]⟩, .string ⟨#[]⟩, .bool false] else .tuple #[.string (payB s), .string (behB s), .bool true]) ∧ w.grownBy w' none := by
  obtain ⟨hx1, hx2⟩ := len_pay h
  rw [open_doc h] at hq
  have hu := getN_used s
  have hns := nextS_size s
  obtain ⟨h0, h1, h2, h3⟩ := h
  obtain ⟨n, hn⟩ : ∃ n : Nat, (n : Int) = (getN s).1 := ⟨(getN s).1.toNat, by omega⟩
  have hpn : payN s = n := by unfold payN; omega
  obtain ⟨u, hue⟩ : ∃ u, u = (getN s).2 := ⟨_, rfl⟩
  rw [← hue] at hu hns hx1 hx2 hq
  rw [hpn] at hx1 hx2 hq
  rw [hns] at h3
  rw [← hn] at h2 h3
  obtain ⟨P, hP⟩ : ∃ P, P = payB s := ⟨_, rfl⟩
  obtain ⟨B, hB⟩ : ∃ B, B = behB s := ⟨_, rfl⟩
  obtain ⟨F, hF⟩ : ∃ F, F = bs (frB P) := ⟨_, rfl⟩
  rw [← hP] at hx1 hq ⊢
  rw [← hB] at hx2 ⊢
  rw [← hF] at hq
  have hPs : P.size ≤ 1000000000 := by rw [← hx1, ByteArray.size_extract]; omega
  obtain ⟨C, hC⟩ : ∃ C, C = s.extract 0 (u + 4 + n) := ⟨_, rfl⟩
  rw [← hC] at hq
  have hr := Rr.new w s
  have gA := World.grownBy_alloc w (.cells #[.string s, .int .i64 0, .bool false] 58) none
  have hsi : (s.size : Int) ≤ 1000000000 := by omega
  have hui : (u : Int) + 4 + (n : Int) ≤ s.size := by omega
  have hu4 : (u : Int) + 4 ≤ s.size := by omega
  have d1 : decide ((n : Int) < 0) = false := decide_eq_false (by omega)
  have d2 : decide ((1048576 : Int) < n) = false := decide_eq_false (by omega)
  have d3 : decide ((s.size : Int) - (u : Int) - 4 < (n : Int)) = false := decide_eq_false (by omega)
  have hni : (n : Int) ≤ 1048576 := h2
  have hun : (u : Int) ≤ s.size := by omega
  have HN := Lib.hid hn
  have HT := Lib.hid h0
  have HU := Lib.hid hue
  have HZ := Lib.hid (rest_zero s)
  have HX1 := Lib.hid hx1
  have HX2 := Lib.hid hx2
  have HC := Lib.hid hC
  have HF : Hid (F = ⟨(frB P).toArray⟩) := hF
  have HQ := Lib.hid hq
  have HPS := Lib.hid hPs
  clear hn h0 hns hue h1 h2 h3 hu hP hB hF hC hq hx1 hx2 hpn hPs
  go_enter Tryd.func14, Tryd.ntmps14
  go_wp2_with fail
  refine (refRNum_good _ s 0 _ hr (Nat.zero_le _) (by omega)).mono ?_
  rintro e w2 ⟨rfl, x2, g2⟩
  rw [HZ.out] at x2 ⊢
  rw [Nat.zero_add, HT.out, ← HU.out] at x2
  rw [← HN.out]
  have G2 := grow_new gA (Nat.le_refl _) g2
  have c1 := x2.c1
  have c2 := x2.c2
  clear gA g2 hr
  have q1 : IntKind.i64.wrap ((u : Int) + 4) = (u : Int) + 4 := IntWalk.i64_in _ (by omega)
  have q2 : (0 : Int) ≤ (u : Int) + 4 := by omega
  have q3 : ((u : Int) + 4).toNat = u + 4 := by omega
  have q4 : IntKind.i64.wrap ((u : Int) + 4 + (n : Int)) = (u : Int) + 4 + (n : Int) := IntWalk.i64_in _ (by omega)
  have q5 : (0 : Int) ≤ (u : Int) + 4 + (n : Int) := by omega
  have q6 : ((u : Int) + 4 + (n : Int)).toNat = u + 4 + n := by omega
  have q7 : (u : Int) + 4 ≤ (u : Int) + 4 + (n : Int) := by omega
  have hx1 := HX1.out
  go_wp2
  go_quiet (fail)
  clear hx1
  go_wp2
  have hc0 := HC.out.symm
  refine wp_region_rel (fun W => w2.grownBy W none) (fun W W' => W.grownBy W' none) (by kernel_rfl) (by kernel_rfl) (fun W => grow_refl W none) (grow_drawn (grow_drawnN _ (grow_refl _ _))) ?_
  repeat (refine wpRel_det ?_; apply Exists.intro; refine ⟨fun W hI => ?_, ?_⟩; focus (go_simp; first | exact ⟨rfl, grow_refl _ _⟩ | exact One_rel P _ HF.out HPS.out hI))
  refine wpRel_nil ?_
  intro w7 hI
  have G7 := grow_none G2 hI
  have hq' : (!(F.toList == C.toList)) = q := HQ.out.symm
  go_simp
  have hx2 := HX2.out
  cases q with
  | true =>
    go_wp2
    refine bodyPost_ret (v := .tuple #[.string ⟨#[]⟩, .string ⟨#[]⟩, .bool false]) ?_ ?_ ?_
    · simp [results, go_sem]
    · rfl
    · exact ⟨rfl, G7⟩
  | false =>
    go_wp2
    go_quiet (fail)
    go_wp2
    refine bodyPost_ret (v := .tuple #[.string P, .string B, .bool true]) ?_ ?_ ?_
    · simp [results, go_sem]
    · rfl
    · exact ⟨rfl, grow_drawnN _ G7⟩
theorem refOpen_yes (s : ByteArray) (w : World) (hs : s.size ≤ 1000000000) (h : opB s = true) :
    Calls Tryd.prog 14 #[.string s] w fun e w' => e = .returned (.tuple #[.string (payB s), .string (behB s), .bool true]) ∧ w.grownBy w' none := by
  by_cases hl : lenOk s
  · exact refOpen_len s w hs hl false (by rw [h]; rfl)
  · rw [opB_no hl] at h; cases h
theorem refOpen_not (s : ByteArray) (w : World) (hs : s.size ≤ 1000000000) (h : opB s = false) :
    Calls Tryd.prog 14 #[.string s] w fun e w' => e = .returned (.tuple #[.string ⟨#[]⟩, .string ⟨#[]⟩, .bool false]) ∧ w.grownBy w' none := by
  by_cases hl : lenOk s
  · exact refOpen_len s w hs hl true (by rw [h]; rfl)
  · exact refOpen_no s w hs hl
end Go.Proofs.YtljhghlginachaaDoor
