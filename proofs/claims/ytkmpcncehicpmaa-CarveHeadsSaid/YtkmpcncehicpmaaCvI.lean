/- The law CarveHeads: its walk. -/
import Derived.Test.YtkmpcncehicpmaaCvG
import Derived.Test.YtkmpcncehicpmaaCvM
namespace Go.Proofs.Ytkmpcncehicpmaa
open Go.RowKit
set_option linter.unusedVariables false
theorem row_take {w : World} {p : Option Addr} {n c k : Nat} {l : List ByteArray} (h : RowAt w (.slice p n c) (l.map Value.string)) (hk : k ≤ n) (hn : l.length = n) : RowAt w (.slice p k c) ((l.take k).map Value.string) := by
  obtain ⟨a, c', e, h⟩ := h
  injection e with e1 e2 e3
  subst e1 e3
  have hl : ((l.take k).map Value.string).length = k := by rw [List.length_map, List.length_take]; omega
  refine ⟨p, c, by rw [hl], ?_⟩
  rcases h with h | ⟨b, off, rfl, hb, hc⟩
  · have : l = [] := by simpa using h
    subst this
    left; simp
  · right
    refine ⟨b, off, rfl, hb, fun j hj => ?_⟩
    rw [hl] at hj
    have hj2 : j < l.length := by omega
    rw [hc j (by rw [List.length_map]; exact hj2)]
    simp [List.getD, List.getElem?_take, hj]
theorem app_data (s t : ByteArray) : (s ++ t).data.toList = s.data.toList ++ t.data.toList := by simp
theorem app_size (s t : ByteArray) : (s ++ t).size = s.size + t.size := by simp
theorem Same_rel {w0 : World} (va vb : Value) (a b : List ByteArray) (w : World) (hra : RowAt w va (a.map Value.string)) (hrb : RowAt w vb (b.map Value.string)) (ha : a.length ≤ maxLen) (hb : b.length ≤ maxLen) (he : a = b) (hI : w0.grownBy w none) :
    Calls Try.prog 32 #[va, vb] w fun e w' => ∃ u, e = .returned u ∧ u = .bool true ∧ w0.grownBy w' none ∧ w.grownBy w' none :=
  (Same_any va vb a b w hra hrb ha hb).mono fun e w' ⟨h, g⟩ => ⟨_, h, by rw [decide_eq_true he], grow_none hI g, g⟩
set_option maxRecDepth 100000 in
set_option maxHeartbeats 1000000 in
theorem law_CarveHeads (h : ByteArray) (hh : h.size ≤ maxLen) (a : ByteArray) (ha : a.size ≤ maxLen) (b : ByteArray) (hb : b.size ≤ maxLen) (w : World) :
    Calls Try.prog 16 #[.string h, .string a, .string b] w fun e w' => e = .returned (.bool true) ∧ Below w.heap.size w w' := by
  have hhi : (h.size : Int) ≤ 9223372036854775807 := by unfold maxLen at hh; omega
  have hai : (a.size : Int) ≤ 9223372036854775807 := by unfold maxLen at ha; omega
  have hbi : (b.size : Int) ≤ 9223372036854775807 := by unfold maxLen at hb; omega
  clear hh ha hb
  by_cases h1 : 4096 < h.size ∨ 4096 < a.size ∨ 4096 < b.size
  · obtain ⟨t1, ht1⟩ : ∃ t1, t1 = decide ((4096 : Int) < h.size) := ⟨_, rfl⟩
    obtain ⟨t2, ht2⟩ : ∃ t2, t2 = decide ((4096 : Int) < a.size) := ⟨_, rfl⟩
    obtain ⟨t3, ht3⟩ : ∃ t3, t3 = decide ((4096 : Int) < b.size) := ⟨_, rfl⟩
    have hor : t1 = true ∨ t1 = false ∧ t2 = true ∨ t1 = false ∧ t2 = false ∧ t3 = true := by
      rw [ht1, ht2, ht3]
      simp only [decide_eq_true_eq, decide_eq_false_iff_not]
      omega
    have e1 := ht1.symm
    have e2 := ht2.symm
    have e3 := ht3.symm
    clear ht1 ht2 ht3
    rcases hor with rfl | ⟨rfl, rfl⟩ | ⟨rfl, rfl, rfl⟩
    all_goals
      go_enter Try.func16, Try.ntmps16
      go_wp2_with fail
      refine (awake07_any _).mono ?_
      rintro e w2 ⟨rfl, g2⟩
      go_wp2_with fail
      refine (awake07_any _).mono ?_
      rintro e w3 ⟨rfl, g3⟩
      have G3 := grow_none g2 g3
      clear g2 g3
      go_wp2
      go_ret
      exact ⟨rfl, below_of_none G3⟩
  · have hs1 : h.size ≤ 4096 := by omega
    have hs2 : a.size ≤ 4096 := by omega
    have hs3 : b.size ≤ 4096 := by omega
    have i1 : (h.size : Int) ≤ 4096 := by omega
    have i2 : (a.size : Int) ≤ 4096 := by omega
    have i3 : (b.size : Int) ≤ 4096 := by omega
    have d1 : decide ((4096 : Int) < h.size) = false := decide_eq_false (by omega)
    have d2 : decide ((4096 : Int) < a.size) = false := decide_eq_false (by omega)
    have d3 : decide ((4096 : Int) < b.size) = false := decide_eq_false (by omega)
    have a1 : ¬ (9223372036854775807 < h.size + a.size) := by omega
    have a2 : ¬ (9223372036854775807 < h.size + b.size) := by omega
    obtain ⟨n, hn⟩ : ∃ n, n = h.size / 64 := ⟨_, rfl⟩
    have hni : (h.size : Int) / 64 = (n : Int) := by omega
    have hni2 : Int.tdiv (h.size : Int) 64 = (n : Int) := by rw [Int.tdiv_eq_ediv_of_nonneg (by omega)]; exact hni
    clear h1
    go_enter Try.func16, Try.ntmps16
    go_wp2_with fail
    refine (awake07_any _).mono ?_
    rintro e w2 ⟨rfl, g2⟩
    go_wp2_with fail
    trace_state
    refine (Cut_any (h ++ a) _ (by rw [app_size]; omega)).mono ?_
    rintro e w3 ⟨v3, rfl, r3, _, g3, c3⟩
    have G3 := grow_none g2 g3
    clear g2 g3
    go_wp2_with fail
    refine (Cut_any (h ++ b) _ (by rw [app_size]; omega)).mono ?_
    rintro e w4 ⟨v4, rfl, r4, _, g4, c4⟩
    have G4 := grow_none G3 g4
    have r5 := r3.kept g4
    clear G3 g4 r3
    rw [app_data] at r4 r5
    obtain ⟨x, hx⟩ : ∃ x, x = chunks (h.data.toList ++ a.data.toList) := ⟨_, rfl⟩
    obtain ⟨y, hy⟩ : ∃ y, y = chunks (h.data.toList ++ b.data.toList) := ⟨_, rfl⟩
    have HSM : Hid (x.take n = y.take n) := by show _ = _; rw [hx, hy, hn, ← len_data]; exact heads_same _ _ _
    have hxl : n ≤ x.length := by rw [hx, hn, ← len_data]; exact heads_len _ _
    have hyl : n ≤ y.length := by rw [hy, hn, ← len_data]; exact heads_len _ _
    have hxm : x.length ≤ 1000000 := by rw [hx, chunks_len, List.length_append, len_data, len_data]; unfold cntN; omega
    have hym : y.length ≤ 1000000 := by rw [hy, chunks_len, List.length_append, len_data, len_data]; unfold cntN; omega
    rw [← hx] at r5
    rw [← hy] at r4
    clear hx hy hn
    obtain ⟨p, c, rfl⟩ := row_form r5
    obtain ⟨p', c', rfl⟩ := row_form r4
    have c3' := c3 _ _ _ rfl
    have c4' := c4 _ _ _ rfl
    have k1 : (n : Int) ≤ x.length := by omega
    have k2 : (n : Int) ≤ y.length := by omega
    have k3 : n ≤ c := by omega
    have k4 : n ≤ c' := by omega
    have k5 : (n : Int) ≤ c := by omega
    have k6 : (n : Int) ≤ c' := by omega
    have k7 : (0 : Int) ≤ n := by omega
    have t5 := row_take r5 hxl rfl
    have t4 := row_take r4 hyl rfl
    go_wp2_with fail
    refine wp_region_rel (fun w => w4.grownBy w none) (fun w w' => w.grownBy w' none) (by kernel_rfl) (by kernel_rfl) (fun w => grow_refl w none) (grow_drawn (grow_refl _ _)) ?_
    repeat (refine wpRel_det ?_; apply Exists.intro; refine ⟨fun w hI => ?_, ?_⟩; focus (go_simp; first | exact ⟨rfl, grow_refl _ _⟩ | exact Same_rel _ _ _ _ _ (t5.kept hI) (t4.kept hI) (by rw [List.length_take]; unfold maxLen; omega) (by rw [List.length_take]; unfold maxLen; omega) HSM.out hI))
    refine wpRel_nil ?_
    intro w' hI
    go_simp
    go_wp2
    go_ret
    exact ⟨rfl, below_of_none (grow_none G4 hI)⟩
end Go.Proofs.Ytkmpcncehicpmaa
