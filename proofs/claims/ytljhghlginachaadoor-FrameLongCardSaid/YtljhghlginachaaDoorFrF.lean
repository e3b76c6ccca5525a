/- Stage 4: Open. -/
import Derived.Test.YtljhghlginachaaDoorFrE
import Derived.Test.YtljhghlginachaaDoorPkLa
namespace Go.Proofs.YtljhghlginachaaDoor
open Go.RowKit
set_option linter.unusedVariables false
/-- The payload that the length tells, and what stands behind it. -/
def payN (s : ByteArray) : Nat := (getN s).1.toNat
def payB (s : ByteArray) : ByteArray := (nextS s).extract 4 (4 + payN s)
def behB (s : ByteArray) : ByteArray := (nextS s).extract (4 + payN s) (nextS s).size
/-- The length is one that may be. -/
def lenOk (s : ByteArray) : Prop := nextBad s = false ∧ 0 ≤ (getN s).1 ∧ (getN s).1 ≤ 1048576 ∧ 4 + (getN s).1 ≤ (nextS s).size
instance (s : ByteArray) : Decidable (lenOk s) := by unfold lenOk; infer_instance
def openOk (s : ByteArray) : Prop := lenOk s ∧ (nextS s).extract 0 4 = ⟨(sumB (crcN (payB s))).toArray⟩
theorem sumBytes_rel {w0 : World} (p : ByteArray) (w : World) (hm : Mv w0) (hp : p.size ≤ maxLen) (hI : w0.grownBy w none) :
    Calls Tryd.prog 20 #[.string p] w fun e w' => ∃ u, e = .returned u ∧ u = .string ⟨(sumB (crcN p)).toArray⟩ ∧ w0.grownBy w' none ∧ w.grownBy w' none :=
  (sumBytes_any p w (hm.kept hI) hp).mono fun e w' ⟨he, g⟩ => ⟨_, he, rfl, grow_none hI g, g⟩
theorem nextS_size (s : ByteArray) : (nextS s).size = s.size - (getN s).2 := by
  have := getN_used s
  unfold nextS
  rw [ByteArray.size_extract]; omega
theorem nextS_left (s : ByteArray) : s.extract (s.size - (nextS s).size) s.size = nextS s := by
  have := getN_used s
  rw [nextS_size, show s.size - (s.size - (getN s).2) = (getN s).2 by omega]
  rfl
set_option maxRecDepth 100000 in
set_option maxHeartbeats 1000000 in
theorem Open_no (s : ByteArray) (w : World) (hs : s.size ≤ 1000000000) (h : ¬ lenOk s) :
    Calls Tryd.prog 13 #[.string s] w fun e w' => e = .returned (.tuple #[.string ⟨#[]⟩, .string ⟨#[]⟩, .int .i64 3]) ∧ w.grownBy w' none := by
  have hnb := getN_bd s
  obtain ⟨n, hn⟩ : ∃ n, n = (getN s).1 := ⟨_, rfl⟩
  obtain ⟨t, ht⟩ : ∃ t, t = nextBad s := ⟨_, rfl⟩
  have hL : (rLeft (nextS s) t : Int) = if t then 0 else ((nextS s).size : Int) := by unfold rLeft; cases t <;> simp
  have hc : t = true ∨ (t = false ∧ decide (n < 0) = true) ∨ (t = false ∧ decide (n < 0) = false ∧ decide (1048576 < n) = true) ∨ (t = false ∧ decide (n < 0) = false ∧ decide (1048576 < n) = false ∧ decide (((nextS s).size : Int) < 4 + n) = true) := by
    unfold lenOk at h
    rw [← hn, ← ht] at h
    cases t
    · simp only [decide_eq_true_eq, decide_eq_false_iff_not]
      simp only [true_and] at h
      right
      by_cases h1 : n < 0
      · exact .inl ⟨trivial, h1⟩
      · by_cases h2 : 1048576 < n
        · exact .inr (.inl ⟨trivial, h1, h2⟩)
        · exact .inr (.inr ⟨trivial, h1, h2, by omega⟩)
    · exact .inl rfl
  rw [← hn] at hnb
  have hsz : (nextS s).size ≤ 1000000000 := by rw [nextS_size]; omega
  have hszi : ((nextS s).size : Int) ≤ 1000000000 := by omega
  have HN := Lib.hid hn
  have HT := Lib.hid ht
  have HLF := Lib.hid hL
  clear hn ht h hL
  rcases hc with rfl | ⟨rfl, e1⟩ | ⟨rfl, e1, e2⟩ | ⟨rfl, e1, e2, e3⟩
  all_goals
    go_enter Tryd.func13, Tryd.ntmps13
    go_wp2_with fail
    refine (Read_any s _).mono ?_
    rintro e w2 ⟨b, rfl, x2, g2, hb0⟩
    go_wp2_with fail
    refine (Num_good b s _ x2 (by omega)).mono ?_
    rintro e w3 ⟨rfl, x3, g3⟩
    have G3 := grow_new g2 hb0 g3
    rw [← HN.out]
    rw [← HT.out] at x3
    go_wp2_with fail
    refine (Good_any b _ _ _ x3).mono ?_
    rintro e w4 ⟨rfl, x4, g4⟩
    have G4 := grow_new G3 hb0 g4
    clear g2 g3 g4 G3 x2 x3
  · go_wp2
    refine bodyPost_ret (v := .tuple #[.string ⟨#[]⟩, .string ⟨#[]⟩, .int .i64 3]) ?_ ?_ ?_
    · simp [results, go_sem]
    · rfl
    · exact ⟨rfl, G4⟩
  · go_wp2
    refine bodyPost_ret (v := .tuple #[.string ⟨#[]⟩, .string ⟨#[]⟩, .int .i64 3]) ?_ ?_ ?_
    · simp [results, go_sem]
    · rfl
    · exact ⟨rfl, G4⟩
  · go_wp2
    refine bodyPost_ret (v := .tuple #[.string ⟨#[]⟩, .string ⟨#[]⟩, .int .i64 3]) ?_ ?_ ?_
    · simp [results, go_sem]
    · rfl
    · exact ⟨rfl, G4⟩
  · have hn0 : 0 ≤ n := by have := of_decide_eq_false e1; omega
    have hn1 : n ≤ 1048576 := by have := of_decide_eq_false e2; omega
    have hl : ((rLeft (nextS s) false : Nat) : Int) = ((nextS s).size : Int) := by rw [HLF.out]; rfl
    go_wp2_with fail
    refine (Left_any b _ _ _ x4 (by omega)).mono ?_
    rintro e w5 ⟨rfl, x5, g5⟩
    have G5 := grow_new G4 hb0 g5
    rw [hl]
    clear hl
    go_wp2
    refine bodyPost_ret (v := .tuple #[.string ⟨#[]⟩, .string ⟨#[]⟩, .int .i64 3]) ?_ ?_ ?_
    · simp [results, go_sem]
    · rfl
    · exact ⟨rfl, G5⟩
end Go.Proofs.YtljhghlginachaaDoor
