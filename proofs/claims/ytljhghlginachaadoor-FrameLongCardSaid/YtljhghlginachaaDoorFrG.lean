/- Stage 4: Open, where the length is one that may be. -/
import Derived.Test.YtljhghlginachaaDoorFrF
namespace Go.Proofs.YtljhghlginachaaDoor
open Go.RowKit
set_option linter.unusedVariables false
set_option maxRecDepth 100000 in
set_option maxHeartbeats 1000000 in
theorem Open_len (s : ByteArray) (w : World) (hm : Mv w) (hs : s.size ≤ 1000000000) (h : lenOk s) (q : Bool) (hq : q = !(((nextS s).extract 0 4).toList == (⟨(sumB (crcN (payB s))).toArray⟩ : ByteArray).toList)) :
    Calls Tryd.prog 13 #[.string s] w fun e w' => e = .returned (if q then .tuple #[.string ⟨#[]⟩, .string ⟨#[]⟩, .int .i64 3] else .tuple #[.string (payB s), .string (behB s), .int .i64 0]) ∧ w.grownBy w' none := by
  obtain ⟨h0, h1, h2, h3⟩ := h
  obtain ⟨n, hn⟩ : ∃ n : Nat, (n : Int) = (getN s).1 := ⟨(getN s).1.toNat, by omega⟩
  rw [← hn] at h2 h3
  have hpay : payN s = n := by unfold payN; omega
  have hsz : (nextS s).size ≤ s.size := by rw [nextS_size]; omega
  have hle := nextS_left s
  obtain ⟨R, hR⟩ : ∃ R, R = nextS s := ⟨_, rfl⟩
  obtain ⟨P, hP⟩ : ∃ P, P = payB s := ⟨_, rfl⟩
  obtain ⟨B, hB⟩ : ∃ B, B = behB s := ⟨_, rfl⟩
  have hP2 : R.extract 4 (4 + n) = P := by rw [hP, hR]; unfold payB; rw [hpay]
  have hB2 : R.extract (4 + n) R.size = B := by rw [hB, hR]; unfold behB; rw [hpay]
  rw [← hR] at h3 hsz hle hq
  rw [← hP] at hq ⊢
  rw [← hB]
  have hPs : P.size ≤ maxLen := by rw [← hP2, ByteArray.size_extract]; unfold maxLen; omega
  have hsi : (s.size : Int) ≤ 1000000000 := by omega
  have hRi : (R.size : Int) ≤ s.size := by omega
  have hR0 : (0 : Int) ≤ (s.size : Int) - R.size := by omega
  have hni : (n : Int) ≤ 1048576 := h2
  have hn0 : (0 : Int) ≤ n := by omega
  have h4 : (4 : Int) + n ≤ R.size := h3
  have hex : s.extract ((s.size : Int) - (R.size : Int)).toNat s.size = R := by
    rw [show ((s.size : Int) - (R.size : Int)).toNat = s.size - R.size by omega]; exact hle
  have h44 : (4 : Int) ≤ R.size := by omega
  have h45 : (4 : Int) ≤ 4 + (n : Int) := by omega
  have h46 : (0 : Int) ≤ 4 + (n : Int) := by omega
  have hex2 : s.extract (s.size - R.size) s.size = R := hle
  have htn : ((4 : Int) + (n : Int)).toNat = 4 + n := by omega
  have d1 : decide ((n : Int) < 0) = false := decide_eq_false (by omega)
  have d2 : decide ((1048576 : Int) < n) = false := decide_eq_false (by omega)
  have d3 : decide ((R.size : Int) < 4 + (n : Int)) = false := decide_eq_false (by omega)
  have hl : ((rLeft R false : Nat) : Int) = (R.size : Int) := rfl
  have HN := Lib.hid hn
  have HT := Lib.hid h0
  have HR := Lib.hid hR
  have HL := Lib.hid hl
  have HQ := Lib.hid hq
  clear hn h0 h1 h2 h3 hR hP hB hpay hle hl hq
  go_enter Tryd.func13, Tryd.ntmps13
  go_wp2_with fail
  refine (Read_any s _).mono ?_
  rintro e w2 ⟨b, rfl, x2, g2, hb0⟩
  go_wp2_with fail
  refine (Num_good b s _ x2 (by omega)).mono ?_
  rintro e w3 ⟨rfl, x3, g3⟩
  have G3 := grow_new g2 hb0 g3
  rw [← HN.out]
  rw [HT.out, ← HR.out] at x3
  go_wp2_with fail
  refine (Good_any b _ _ _ x3).mono ?_
  rintro e w4 ⟨rfl, x4, g4⟩
  have G4 := grow_new G3 hb0 g4
  clear g2 g3 g4 G3 x2 x3
  go_wp2_with fail
  refine (Left_any b _ _ _ x4 (by omega)).mono ?_
  rintro e w5 ⟨rfl, x5, g5⟩
  have G5 := grow_new G4 hb0 g5
  rw [HL.out]
  clear x4 g5 G4
  go_wp2_with fail
  refine (Left_any b _ _ _ x5 (by omega)).mono ?_
  rintro e w6 ⟨rfl, x6, g6⟩
  have G6 := grow_new G5 hb0 g6
  rw [HL.out]
  clear x5 g6 G5 x6
  have m6 := hm.kept G6
  have hqe : (!((R.extract 0 4).toList == (⟨(sumB (crcN P)).toArray⟩ : ByteArray).toList)) = q := HQ.out.symm
  have he : (⟨(sumB (crcN P)).toArray⟩ : ByteArray).toList = sumB (crcN P) := by rw [ByteArray.toList_eq]
  rw [he] at hqe
  clear he
  have htw : IntKind.i64.wrap ((4 : Int) + n) = 4 + n := by rw [IntKind.wrap_i64]; omega
  have hsg : Hid (P.size ≤ maxLen) := hPs
  clear hPs
  go_wp2
  refine wp_region_rel (fun W => w6.grownBy W none) (fun W W' => W.grownBy W' none) (by kernel_rfl) (by kernel_rfl) (fun W => grow_refl W none) (grow_drawn (grow_refl _ _)) ?_
  repeat (refine wpRel_det ?_; apply Exists.intro; refine ⟨fun W hI => ?_, ?_⟩; focus (go_simp; first | exact ⟨rfl, grow_refl _ _⟩ | exact sumBytes_rel P _ m6 hsg.out hI))
  refine wpRel_nil ?_
  intro w7 hI
  have G7 := grow_none G6 hI
  go_simp
  cases q with
  | true =>
    go_wp2
    refine bodyPost_ret (v := .tuple #[.string ⟨#[]⟩, .string ⟨#[]⟩, .int .i64 3]) ?_ ?_ ?_
    · simp [results, go_sem]
    · rfl
    · exact ⟨rfl, G7⟩
  | false =>
    go_wp2
    refine wp_region_rel (fun W => w7.grownBy W none) (fun W W' => W.grownBy W' none) (by kernel_rfl) (by kernel_rfl) (fun W => grow_refl W none) (grow_drawn (grow_refl _ _)) ?_
    repeat (refine wpRel_det ?_; apply Exists.intro; refine ⟨fun W hI => ?_, ?_⟩; focus (go_simp; exact ⟨rfl, grow_refl _ _⟩))
    refine wpRel_nil ?_
    intro w8 hI8
    have G8 := grow_none G7 hI8
    go_simp
    go_wp2
    refine bodyPost_ret (v := .tuple #[.string P, .string B, .int .i64 0]) ?_ ?_ ?_
    · simp [results, go_sem]
    · rfl
    · exact ⟨rfl, G8⟩
end Go.Proofs.YtljhghlginachaaDoor
