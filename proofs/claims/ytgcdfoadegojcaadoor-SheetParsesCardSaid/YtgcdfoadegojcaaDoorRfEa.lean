/- What the document's answer for layer 1 is: its reader's Text and Count. -/
import Derived.Test.YtgcdfoadegojcaaDoorRfD
namespace Go.Proofs.YtgcdfoadegojcaaDoor
open Go.RowKit
set_option linter.unusedVariables false
theorem rest_lt (s : ByteArray) (p : Nat) : (nextS (rest s p)).size = s.size - (p + (getN (rest s p)).2) := by rw [rest_next, rest_size]
theorem used_rest (s : ByteArray) (p : Nat) (hp : p ≤ s.size) : p + (getN (rest s p)).2 ≤ s.size := by
  have := getN_used (rest s p)
  rw [rest_size] at this
  omega
theorem getL_zero : ∀ (l : List UInt8) (i z : Nat), (getL l i z).2 = 0 → (getL l i z).1 = 0
  | [], i, z, _ => by simp [getL]
  | b :: r, i, z, h => by
    have ih := getL_zero r (i + 1) (z + b.toNat % 128 * 128 ^ i)
    unfold getL at h ⊢
    split
    · rfl
    · rename_i h1
      rw [if_neg h1] at h
      split
      · rfl
      · rename_i h2
        rw [if_neg h2] at h
        split
        · rename_i h3
          rw [if_pos h3] at h
          exact ih h
        · rename_i h3
          rw [if_neg h3] at h
          split
          · rfl
          · rename_i h4
            rw [if_neg h4] at h
            simp at h
theorem rest_extract (s : ByteArray) (q m : Nat) : (rest s q).extract 0 m = s.extract q (q + m) := by
  obtain ⟨⟨l⟩⟩ := s
  unfold rest
  rw [ByteArray.extract_mk, ByteArray.extract_mk]
  simp
theorem rest_drop (s : ByteArray) (q m : Nat) : rest s (q + m) = (rest s q).extract m (rest s q).size := by
  rw [rest_size]
  obtain ⟨⟨l⟩⟩ := s
  unfold rest
  rw [ByteArray.extract_mk, List.drop_drop, List.take_of_length_le]
  rw [List.length_drop]
  show l.length - _ ≤ l.length - q - m
  omega
theorem extract_zero (s : ByteArray) : s.extract 0 0 = ⟨#[]⟩ := by
  obtain ⟨⟨l⟩⟩ := s
  rw [ByteArray.extract_mk]
  simp
set_option maxRecDepth 100000 in
set_option maxHeartbeats 1000000 in
theorem refText_any (b : Nat) (s : ByteArray) (p : Nat) (bad : Bool) (w : World) (h : Rr w b s p bad) (hp : p ≤ s.size) (hs : s.size ≤ 1000000000000000) :
    Calls Tryd.prog 52 #[.pointer (some ⟨b, 0, none⟩)] w fun e w' => e = .returned (.string (rText (rest s p) bad)) ∧ (∃ p', (rCountB (rest s p) bad = false → rest s p' = rTextS (rest s p) bad) ∧ p' ≤ s.size ∧ Rr w' b s p' (rCountB (rest s p) bad)) ∧ w.grownBy w' (some b) := by
  cases bad with
  | true =>
    have c0 := h.c0
    have c1 := h.c1
    have c2 := h.c2
    have f2 := h.fr 2
    go_enter Tryd.func52, Tryd.ntmps52
    go_wp2_with fail
    refine (refRNum_bad b s p w h).mono ?_
    rintro e w' ⟨rfl, rfl⟩
    go_wp2
    go_quiet (fail)
    go_wp2
    go_ret
    exact ⟨rfl, ⟨p, by simp [rCountB], hp, h.set2 true⟩, grow_same (grow_drawnN _ (grow_refl _ _)) (grow_set _ _ _)⟩
  | false =>
    have hus := used_rest s p hp
    have hlt := rest_lt s p
    have hnx := rest_next s p
    have hbd := getN_bd (rest s p)
    have HNX := Lib.hid hnx
    have HLT := Lib.hid hlt
    clear hnx hlt
    go_enter Tryd.func52, Tryd.ntmps52
    go_wp2_with fail
    refine (refRNum_good b s p w h hp hs).mono ?_
    rintro e w1 ⟨rfl, h1, g1⟩
    obtain ⟨q, hq⟩ : ∃ q, q = p + (getN (rest s p)).2 := ⟨_, rfl⟩
    have HQ := Lib.hid hq
    rw [← hq] at h1 hus
    obtain ⟨n, hn⟩ : ∃ n, n = (getN (rest s p)).1 := ⟨_, rfl⟩
    have HN := Lib.hid hn
    rw [← hn] at hbd ⊢
    clear hn hq
    have c0 := h1.c0
    have c1 := h1.c1
    have f1 := h1.fr 1
    have f2 := h1.fr 2
    have hsz : Hid ((nextS (rest s p)).size = s.size - q) := by show _ = _; rw [HLT.out, HQ.out]
    have hsn : Hid (sizeN (rest s p) = if n < 0 ∨ ((s.size - q : Nat) : Int) < n then 0 else n.toNat) := by show _ = _; unfold sizeN; rw [hsz.out, HN.out]
    have hsb : Hid (sizeBad (rest s p) = (decide (n < 0) || decide (((s.size - q : Nat) : Int) < n) || nextBad (rest s p))) := by show _ = _; unfold sizeBad; rw [hsz.out, HN.out]
    have hqr : Hid (rest s q = nextS (rest s p)) := by show _ = _; rw [HNX.out, HQ.out]
    clear HLT HNX
    cases hb : nextBad (rest s p) with
    | true =>
      have h0 : (getN (rest s p)).2 = 0 := by unfold nextBad at hb; simpa using hb
      rw [hb] at h1
      have c2 := h1.c2
      have HB := Lib.hid hb
      have hn0 : Hid (n = 0) := by
        show _ = _
        rw [HN.out]
        exact getL_zero _ _ _ h0
      have es : Hid (sizeN (rest s p) = 0) := by show _ = _; rw [hsn.out, hn0.out]; simp
      have eb : Hid (sizeBad (rest s p) = true) := by show _ = _; rw [hsb.out, HB.out]; simp
      clear hb h0
      go_wp2
      go_quiet (fail)
      go_wp2
      go_ret
      refine ⟨by show _ = Ending.returned (.string ((nextS (rest s p)).extract 0 (sizeN (rest s p)))); rw [es.out, extract_zero]; rfl, ⟨q, ?_, hus, ?_⟩, grow_same (grow_drawnN _ g1) (grow_set _ _ _)⟩
      · intro h; exfalso; have h2 : sizeBad (rest s p) = false := h; rw [eb.out] at h2; cases h2
      · show Rr _ _ _ _ (sizeBad (rest s p))
        rw [eb.out]
        exact h1.set2 true
    | false =>
      rw [hb] at h1
      have c2 := h1.c2
      have HB := Lib.hid hb
      clear hb
      by_cases hneg : n < 0
      · have es : Hid (sizeN (rest s p) = 0) := by show _ = _; rw [hsn.out, if_pos (.inl hneg)]
        have eb : Hid (sizeBad (rest s p) = true) := by show _ = _; rw [hsb.out]; simp [hneg]
        have hd : decide (n < 0) = true := by simpa using hneg
        go_wp2
        go_quiet (fail)
        go_wp2
        go_ret
        refine ⟨by show _ = Ending.returned (.string ((nextS (rest s p)).extract 0 (sizeN (rest s p)))); rw [es.out, extract_zero]; rfl, ⟨q, ?_, hus, ?_⟩, grow_same (grow_drawnN _ g1) (grow_set _ _ _)⟩
        · intro h; exfalso; have h2 : sizeBad (rest s p) = false := h; rw [eb.out] at h2; cases h2
        · show Rr _ _ _ _ (sizeBad (rest s p))
          rw [eb.out]
          exact h1.set2 true
      · have hd : decide (n < 0) = false := by simpa using hneg
        have hqs : (q : Int) ≤ s.size := by omega
        have hsi : (s.size : Int) ≤ 1000000000000000 := by omega
        have hsub : IntKind.i64.wrap ((s.size : Int) - (q : Int)) = (s.size : Int) - (q : Int) := IntWalk.i64_in _ (by omega)
        by_cases hbig : (s.size : Int) - (q : Int) < n
        · have es : Hid (sizeN (rest s p) = 0) := by show _ = _; rw [hsn.out, if_pos (.inr (by omega))]
          have eb : Hid (sizeBad (rest s p) = true) := by show _ = _; rw [hsb.out, show decide (((s.size - q : Nat) : Int) < n) = true from by simp; omega]; simp
          have hd2 : decide ((s.size : Int) - (q : Int) < n) = true := by simpa using hbig
          go_wp2
          go_quiet (fail)
          go_wp2
          go_ret
          refine ⟨by show _ = Ending.returned (.string ((nextS (rest s p)).extract 0 (sizeN (rest s p)))); rw [es.out, extract_zero]; rfl, ⟨q, ?_, hus, ?_⟩, grow_same (grow_drawnN _ g1) (grow_set _ _ _)⟩
          · intro h; exfalso; have h2 : sizeBad (rest s p) = false := h; rw [eb.out] at h2; cases h2
          · show Rr _ _ _ _ (sizeBad (rest s p))
            rw [eb.out]
            exact h1.set2 true
        · obtain ⟨m, hm⟩ := Int.eq_ofNat_of_zero_le (Int.not_lt.1 hneg)
          subst hm
          have es : Hid (sizeN (rest s p) = m) := by show _ = _; rw [hsn.out, if_neg (by omega)]; omega
          have eb : Hid (sizeBad (rest s p) = false) := by show _ = _; rw [hsb.out, hd, HB.out, show decide (((s.size - q : Nat) : Int) < (m : Int)) = false from by simp; omega]; rfl
          have hd2 : decide ((s.size : Int) - (q : Int) < (m : Int)) = false := by simpa using hbig
          have hnx2 : nextS (rest s p) = rest s q := hqr.out.symm
          have HX := Lib.hid hnx2
          clear hnx2 hneg
          go_wp2
          go_quiet (fail)
          go_wp2
          have q1 : IntKind.i64.wrap ((q : Int) + (m : Int)) = (q : Int) + (m : Int) := IntWalk.i64_in _ (by omega)
          have q2 : (q : Int) ≤ (q : Int) + (m : Int) := by omega
          have q3 : (q : Int) + (m : Int) ≤ s.size := by omega
          have q4 : ((q : Int) + (m : Int)).toNat = q + m := by omega
          go_quiet (fail)
          clear q1
          go_wp2
          go_ret
          refine ⟨?_, ⟨q + m, fun _ => ?_, by omega, ?_⟩, ?_⟩
          · show _ = Ending.returned (.string ((nextS (rest s p)).extract 0 (sizeN (rest s p))))
            rw [es.out, HX.out, rest_extract]
            rfl
          · show _ = (nextS (rest s p)).extract (sizeN (rest s p)) (nextS (rest s p)).size
            rw [es.out, HX.out, rest_drop]
          · show Rr _ _ _ _ (sizeBad (rest s p))
            rw [eb.out]
            have h2 := (h1.set1 (q + m))
            rw [show ((q + m : Nat) : Int) = (q : Int) + (m : Int) from by omega] at h2
            exact h2
          · exact grow_same (grow_drawnN _ g1) (grow_set _ _ _)
end Go.Proofs.YtgcdfoadegojcaaDoor
