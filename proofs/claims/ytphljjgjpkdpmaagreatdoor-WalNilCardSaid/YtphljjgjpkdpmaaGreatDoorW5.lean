/- Several texts in one: RfD FrH FrI. -/
import Derived.Test.YtphljjgjpkdpmaaGreatDoorW4
import Derived.Outline
/- What the document's answer for layer 1 is: its reader. -/
namespace Go.Proofs.YtphljjgjpkdpmaaGreatDoor
open Go.RowKit
set_option linter.unusedVariables false
/-- Block b is the document's reader: its bytes, how many are read, whether something was wrong. -/
def Rr (w : World) (b : Nat) (s : ByteArray) (at_ : Nat) (bad : Bool) : Prop := w.heap[b]? = some (.cells #[.string s, .int .i64 at_, .bool bad] 118 (0, 0))
section
variable {w : World} {b : Nat} {s : ByteArray} {p : Nat} {bad : Bool}
theorem Rr.c0 (h : Rr w b s p bad) : w.cell? ⟨b, 0, none⟩ = some (.string s) := by unfold Rr at h; simp [World.cell?, h]
theorem Rr.c1 (h : Rr w b s p bad) : w.cell? ⟨b, 1, none⟩ = some (.int .i64 p) := by unfold Rr at h; simp [World.cell?, h]
theorem Rr.c2 (h : Rr w b s p bad) : w.cell? ⟨b, 2, none⟩ = some (.bool bad) := by unfold Rr at h; simp [World.cell?, h]
theorem Rr.fr (h : Rr w b s p bad) (o : Nat) : w.frozen? ⟨b, o, none⟩ = false := by unfold Rr at h; simp [World.frozen?, h]
theorem Rr.lt (h : Rr w b s p bad) : b < w.heap.size := (Array.getElem?_eq_some_iff.1 h).1
theorem Rr.set1 (h : Rr w b s p bad) (p' : Nat) : Rr (w.setCell ⟨b, 1, none⟩ (.int .i64 p')) b s p' bad := by
  unfold Rr at h ⊢; simp [World.setCell, Array.getElem?_modify, h]
theorem Rr.set2 (h : Rr w b s p bad) (bad' : Bool) : Rr (w.setCell ⟨b, 2, none⟩ (.bool bad')) b s p bad' := by
  unfold Rr at h ⊢; simp [World.setCell, Array.getElem?_modify, h]
theorem Rr.kept {w' : World} (h : Rr w b s p bad) {r : Option Nat} (g : w.grownBy w' r) (hr : r ≠ some b) : Rr w' b s p bad := by
  unfold Rr at h ⊢; rw [g.block b (Array.getElem?_eq_some_iff.1 h).1 (fun e => hr e.symm)]; exact h
theorem Rr.drewN (h : Rr w b s p bad) (n : Nat) : Rr (w.drewN n) b s p bad := h
end
set_option maxRecDepth 100000 in
theorem refDone_any (b : Nat) (s : ByteArray) (p : Nat) (bad : Bool) (w : World) (h : Rr w b s p bad) (hs : s.size ≤ 1000000000000000) :
    Calls Tryz.prog 85 #[.pointer (some ⟨b, 0, none⟩)] w fun e w' => e = .returned (.bool (!bad && ((p : Int) == (s.size : Int)))) ∧ ∃ n, w' = w.drewN n := by
  have c0 := h.c0
  have c1 := h.c1
  have c2 := h.c2
  cases bad with
  | true =>
    go_enter Tryz.func85, Tryz.ntmps85
    go_wp2
    go_quiet (fail)
    go_wp2
    go_ret
    exact ⟨rfl, nq, rfl⟩
  | false =>
    go_enter Tryz.func85, Tryz.ntmps85
    go_wp2
    go_quiet (fail)
    go_wp2
    go_ret
    exact ⟨rfl, nq, rfl⟩
/-- Where the document's reader stands: behind a number. -/
def rest (s : ByteArray) (p : Nat) : ByteArray := ⟨(s.data.toList.drop p).toArray⟩
theorem rest_size (s : ByteArray) (p : Nat) : (rest s p).size = s.size - p := by
  show (s.data.toList.drop p).toArray.size = _
  rw [List.size_toArray, List.length_drop, size_toList]
/-- What holds at the head of the document's Num's round: k groups are read, they give y; what is read then is told. -/
def RnRel (s : ByteArray) (p : Nat) (z u i : Value) : Prop :=
  ∃ k y : Nat, k ≤ 10 ∧ p + k ≤ s.size ∧ i = .int .i64 k ∧ z = .int .u64 y ∧ (k ≤ 9 → u = .int .u64 (128 ^ k : Nat)) ∧ y < 128 ^ k ∧ getN (rest s p) = getL (s.data.toList.drop (p + k)) k y
set_option maxRecDepth 100000 in
set_option maxHeartbeats 1000000 in
theorem refRNum_bad (b : Nat) (s : ByteArray) (p : Nat) (w : World) (h : Rr w b s p true) :
    Calls Tryz.prog 83 #[.pointer (some ⟨b, 0, none⟩)] w fun e w' => e = .returned (.int .i64 0) ∧ w' = w := by
  have c2 := h.c2
  go_enter Tryz.func83, Tryz.ntmps83
  go_wp2
  go_ret
  exact ⟨rfl, rfl⟩
set_option maxRecDepth 100000 in
set_option maxHeartbeats 1000000 in
theorem refRNum_good (b : Nat) (s : ByteArray) (p : Nat) (w : World) (h : Rr w b s p false) (hp : p ≤ s.size) (hs : s.size ≤ 1000000000000000) :
    Calls Tryz.prog 83 #[.pointer (some ⟨b, 0, none⟩)] w fun e w' => e = .returned (.int .i64 (getN (rest s p)).1) ∧ Rr w' b s (p + (getN (rest s p)).2) (nextBad (rest s p)) ∧ w.grownBy w' (some b) := by
  have c2 := h.c2
  go_enter Tryz.func83, Tryz.ntmps83
  go_wp2
  clear c2
  go_loopw [3, 4, 5] (fun z u i wr => RnRel s p z u i ∧ ∃ n, wr = w.drewN n) (fun _ _ i _ => 10 - (intOf i).toNat)
  case atStart => exact ⟨⟨0, 0, by omega, by omega, rfl, rfl, fun _ => rfl, by simp, rfl⟩, 0, rfl⟩
  case round =>
    obtain ⟨⟨k, y, hk10, hpk, rfl, rfl, hu, hy, hg⟩, n0, rfl⟩ := hrel
    have c0 := h.c0
    have c1 := h.c1
    have c2 := h.c2
    have f1 := h.fr 1
    have f2 := h.fr 2
    have HG := Lib.hid hg
    have HY := Lib.hid hy
    clear hg hy
    by_cases hend : k < 10 ∧ p + k < s.size
    · obtain ⟨h1, h2⟩ := hend
      have hu := hu (by omega)
      subst hu
      have hk9 : (k : Int) < 10 := by omega
      have hin : (p : Int) + k < s.size := by omega
      have hb := s[p + k].toNat_lt
      have hdrop : s.data.toList.drop (p + k) = s[p + k] :: s.data.toList.drop (p + (k + 1)) := by
        rw [List.drop_eq_getElem_cons (by simpa [size_toList] using h2)]; rfl
      have HGL := HG.out
      rw [hdrop, getL, if_neg (by omega)] at HGL
      clear hdrop
      by_cases h9 : k = 9 ∧ 1 < s[p + k].toNat
      · rw [if_pos h9] at HGL
        have HR := Lib.hid HGL
        obtain ⟨e9, hb1⟩ := h9
        have e9' : ((k : Int) == 9) = true := by simp; omega
        have hb1' : (1 : Int) < s[p + k].toNat := by omega
        clear HGL e9 hb1 HG
        go_wp2
        go_quiet (fail)
        go_wp2
        have q1 : IntKind.i64.wrap ((p : Int) + (k : Int)) = (p : Int) + (k : Int) := IntWalk.i64_in _ (by omega)
        have q2 : (0 : Int) ≤ (p : Int) + (k : Int) := by omega
        have q3 : ((p : Int) + (k : Int)).toNat = p + k := by omega
        go_quiet (fail)
        clear q1
        go_wp2
        go_ret
        refine ⟨by rw [HR.out]; rfl, ?_, ?_⟩
        · rw [HR.out, show nextBad (rest s p) = true from by unfold nextBad; rw [HR.out]; rfl]
          exact h.set2 true
        · exact grow_same (grow_drawnN _ (grow_refl _ _)) (grow_set _ _ _)
      · rw [if_neg h9] at HGL
        have hst := step_lt h1 HY.out hb h9
        obtain ⟨x, hx⟩ : ∃ x, x = s[p + k].toNat % 128 := ⟨_, rfl⟩
        rw [← hx] at hst HGL
        obtain ⟨M, hM⟩ : ∃ M, M = x * 128 ^ k := ⟨_, rfl⟩
        have hmul : IntKind.u64.wrap ((s[p + k].toNat : Int) % 128 * 128 ^ k) = (M : Int) := by
          have e : (s[p + k].toNat : Int) % 128 * 128 ^ k = ((x * 128 ^ k : Nat) : Int) := by rw [hx]; simp
          rw [IntKind.wrap_u64, e, ← hM, Int.emod_eq_of_lt (by omega) (by omega)]
        rw [← hM] at hst HGL
        obtain ⟨N, hN⟩ : ∃ N, N = y + M := ⟨_, rfl⟩
        have hadd : IntKind.u64.wrap ((y : Int) + (M : Int)) = (N : Int) := by
          rw [IntKind.wrap_u64, Int.emod_eq_of_lt (by omega) (by omega), hN]; omega
        rw [← hN] at hst HGL
        have HR := Lib.hid HGL
        have HST := Lib.hid hst
        clear HGL hst hM hN hx HG
        have h91 : ¬ k = 9 ∨ (s[p + k].toNat : Int) ≤ 1 := by omega
        by_cases h128 : 128 ≤ s[p + k].toNat
        · have e9' : ((k : Int) == 9) = false := by simp; omega
          have h128' : (128 : Int) ≤ s[p + k].toNat := by omega
          go_wp2
          go_quiet (fail)
          go_wp2
          have q1 : IntKind.i64.wrap ((p : Int) + (k : Int)) = (p : Int) + (k : Int) := IntWalk.i64_in _ (by omega)
          have q2 : (0 : Int) ≤ (p : Int) + (k : Int) := by omega
          have q3 : ((p : Int) + (k : Int)).toNat = p + k := by omega
          go_quiet (fail)
          clear q1
          go_wp2
          refine ⟨⟨⟨k + 1, N, by omega, by omega, by go_num, rfl, fun hk8 => ?_, HST.out.2.2, by rw [HR.out, if_pos h128]⟩, ⟨_, rfl⟩⟩, by simp [intOf]; omega⟩
          have e1 : (128 : Nat) ^ (k + 1) ≤ 9223372036854775808 := pow128 hk8
          have e2 : (128 : Int) ^ k * 128 = ((128 ^ (k + 1) : Nat) : Int) := by rw [Nat.pow_succ]; simp
          obtain ⟨T, hT⟩ : ∃ T, T = 128 ^ (k + 1) := ⟨_, rfl⟩
          rw [← hT] at e1 e2 ⊢
          rw [IntKind.wrap_u64, e2, Int.emod_eq_of_lt (by omega) (by omega)]
        · have h128' : (s[p + k].toNat : Int) < 128 := by omega
          by_cases h0 : s[p + k].toNat = 0 ∧ 0 < k
          · have hR : getN (rest s p) = (0, 0) := by rw [HR.out, if_neg h128, if_pos h0]
            have HR := Lib.hid hR
            obtain ⟨h0a, h0b⟩ := h0
            have h0' : ((s[p + k].toNat : Int) == 0) = true := by simp; omega
            have h0c : (0 : Int) < k := by omega
            clear hR h0a
            rcases Decidable.em (k = 9) with h9c | h9c
            · have h9d : ((k : Int) == 9) = true := by simp; omega
              have h9e : (s[p + k].toNat : Int) ≤ 1 := by omega
              clear h9c h91
              go_wp2
              go_quiet (fail)
              go_wp2
              have q1 : IntKind.i64.wrap ((p : Int) + (k : Int)) = (p : Int) + (k : Int) := IntWalk.i64_in _ (by omega)
              have q2 : (0 : Int) ≤ (p : Int) + (k : Int) := by omega
              have q3 : ((p : Int) + (k : Int)).toNat = p + k := by omega
              go_quiet (fail)
              clear q1
              go_wp2
              go_ret
              refine ⟨by rw [HR.out]; rfl, ?_, ?_⟩
              · rw [HR.out, show nextBad (rest s p) = true from by unfold nextBad; rw [HR.out]; rfl]
                exact h.set2 true
              · exact grow_same (grow_drawnN _ (grow_refl _ _)) (grow_set _ _ _)
            · have h9d : ((k : Int) == 9) = false := by simp; omega
              clear h9c h91
              go_wp2
              go_quiet (fail)
              go_wp2
              have q1 : IntKind.i64.wrap ((p : Int) + (k : Int)) = (p : Int) + (k : Int) := IntWalk.i64_in _ (by omega)
              have q2 : (0 : Int) ≤ (p : Int) + (k : Int) := by omega
              have q3 : ((p : Int) + (k : Int)).toNat = p + k := by omega
              go_quiet (fail)
              clear q1
              go_wp2
              go_ret
              refine ⟨by rw [HR.out]; rfl, ?_, ?_⟩
              · rw [HR.out, show nextBad (rest s p) = true from by unfold nextBad; rw [HR.out]; rfl]
                exact h.set2 true
              · exact grow_same (grow_drawnN _ (grow_refl _ _)) (grow_set _ _ _)
          · obtain ⟨q, hq⟩ : ∃ q, q = N / 2 := ⟨_, rfl⟩
            have hN2 : (N : Int) / 2 = (q : Int) := by omega
            have hqb : (q : Int) ≤ 9223372036854775807 := by have := HST.out.1; omega
            have hR : getN (rest s p) = (unzig N, k + 1) := by rw [HR.out, if_neg h128, if_neg h0]
            have HR := Lib.hid hR
            have h01 : (((s[p + k].toNat : Int) == 0) = false) ∨ (((s[p + k].toNat : Int) == 0) = true ∧ (k : Int) ≤ 0) := by
              by_cases e : s[p + k].toNat = 0
              · exact .inr ⟨by simp; omega, by omega⟩
              · exact .inl (by simp; omega)
            rcases Nat.mod_two_eq_zero_or_one N with hm | hm
            · have hm' : ((N : Int) % 2 == 1) = false := by rw [beq_eq_false_iff_ne]; omega
              have hU : Hid (unzig N = (q : Int)) := by show _ = _; unfold unzig; rw [if_pos hm, hq]
              clear hR hq hm h0
              rcases h01 with h01 | ⟨h01, hk0⟩
              · rcases Decidable.em (k = 9) with h9c | h9c
                · have h9d : ((k : Int) == 9) = true := by simp; omega
                  have h9e : (s[p + k].toNat : Int) ≤ 1 := by omega
                  clear h9c h91
                  go_wp2
                  go_quiet (fail)
                  go_wp2
                  have q1 : IntKind.i64.wrap ((p : Int) + (k : Int)) = (p : Int) + (k : Int) := IntWalk.i64_in _ (by omega)
                  have q2 : (0 : Int) ≤ (p : Int) + (k : Int) := by omega
                  have q3 : ((p : Int) + (k : Int)).toNat = p + k := by omega
                  go_quiet (fail)
                  clear q1
                  go_wp2
                  all_goals
                    go_ret
                    refine ⟨by rw [HR.out, hU.out]; rfl, ?_, ?_⟩
                    · rw [HR.out, show nextBad (rest s p) = false from by unfold nextBad; rw [HR.out]; show (((k + 1 : Nat) : Int) == 0) = false; rw [beq_eq_false_iff_ne]; omega]
                      have := h.set1 (p + (k + 1))
                      rw [show (((p + (k + 1) : Nat)) : Int) = (p : Int) + ((k : Int) + 1) from by omega] at this
                      exact this
                    · exact grow_same (grow_drawnN _ (grow_refl _ _)) (grow_set _ _ _)
                · have h9d : ((k : Int) == 9) = false := by simp; omega
                  clear h9c h91
                  go_wp2
                  go_quiet (fail)
                  go_wp2
                  have q1 : IntKind.i64.wrap ((p : Int) + (k : Int)) = (p : Int) + (k : Int) := IntWalk.i64_in _ (by omega)
                  have q2 : (0 : Int) ≤ (p : Int) + (k : Int) := by omega
                  have q3 : ((p : Int) + (k : Int)).toNat = p + k := by omega
                  go_quiet (fail)
                  clear q1
                  go_wp2
                  all_goals
                    go_ret
                    refine ⟨by rw [HR.out, hU.out]; rfl, ?_, ?_⟩
                    · rw [HR.out, show nextBad (rest s p) = false from by unfold nextBad; rw [HR.out]; show (((k + 1 : Nat) : Int) == 0) = false; rw [beq_eq_false_iff_ne]; omega]
                      have := h.set1 (p + (k + 1))
                      rw [show (((p + (k + 1) : Nat)) : Int) = (p : Int) + ((k : Int) + 1) from by omega] at this
                      exact this
                    · exact grow_same (grow_drawnN _ (grow_refl _ _)) (grow_set _ _ _)
              · rcases Decidable.em (k = 9) with h9c | h9c
                · have h9d : ((k : Int) == 9) = true := by simp; omega
                  have h9e : (s[p + k].toNat : Int) ≤ 1 := by omega
                  clear h9c h91
                  go_wp2
                  go_quiet (fail)
                  go_wp2
                  have q1 : IntKind.i64.wrap ((p : Int) + (k : Int)) = (p : Int) + (k : Int) := IntWalk.i64_in _ (by omega)
                  have q2 : (0 : Int) ≤ (p : Int) + (k : Int) := by omega
                  have q3 : ((p : Int) + (k : Int)).toNat = p + k := by omega
                  go_quiet (fail)
                  clear q1
                  go_wp2
                  all_goals
                    go_ret
                    refine ⟨by rw [HR.out, hU.out]; rfl, ?_, ?_⟩
                    · rw [HR.out, show nextBad (rest s p) = false from by unfold nextBad; rw [HR.out]; show (((k + 1 : Nat) : Int) == 0) = false; rw [beq_eq_false_iff_ne]; omega]
                      have := h.set1 (p + (k + 1))
                      rw [show (((p + (k + 1) : Nat)) : Int) = (p : Int) + ((k : Int) + 1) from by omega] at this
                      exact this
                    · exact grow_same (grow_drawnN _ (grow_refl _ _)) (grow_set _ _ _)
                · have h9d : ((k : Int) == 9) = false := by simp; omega
                  clear h9c h91
                  go_wp2
                  go_quiet (fail)
                  go_wp2
                  have q1 : IntKind.i64.wrap ((p : Int) + (k : Int)) = (p : Int) + (k : Int) := IntWalk.i64_in _ (by omega)
                  have q2 : (0 : Int) ≤ (p : Int) + (k : Int) := by omega
                  have q3 : ((p : Int) + (k : Int)).toNat = p + k := by omega
                  go_quiet (fail)
                  clear q1
                  go_wp2
                  all_goals
                    go_ret
                    refine ⟨by rw [HR.out, hU.out]; rfl, ?_, ?_⟩
                    · rw [HR.out, show nextBad (rest s p) = false from by unfold nextBad; rw [HR.out]; show (((k + 1 : Nat) : Int) == 0) = false; rw [beq_eq_false_iff_ne]; omega]
                      have := h.set1 (p + (k + 1))
                      rw [show (((p + (k + 1) : Nat)) : Int) = (p : Int) + ((k : Int) + 1) from by omega] at this
                      exact this
                    · exact grow_same (grow_drawnN _ (grow_refl _ _)) (grow_set _ _ _)
            · have hm' : ((N : Int) % 2 == 1) = true := by rw [beq_iff_eq]; omega
              have hU : Hid (unzig N = -1 - (q : Int)) := by show _ = _; unfold unzig; rw [if_neg (by omega), hq]; omega
              clear hR hq hm h0
              rcases h01 with h01 | ⟨h01, hk0⟩
              · rcases Decidable.em (k = 9) with h9c | h9c
                · have h9d : ((k : Int) == 9) = true := by simp; omega
                  have h9e : (s[p + k].toNat : Int) ≤ 1 := by omega
                  clear h9c h91
                  go_wp2
                  go_quiet (fail)
                  go_wp2
                  have q1 : IntKind.i64.wrap ((p : Int) + (k : Int)) = (p : Int) + (k : Int) := IntWalk.i64_in _ (by omega)
                  have q2 : (0 : Int) ≤ (p : Int) + (k : Int) := by omega
                  have q3 : ((p : Int) + (k : Int)).toNat = p + k := by omega
                  go_quiet (fail)
                  clear q1
                  go_wp2
                  all_goals
                    go_ret
                    refine ⟨by rw [HR.out, hU.out]; rfl, ?_, ?_⟩
                    · rw [HR.out, show nextBad (rest s p) = false from by unfold nextBad; rw [HR.out]; show (((k + 1 : Nat) : Int) == 0) = false; rw [beq_eq_false_iff_ne]; omega]
                      have := h.set1 (p + (k + 1))
                      rw [show (((p + (k + 1) : Nat)) : Int) = (p : Int) + ((k : Int) + 1) from by omega] at this
                      exact this
                    · exact grow_same (grow_drawnN _ (grow_refl _ _)) (grow_set _ _ _)
                · have h9d : ((k : Int) == 9) = false := by simp; omega
                  clear h9c h91
                  go_wp2
                  go_quiet (fail)
                  go_wp2
                  have q1 : IntKind.i64.wrap ((p : Int) + (k : Int)) = (p : Int) + (k : Int) := IntWalk.i64_in _ (by omega)
                  have q2 : (0 : Int) ≤ (p : Int) + (k : Int) := by omega
                  have q3 : ((p : Int) + (k : Int)).toNat = p + k := by omega
                  go_quiet (fail)
                  clear q1
                  go_wp2
                  all_goals
                    go_ret
                    refine ⟨by rw [HR.out, hU.out]; rfl, ?_, ?_⟩
                    · rw [HR.out, show nextBad (rest s p) = false from by unfold nextBad; rw [HR.out]; show (((k + 1 : Nat) : Int) == 0) = false; rw [beq_eq_false_iff_ne]; omega]
                      have := h.set1 (p + (k + 1))
                      rw [show (((p + (k + 1) : Nat)) : Int) = (p : Int) + ((k : Int) + 1) from by omega] at this
                      exact this
                    · exact grow_same (grow_drawnN _ (grow_refl _ _)) (grow_set _ _ _)
              · rcases Decidable.em (k = 9) with h9c | h9c
                · have h9d : ((k : Int) == 9) = true := by simp; omega
                  have h9e : (s[p + k].toNat : Int) ≤ 1 := by omega
                  clear h9c h91
                  go_wp2
                  go_quiet (fail)
                  go_wp2
                  have q1 : IntKind.i64.wrap ((p : Int) + (k : Int)) = (p : Int) + (k : Int) := IntWalk.i64_in _ (by omega)
                  have q2 : (0 : Int) ≤ (p : Int) + (k : Int) := by omega
                  have q3 : ((p : Int) + (k : Int)).toNat = p + k := by omega
                  go_quiet (fail)
                  clear q1
                  go_wp2
                  all_goals
                    go_ret
                    refine ⟨by rw [HR.out, hU.out]; rfl, ?_, ?_⟩
                    · rw [HR.out, show nextBad (rest s p) = false from by unfold nextBad; rw [HR.out]; show (((k + 1 : Nat) : Int) == 0) = false; rw [beq_eq_false_iff_ne]; omega]
                      have := h.set1 (p + (k + 1))
                      rw [show (((p + (k + 1) : Nat)) : Int) = (p : Int) + ((k : Int) + 1) from by omega] at this
                      exact this
                    · exact grow_same (grow_drawnN _ (grow_refl _ _)) (grow_set _ _ _)
                · have h9d : ((k : Int) == 9) = false := by simp; omega
                  clear h9c h91
                  go_wp2
                  go_quiet (fail)
                  go_wp2
                  have q1 : IntKind.i64.wrap ((p : Int) + (k : Int)) = (p : Int) + (k : Int) := IntWalk.i64_in _ (by omega)
                  have q2 : (0 : Int) ≤ (p : Int) + (k : Int) := by omega
                  have q3 : ((p : Int) + (k : Int)).toNat = p + k := by omega
                  go_quiet (fail)
                  clear q1
                  go_wp2
                  all_goals
                    go_ret
                    refine ⟨by rw [HR.out, hU.out]; rfl, ?_, ?_⟩
                    · rw [HR.out, show nextBad (rest s p) = false from by unfold nextBad; rw [HR.out]; show (((k + 1 : Nat) : Int) == 0) = false; rw [beq_eq_false_iff_ne]; omega]
                      have := h.set1 (p + (k + 1))
                      rw [show (((p + (k + 1) : Nat)) : Int) = (p : Int) + ((k : Int) + 1) from by omega] at this
                      exact this
                    · exact grow_same (grow_drawnN _ (grow_refl _ _)) (grow_set _ _ _)
    · have hR : getN (rest s p) = (0, 0) := by
        rw [HG.out]
        by_cases h1 : p + k < s.size
        · rw [List.drop_eq_getElem_cons (by simpa [size_toList] using h1), getL, if_pos (by omega)]
        · rw [List.drop_eq_nil_of_le (by rw [size_toList]; omega), getL]
      have HR := Lib.hid hR
      clear hR
      by_cases h1 : k < 10
      · have h2 : (s.size : Int) ≤ (p : Int) + k := by omega
        have h3 : (k : Int) < 10 := by omega
        go_wp2
        go_quiet (fail)
        go_wp2
        go_ret
        refine ⟨by rw [HR.out]; rfl, ?_, ?_⟩
        · rw [HR.out, show nextBad (rest s p) = true from by unfold nextBad; rw [HR.out]; rfl]
          exact h.set2 true
        · exact grow_same (grow_drawnN _ (grow_refl _ _)) (grow_set _ _ _)
      · have h3 : decide ((k : Int) < 10) = false := by simp; omega
        have h4 : (10 : Int) ≤ k := by omega
        go_wp2
        go_quiet (fail)
        go_wp2
        go_ret
        refine ⟨by rw [HR.out]; rfl, ?_, ?_⟩
        · rw [HR.out, show nextBad (rest s p) = true from by unfold nextBad; rw [HR.out]; rfl]
          exact h.set2 true
        · exact grow_same (grow_drawnN _ (grow_refl _ _)) (grow_set _ _ _)
theorem rest_next (s : ByteArray) (p : Nat) : nextS (rest s p) = rest s (p + (getN (rest s p)).2) := by
  rw [nextS_list]
  show (⟨(List.drop _ (s.data.toList.drop p).toArray.toList).toArray⟩ : ByteArray) = _
  unfold rest
  rw [List.drop_drop]
end Go.Proofs.YtphljjgjpkdpmaaGreatDoor
/- Stage 4: Open, of all bytes; the document's Open. -/
namespace Go.Proofs.YtphljjgjpkdpmaaGreatDoor
open Go.RowKit
set_option linter.unusedVariables false
theorem opB_len {s : ByteArray} (h : lenOk s) : opB s = (((nextS s).extract 0 4).toList == (⟨(sumB (crcN (payB s))).toArray⟩ : ByteArray).toList) := by
  unfold opB; rw [decide_eq_true h, Bool.true_and]
theorem opB_no {s : ByteArray} (h : ¬ lenOk s) : opB s = false := by
  unfold opB; rw [decide_eq_false h, Bool.false_and]
theorem Open_yes (s : ByteArray) (w : World) (hm : Mv w) (hs : s.size ≤ 1000000000) (h : opB s = true) :
    Calls Tryz.prog 91 #[.string s] w fun e w' => e = .returned (.tuple #[.string (payB s), .string (behB s), .int .i64 0]) ∧ w.grownBy w' none := by
  by_cases hl : lenOk s
  · have hq : false = !(((nextS s).extract 0 4).toList == (⟨(sumB (crcN (payB s))).toArray⟩ : ByteArray).toList) := by rw [← opB_len hl, h]; rfl
    exact Open_len s w hm hs hl false hq
  · rw [opB_no hl] at h; cases h
theorem Open_not (s : ByteArray) (w : World) (hm : Mv w) (hs : s.size ≤ 1000000000) (h : opB s = false) :
    Calls Tryz.prog 91 #[.string s] w fun e w' => e = .returned (.tuple #[.string ⟨#[]⟩, .string ⟨#[]⟩, .int .i64 3]) ∧ w.grownBy w' none := by
  by_cases hl : lenOk s
  · have hq : true = !(((nextS s).extract 0 4).toList == (⟨(sumB (crcN (payB s))).toArray⟩ : ByteArray).toList) := by rw [← opB_len hl, h]; rfl
    exact Open_len s w hm hs hl true hq
  · exact Open_no s w hs hl
theorem rest_zero (s : ByteArray) : rest s 0 = s := by
  unfold rest; rw [List.drop_zero]
theorem Rr.new (w : World) (s : ByteArray) : Rr (w.alloc (.cells #[.string s, .int .i64 0, .bool false] 118)) w.heap.size s 0 false := heap_alloc_new w _
set_option maxRecDepth 100000 in
set_option maxHeartbeats 1000000 in
theorem refOpen_no (s : ByteArray) (w : World) (hs : s.size ≤ 1000000000) (h : ¬ lenOk s) :
    Calls Tryz.prog 86 #[.string s] w fun e w' => e = .returned (.tuple #[.string ⟨#[]⟩, .string ⟨#[]⟩, .bool false]) ∧ w.grownBy w' none := by
  have hnb := getN_bd s
  have hu := getN_used s
  have hns := nextS_size s
  obtain ⟨n, hn⟩ : ∃ n, n = (getN s).1 := ⟨_, rfl⟩
  obtain ⟨t, ht⟩ : ∃ t, t = nextBad s := ⟨_, rfl⟩
  obtain ⟨u, hue⟩ : ∃ u, u = (getN s).2 := ⟨_, rfl⟩
  rw [← hue] at hu hns
  have hc : t = true ∨ (t = false ∧ decide (n < 0) = true) ∨ (t = false ∧ decide (n < 0) = false ∧ decide (1048576 < n) = true) ∨ (t = false ∧ decide (n < 0) = false ∧ decide (1048576 < n) = false ∧ decide ((s.size : Int) - (u : Int) - 4 < n) = true) := by
    unfold lenOk at h
    rw [← hn, ← ht, hns] at h
    cases t
    · simp only [decide_eq_true_eq, decide_eq_false_iff_not]
      simp only [true_and] at h
      right
      by_cases h1 : n < 0
      · exact .inl ⟨trivial, h1⟩
      · by_cases h2 : 1048576 < n
        · exact .inr (.inl ⟨trivial, h1, h2⟩)
        · exact .inr (.inr ⟨trivial, h1, h2, by omega⟩)
    · exact .inl rfl
  have hr := Rr.new w s
  have gA := World.grownBy_alloc w (.cells #[.string s, .int .i64 0, .bool false] 118) none
  rw [← hn] at hnb
  have hui : (u : Int) ≤ s.size := by omega
  have hsi : (s.size : Int) ≤ 1000000000 := by omega
  have HN := Lib.hid hn
  have HT := Lib.hid ht
  have HU := Lib.hid hue
  have HZ := Lib.hid (rest_zero s)
  clear hn ht h hns hue hu
  rcases hc with rfl | ⟨rfl, e1⟩ | ⟨rfl, e1, e2⟩ | ⟨rfl, e1, e2, e3⟩
  all_goals
    go_enter Tryz.func86, Tryz.ntmps86
    go_wp2_with fail
    refine (refRNum_good _ s 0 _ hr (Nat.zero_le _) (by omega)).mono ?_
    rintro e w2 ⟨rfl, x2, g2⟩
    rw [HZ.out] at x2 ⊢
    rw [Nat.zero_add, ← HT.out, ← HU.out] at x2
    rw [← HN.out]
    have G2 := grow_new gA (Nat.le_refl _) g2
    have c1 := x2.c1
    have c2 := x2.c2
    clear gA g2 hr
    go_wp2
    refine bodyPost_ret (v := .tuple #[.string ⟨#[]⟩, .string ⟨#[]⟩, .bool false]) ?_ ?_ ?_
    · simp [results, go_sem]
    · rfl
    · exact ⟨rfl, G2⟩
theorem One_rel {w0 : World} (p : ByteArray) (w : World) {A : ByteArray} (hA : A = ⟨(frB p).toArray⟩) (hp : p.size ≤ 1000000000) (hI : w0.grownBy w none) :
    Calls Tryz.prog 58 #[.string p] w fun e w' => ∃ u, e = .returned u ∧ u = .string A ∧ w0.grownBy w' none ∧ w.grownBy w' none :=
  (One_any p w hp).mono fun e w' ⟨he, g⟩ => ⟨_, he, by rw [hA], grow_none hI g, g⟩
theorem open_doc {s : ByteArray} (h : lenOk s) : opB s = (((bs (frB (payB s))).toList) == (s.extract 0 ((getN s).2 + 4 + payN s)).toList) := by
  obtain ⟨a, b, ha, hp1, hp2, hx, hs, hb, hu⟩ := len_sound h
  have hpn : payN s = (payB s).size := by unfold payN; omega
  have hcut : s.extract 0 ((getN s).2 + 4 + payN s) = bs (numB ((payB s).size : Int) ++ (a ++ (payB s).data.toList)) := by
    obtain ⟨P, hP⟩ : ∃ P, P = payB s := ⟨_, rfl⟩
    rw [hpn, hu]
    rw [← hP] at hs ⊢
    conv => lhs; rw [← bs_self s]
    rw [extract_bs, List.drop_zero, Nat.sub_zero, hs, ← List.append_assoc, ← List.append_assoc, List.take_left', ← List.append_assoc]
    rw [List.length_append, List.length_append, ha, len_bs]
  rw [opB_len h, hcut, hx, Bool.eq_iff_iff, beq_bytes, beq_bytes]
  constructor
  · intro e
    have ea : a = sumB (crcN (payB s)) := bs_inj e
    rw [ea]; rfl
  · intro e
    have e2 := bs_inj e
    unfold frB at e2
    rw [List.append_cancel_left_eq, List.append_cancel_right_eq] at e2
    rw [← e2]; rfl
theorem extract_self (s : ByteArray) (a b : Nat) : s.extract a b = bs ((s.data.toList.drop a).take (b - a)) := by
  have h := extract_bs s.data.toList a b
  rw [bs_self] at h; exact h
theorem len_pay {s : ByteArray} (h : lenOk s) : s.extract ((getN s).2 + 4) ((getN s).2 + 4 + payN s) = payB s ∧ s.extract ((getN s).2 + 4 + payN s) s.size = behB s := by
  have hns := nextS_size s
  have hu := getN_used s
  obtain ⟨h0, h1, h2, h3⟩ := h
  have hx : nextS s = bs (s.data.toList.drop (getN s).2) := nextS_list s
  have hl : s.data.toList.length = s.size := len_bs s
  constructor
  · unfold payB
    rw [extract_self s, hx, extract_bs, List.drop_drop, Nat.add_sub_cancel_left, Nat.add_sub_cancel_left]
  · unfold behB
    have hsz : (nextS s).size = s.size - (getN s).2 := hns
    rw [hsz, extract_self s, hx, extract_bs, List.drop_drop, List.take_of_length_le, List.take_of_length_le]
    · congr 2; omega
    · rw [List.length_drop, hl]; omega
    · rw [List.length_drop, hl]; omega
set_option maxRecDepth 100000 in
set_option maxHeartbeats 1000000 in
theorem refOpen_len (s : ByteArray) (w : World) (hs : s.size ≤ 1000000000) (h : lenOk s) (q : Bool) (hq : q = !opB s) :
    Calls Tryz.prog 86 #[.string s] w fun e w' => e = .returned (if q then .tuple #[.string ⟨#[]⟩, .string ⟨#[]⟩, .bool false] else .tuple #[.string (payB s), .string (behB s), .bool true]) ∧ w.grownBy w' none := by
  obtain ⟨hx1, hx2⟩ := len_pay h
  rw [open_doc h] at hq
  have hu := getN_used s
  have hns := nextS_size s
  obtain ⟨h0, h1, h2, h3⟩ := h
  obtain ⟨n, hn⟩ : ∃ n : Nat, (n : Int) = (getN s).1 := ⟨(getN s).1.toNat, by omega⟩
  have hpn : payN s = n := by unfold payN; omega
  obtain ⟨u, hue⟩ : ∃ u, u = (getN s).2 := ⟨_, rfl⟩
  rw [← hue] at hu hns hx1 hx2 hq
  rw [hpn] at hx1 hx2 hq
  rw [hns] at h3
  rw [← hn] at h2 h3
  obtain ⟨P, hP⟩ : ∃ P, P = payB s := ⟨_, rfl⟩
  obtain ⟨B, hB⟩ : ∃ B, B = behB s := ⟨_, rfl⟩
  obtain ⟨F, hF⟩ : ∃ F, F = bs (frB P) := ⟨_, rfl⟩
  rw [← hP] at hx1 hq ⊢
  rw [← hB] at hx2 ⊢
  rw [← hF] at hq
  have hPs : P.size ≤ 1000000000 := by rw [← hx1, ByteArray.size_extract]; omega
  obtain ⟨C, hC⟩ : ∃ C, C = s.extract 0 (u + 4 + n) := ⟨_, rfl⟩
  rw [← hC] at hq
  have hr := Rr.new w s
  have gA := World.grownBy_alloc w (.cells #[.string s, .int .i64 0, .bool false] 118) none
  have hsi : (s.size : Int) ≤ 1000000000 := by omega
  have hui : (u : Int) + 4 + (n : Int) ≤ s.size := by omega
  have hu4 : (u : Int) + 4 ≤ s.size := by omega
  have d1 : decide ((n : Int) < 0) = false := decide_eq_false (by omega)
  have d2 : decide ((1048576 : Int) < n) = false := decide_eq_false (by omega)
  have d3 : decide ((s.size : Int) - (u : Int) - 4 < (n : Int)) = false := decide_eq_false (by omega)
  have hni : (n : Int) ≤ 1048576 := h2
  have hun : (u : Int) ≤ s.size := by omega
  have HN := Lib.hid hn
  have HT := Lib.hid h0
  have HU := Lib.hid hue
  have HZ := Lib.hid (rest_zero s)
  have HX1 := Lib.hid hx1
  have HX2 := Lib.hid hx2
  have HC := Lib.hid hC
  have HF : Hid (F = ⟨(frB P).toArray⟩) := hF
  have HQ := Lib.hid hq
  have HPS := Lib.hid hPs
  clear hn h0 hns hue h1 h2 h3 hu hP hB hF hC hq hx1 hx2 hpn hPs
  go_enter Tryz.func86, Tryz.ntmps86
  go_wp2_with fail
  refine (refRNum_good _ s 0 _ hr (Nat.zero_le _) (by omega)).mono ?_
  rintro e w2 ⟨rfl, x2, g2⟩
  rw [HZ.out] at x2 ⊢
  rw [Nat.zero_add, HT.out, ← HU.out] at x2
  rw [← HN.out]
  have G2 := grow_new gA (Nat.le_refl _) g2
  have c1 := x2.c1
  have c2 := x2.c2
  clear gA g2 hr
  have q1 : IntKind.i64.wrap ((u : Int) + 4) = (u : Int) + 4 := IntWalk.i64_in _ (by omega)
  have q2 : (0 : Int) ≤ (u : Int) + 4 := by omega
  have q3 : ((u : Int) + 4).toNat = u + 4 := by omega
  have q4 : IntKind.i64.wrap ((u : Int) + 4 + (n : Int)) = (u : Int) + 4 + (n : Int) := IntWalk.i64_in _ (by omega)
  have q5 : (0 : Int) ≤ (u : Int) + 4 + (n : Int) := by omega
  have q6 : ((u : Int) + 4 + (n : Int)).toNat = u + 4 + n := by omega
  have q7 : (u : Int) + 4 ≤ (u : Int) + 4 + (n : Int) := by omega
  have hx1 := HX1.out
  go_wp2
  go_quiet (fail)
  clear hx1
  go_wp2
  have hc0 := HC.out.symm
  refine wp_region_rel (fun W => w2.grownBy W none) (fun W W' => W.grownBy W' none) (by kernel_rfl) (by kernel_rfl) (fun W => grow_refl W none) (grow_drawn (grow_drawnN _ (grow_refl _ _))) ?_
  repeat (refine wpRel_det ?_; apply Exists.intro; refine ⟨fun W hI => ?_, ?_⟩; focus (go_simp; first | exact ⟨rfl, grow_refl _ _⟩ | exact One_rel P _ HF.out HPS.out hI))
  refine wpRel_nil ?_
  intro w7 hI
  have G7 := grow_none G2 hI
  have hq' : (!(F.toList == C.toList)) = q := HQ.out.symm
  go_simp
  have hx2 := HX2.out
  cases q with
  | true =>
    go_wp2
    refine bodyPost_ret (v := .tuple #[.string ⟨#[]⟩, .string ⟨#[]⟩, .bool false]) ?_ ?_ ?_
    · simp [results, go_sem]
    · rfl
    · exact ⟨rfl, G7⟩
  | false =>
    go_wp2
    go_quiet (fail)
    go_wp2
    refine bodyPost_ret (v := .tuple #[.string P, .string B, .bool true]) ?_ ?_ ?_
    · simp [results, go_sem]
    · rfl
    · exact ⟨rfl, grow_drawnN _ G7⟩
theorem refOpen_yes (s : ByteArray) (w : World) (hs : s.size ≤ 1000000000) (h : opB s = true) :
    Calls Tryz.prog 86 #[.string s] w fun e w' => e = .returned (.tuple #[.string (payB s), .string (behB s), .bool true]) ∧ w.grownBy w' none := by
  by_cases hl : lenOk s
  · exact refOpen_len s w hs hl false (by rw [h]; rfl)
  · rw [opB_no hl] at h; cases h
theorem refOpen_not (s : ByteArray) (w : World) (hs : s.size ≤ 1000000000) (h : opB s = false) :
    Calls Tryz.prog 86 #[.string s] w fun e w' => e = .returned (.tuple #[.string ⟨#[]⟩, .string ⟨#[]⟩, .bool false]) ∧ w.grownBy w' none := by
  by_cases hl : lenOk s
  · exact refOpen_len s w hs hl true (by rw [h]; rfl)
  · exact refOpen_no s w hs hl
end Go.Proofs.YtphljjgjpkdpmaaGreatDoor
/- Stage 4: Scan, and the document's Scan. -/
namespace Go.Proofs.YtphljjgjpkdpmaaGreatDoor
open Go.RowKit
set_option linter.unusedVariables false
theorem Tryz.info04_string : (Tryz.prog.info? 9).map (fun i => (i.zero, i.size, i.bytes)) = some (some (.string ⟨#[]⟩), 1, 16) := by kernel_rfl
theorem one_str (s : ByteArray) : ∀ u ∈ [Value.string s], u.oneCell' = true := by intro u hu; simp at hu; subst hu; rfl
def sizeOf1 : Value → Nat
  | .string s => s.size
  | _ => 0
/-- What a scan has done so far. -/
def ScanRel (s : ByteArray) (w : World) (done : List ByteArray) (cur : ByteArray) (v : Value) (wr : World) : Prop :=
  (∀ l c, Scans cur l c → Scans s (done ++ l) c) ∧ cur.size + 5 * done.length ≤ s.size ∧ wr.ownsRow 0 9 1 v done.length (done.map Value.string) ∧ w.grownBy wr none ∧ NewBlk w v
theorem ScanRel.start (s : ByteArray) (w : World) : ScanRel s w [] s (.slice none 0 0) w :=
  ⟨fun l c h => h, by simp, World.ownsRow_nil _ _ _ _, grow_refl _ _, newblk_nil _⟩
theorem ScanRel.next {s : ByteArray} {w w3 : World} {done : List ByteArray} {cur : ByteArray} {v3 : Value} (h1 : ∀ l c, Scans cur l c → Scans s (done ++ l) c) (h2 : cur.size + 5 * done.length ≤ s.size) (hop : opB cur = true)
    (ho : w3.ownsRow 0 9 1 v3 (done.length + 1) (done.map Value.string ++ [.string (payB cur)])) (hg : w.grownBy w3 none) (hn : NewBlk w v3) : ScanRel s w (done ++ [payB cur]) (behB cur) v3 w3 := by
  refine ⟨fun l c h => ?_, ?_, ?_, hg, hn⟩
  · rw [List.append_assoc]; exact h1 _ _ (.go _ _ _ hop h)
  · have := open_less hop
    rw [List.length_append, List.length_singleton]; omega
  · rw [List.length_append, List.length_singleton, List.map_append]; exact ho
def ScanE (s : ByteArray) (w : World) (e : Ending) (w' : World) : Prop :=
  ∃ p q l c, Scans s l c ∧ c.size + 5 * l.length ≤ s.size ∧ l.length ≤ q ∧ e = .returned (.tuple #[.slice p l.length q, .int .i64 ((s.size : Int) - (c.size : Int))]) ∧ RowAt w' (.slice p l.length q) (l.map Value.string) ∧ w.grownBy w' none
theorem own_form2 {w : World} {e : TypeId} {n : Nat} {v : Value} {xs : List Value} (h : w.ownsRow 0 e 1 v n xs) : ∃ a c, v = .slice a n c ∧ n ≤ c := by
  rcases h.2 with ⟨rfl, rfl⟩ | ⟨g, cap, cur, rfl, _, _, hnc, _⟩
  · exact ⟨_, _, rfl, Nat.le_refl _⟩
  · exact ⟨_, _, rfl, hnc⟩
theorem ScanE.of {s : ByteArray} {w w' : World} {done : List ByteArray} {cur : ByteArray} {v : Value} (h : ScanRel s w done cur v w') (hop : opB cur = false) {x : Int} (hx : x = (s.size : Int) - (cur.size : Int)) : ScanE s w (.returned (.tuple #[v, .int .i64 x])) w' := by
  obtain ⟨h1, h2, h3, h4, h5⟩ := h
  have := h1 [] cur (.stop _ hop)
  rw [List.append_nil] at this
  obtain ⟨a, q, rfl, hq⟩ := own_form2 h3
  exact ⟨a, q, done, cur, this, h2, hq, by rw [hx], RowAt.of_own h3, h4⟩
theorem row_take {w : World} {p : Option Addr} {n c k : Nat} {l : List ByteArray} (h : RowAt w (.slice p n c) (l.map Value.string)) (hk : k ≤ n) (hn : l.length = n) : RowAt w (.slice p k c) ((l.take k).map Value.string) := by
  obtain ⟨a, c', e, h⟩ := h
  injection e with e1 e2 e3
  subst e1 e3
  have hl : ((l.take k).map Value.string).length = k := by rw [List.length_map, List.length_take]; omega
  refine ⟨p, c, by rw [hl], ?_⟩
  rcases h with h | ⟨b, off, rfl, hb, hc⟩
  · have : l = [] := by simpa using h
    subst this
    left; simp
  · right
    refine ⟨b, off, rfl, hb, fun j hj => ?_⟩
    rw [hl] at hj
    have hj2 : j < l.length := by omega
    rw [hc j (by rw [List.length_map]; exact hj2)]
    simp [List.getD, hj]
theorem add_off (b off k : Nat) : (⟨b, off, none⟩ : Addr).add k = ⟨b, off + k, none⟩ := by unfold Addr.add; split <;> simp_all
theorem row_drop {w : World} {p : Option Addr} {n c k : Nat} {l : List ByteArray} (h : RowAt w (.slice p n c) (l.map Value.string)) (hk : k ≤ n) (hn : l.length = n) (hc : n ≤ c) : RowAt w (.slice (if c = k then p else p.map (·.add k)) (n - k) (c - k)) ((l.drop k).map Value.string) := by
  obtain ⟨a, c', e, h⟩ := h
  injection e with e1 e2 e3
  subst e1 e3
  have hl : ((l.drop k).map Value.string).length = n - k := by rw [List.length_map, List.length_drop]; omega
  refine ⟨_, _, by rw [hl], ?_⟩
  rcases h with h | ⟨b, off, rfl, hb, hcell⟩
  · have : l = [] := by simpa using h
    subst this
    left; simp
  · by_cases hck : c = k
    · left
      rw [List.drop_of_length_le (by omega)]; rfl
    · right
      rw [if_neg hck]
      refine ⟨b, off + k, ?_, hb, fun j hj => ?_⟩
      · exact congrArg some (add_off b off k)
      · rw [hl] at hj
        have hj2 : k + j < l.length := by omega
        rw [show off + k + j = off + (k + j) by omega, hcell (k + j) (by rw [List.length_map]; exact hj2)]
        simp [List.getD, List.getElem?_drop]
set_option maxRecDepth 100000 in
set_option maxHeartbeats 1000000 in
theorem Scan_any (s : ByteArray) (w : World) (hm : Mv w) (hs : s.size ≤ 1000000000) : Calls Tryz.prog 75 #[.string s] w (ScanE s w) := by
  obtain ⟨i0, hi, hz0, hz1, hz2⟩ := info_parts Tryz.info04_string
  have hsi : (s.size : Int) ≤ 1000000000 := by omega
  have st := ScanRel.start s w
  go_enter Tryz.func75, Tryz.ntmps75
  go_wp2
  go_loopw [2, 3, 4] (fun v x r wr => ∃ done cur, ScanRel s w done cur v wr ∧ r = .string cur ∧ x = .int .i64 ((s.size : Int) - (cur.size : Int))) (fun _ _ r _ => sizeOf1 r)
  case atStart => exact ⟨[], s, st, rfl, by rw [Int.sub_self]⟩
  case round =>
    obtain ⟨done, cur, hR, rfl, rfl⟩ := hrel
    have hR0 := hR
    obtain ⟨k1, k2, ho, hg, hn⟩ := hR
    have hcs : cur.size ≤ 1000000000 := by omega
    have hci : (cur.size : Int) ≤ s.size := by omega
    have hdl : done.length ≤ 200000000 := by omega
    have mr := hm.kept hg
    have HK1 := Lib.hid k1
    have HR := Lib.hid hR0
    clear k1 st hR0
    by_cases hop : opB cur = true
    · have hl := open_less hop
      have HOP := Lib.hid hop
      go_wp2_with fail
      refine (Open_yes cur _ mr hcs hop).mono ?_
      rintro e w2 ⟨rfl, g2⟩
      obtain ⟨P, hP⟩ : ∃ P, P = payB cur := ⟨_, rfl⟩
      obtain ⟨B, hB⟩ : ∃ B, B = behB cur := ⟨_, rfl⟩
      rw [← hB] at hl ⊢
      rw [← hP]
      have hBi : (B.size : Int) ≤ s.size := by omega
      have HP := Lib.hid hP
      have HB := Lib.hid hB
      have o2 := own_keep ho g2
      have gA := World.grownBy_alloc w2 (.cells #[Value.string P] 9) none
      have G2 := grow_none (grow_none hg g2) gA
      clear hop hP hB ho
      go_wp2_with (at_builtin; refine wpList_append_row _ rfl _ _ 34 rfl 9 i0 (.string ⟨#[]⟩) 16 Tryz.underlying34 hi hz0 hz1 hz2 rfl _ _ _ rfl (o2.alloc _) _ [Value.string P] rfl (RowAt.lit w2 [Value.string P] _ _ _ rfl) (ones_str [P]) (by show done.length + 1 ≤ 2^63-1; omega) (by show (done.length + 1) * 16 ≤ _; omega) ?_)
      intro v3 w3 o3 g3 m3
      have X3 := grow_newblk G2 hn g3
      have N3 := hn.moved G2.size m3
      go_wp2
      go_roundw
      case rel => exact ⟨done ++ [P], B, by rw [HP.out, HB.out]; exact ScanRel.next HK1.out k2 HOP.out (by rw [← HP.out]; exact o3) X3 N3, rfl, rfl⟩
      case measure => simp only [sizeOf1]; omega
    · have hop' : opB cur = false := by simpa using hop
      have HOP := Lib.hid hop'
      go_wp2_with fail
      refine (Open_not cur _ mr hcs hop').mono ?_
      rintro e w2 ⟨rfl, g2⟩
      clear hop hop'
      obtain ⟨va, vc, rfl, hvc⟩ := own_form2 ho
      go_wp2
      refine bodyPost_ret (v := .tuple #[.slice va done.length vc, .int .i64 ((s.size : Int) - (cur.size : Int))]) ?_ ?_ ?_
      · simp [results, go_sem]
      · rfl
      · exact ScanE.of ⟨HK1.out, k2, own_keep ho g2, grow_none hg g2, hn⟩ HOP.out rfl
theorem suf_next {s c : ByteArray} (h : s.extract (s.size - c.size) s.size = c) (hc : c.size ≤ s.size) (hop : opB c = true) : s.extract (s.size - (behB c).size) s.size = behB c := by
  obtain ⟨h1, _⟩ := open_sound hop
  have hl := open_less hop
  have h2 := congrArg List.length h1
  rw [List.length_append, len_bs, len_bs] at h2
  rw [extract_self] at h ⊢
  have h3 : (s.data.toList.drop (s.size - c.size)).take (s.size - (s.size - c.size)) = c.data.toList := by rw [← bs_list (List.take _ _), h]
  rw [List.take_of_length_le (by rw [List.length_drop, len_bs]; omega)] at h3 ⊢
  have h4 : s.data.toList.drop (s.size - (behB c).size) = (behB c).data.toList := by
    rw [show s.size - (behB c).size = (s.size - c.size) + (frB (payB c)).length by omega, ← List.drop_drop, h3]
    conv => lhs; rw [h1]
    exact List.drop_left' rfl
  rw [h4, bs_self]
set_option maxRecDepth 100000 in
set_option maxHeartbeats 1000000 in
theorem refScan_any (s : ByteArray) (w : World) (hs : s.size ≤ 1000000000) : Calls Tryz.prog 55 #[.string s] w (ScanE s w) := by
  obtain ⟨i0, hi, hz0, hz1, hz2⟩ := info_parts Tryz.info04_string
  have hsi : (s.size : Int) ≤ 1000000000 := by omega
  have st := ScanRel.start s w
  go_enter Tryz.func55, Tryz.ntmps55
  go_wp2
  go_loopw [4, 5] (fun v x wr => ∃ done cur, ScanRel s w done cur v wr ∧ s.extract (s.size - cur.size) s.size = cur ∧ x = .int .i64 ((s.size : Int) - (cur.size : Int))) (fun _ x _ => s.size - (intOf x).toNat)
  case atStart => exact ⟨[], s, st, by rw [Nat.sub_self]; exact (extract_self s 0 s.size).trans (by rw [List.drop_zero, Nat.sub_zero, List.take_of_length_le (by rw [len_bs]; exact Nat.le_refl _), bs_self]), by rw [Int.sub_self]⟩
  case round =>
    obtain ⟨done, cur, hR, hsuf, rfl⟩ := hrel
    obtain ⟨k1, k2, ho, hg, hn⟩ := hR
    have hcs : cur.size ≤ 1000000000 := by omega
    have hcl : cur.size ≤ s.size := by omega
    have hci : (cur.size : Int) ≤ s.size := by omega
    have hdl : done.length ≤ 200000000 := by omega
    have HK1 := Lib.hid k1
    have HSUF := Lib.hid hsuf
    have q2 : (0 : Int) ≤ (s.size : Int) - (cur.size : Int) := by omega
    have q3 : ((s.size : Int) - (cur.size : Int)).toNat = s.size - cur.size := by omega
    clear k1 st
    by_cases hop : opB cur = true
    · have hl := open_less hop
      have HOP := Lib.hid hop
      go_wp2_with fail
      refine (refOpen_yes cur _ hcs hop).mono ?_
      rintro e w2 ⟨rfl, g2⟩
      have HSN := Lib.hid (suf_next HSUF.out hcl hop)
      obtain ⟨P, hP⟩ : ∃ P, P = payB cur := ⟨_, rfl⟩
      obtain ⟨B, hB⟩ : ∃ B, B = behB cur := ⟨_, rfl⟩
      rw [← hB] at hl HSN ⊢
      rw [← hP]
      have hBi : (B.size : Int) ≤ s.size := by omega
      have HP := Lib.hid hP
      have HB := Lib.hid hB
      have o2 := own_keep ho g2
      have gA := World.grownBy_alloc w2 (.cells #[Value.string P] 9) none
      have G2 := grow_none (grow_none hg g2) gA
      clear hop hP hB ho hsuf q3
      go_wp2_with (at_builtin; refine wpList_append_row _ rfl _ _ 34 rfl 9 i0 (.string ⟨#[]⟩) 16 Tryz.underlying34 hi hz0 hz1 hz2 rfl _ _ _ rfl (o2.alloc _) _ [Value.string P] rfl (RowAt.lit w2 [Value.string P] _ _ _ rfl) (ones_str [P]) (by show done.length + 1 ≤ 2^63-1; omega) (by show (done.length + 1) * 16 ≤ _; omega) ?_)
      intro v3 w3 o3 g3 m3
      have X3 := grow_newblk G2 hn g3
      have N3 := hn.moved G2.size m3
      go_wp2
      go_roundw
      case rel => exact ⟨done ++ [P], B, by rw [HP.out, HB.out]; exact ScanRel.next HK1.out k2 HOP.out (by rw [← HP.out]; exact o3) X3 N3, HSN.out, rfl⟩
      case measure => simp only [intOf]; omega
    · have hop' : opB cur = false := by simpa using hop
      have HOP := Lib.hid hop'
      go_wp2_with fail
      refine (refOpen_not cur _ hcs hop').mono ?_
      rintro e w2 ⟨rfl, g2⟩
      clear hop hop'
      obtain ⟨va, vc, rfl, hvc⟩ := own_form2 ho
      go_wp2
      refine bodyPost_ret (v := .tuple #[.slice va done.length vc, .int .i64 ((s.size : Int) - (cur.size : Int))]) ?_ ?_ ?_
      · simp [results, go_sem]
      · rfl
      · exact ScanE.of ⟨HK1.out, k2, own_keep ho g2, grow_none hg g2, hn⟩ HOP.out rfl
end Go.Proofs.YtphljjgjpkdpmaaGreatDoor
