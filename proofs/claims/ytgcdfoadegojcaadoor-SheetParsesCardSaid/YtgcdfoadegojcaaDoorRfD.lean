/- What the document's answer for layer 1 is: its reader. -/
import Derived.Test.YtgcdfoadegojcaaDoorRfA
import Derived.Test.YtgcdfoadegojcaaDoorPkM
namespace Go.Proofs.YtgcdfoadegojcaaDoor
open Go.RowKit
set_option linter.unusedVariables false
/-- Block b is the document's reader: its bytes, how many are read, whether something was wrong. -/
def Rr (w : World) (b : Nat) (s : ByteArray) (at_ : Nat) (bad : Bool) : Prop := w.heap[b]? = some (.cells #[.string s, .int .i64 at_, .bool bad] 77 (0, 0))
section
variable {w : World} {b : Nat} {s : ByteArray} {p : Nat} {bad : Bool}
theorem Rr.c0 (h : Rr w b s p bad) : w.cell? ⟨b, 0, none⟩ = some (.string s) := by unfold Rr at h; simp [World.cell?, h]
theorem Rr.c1 (h : Rr w b s p bad) : w.cell? ⟨b, 1, none⟩ = some (.int .i64 p) := by unfold Rr at h; simp [World.cell?, h]
theorem Rr.c2 (h : Rr w b s p bad) : w.cell? ⟨b, 2, none⟩ = some (.bool bad) := by unfold Rr at h; simp [World.cell?, h]
theorem Rr.fr (h : Rr w b s p bad) (o : Nat) : w.frozen? ⟨b, o, none⟩ = false := by unfold Rr at h; simp [World.frozen?, h]
theorem Rr.lt (h : Rr w b s p bad) : b < w.heap.size := (Array.getElem?_eq_some_iff.1 h).1
theorem Rr.set1 (h : Rr w b s p bad) (p' : Nat) : Rr (w.setCell ⟨b, 1, none⟩ (.int .i64 p')) b s p' bad := by
  unfold Rr at h ⊢; simp [World.setCell, Array.getElem?_modify, h]
theorem Rr.set2 (h : Rr w b s p bad) (bad' : Bool) : Rr (w.setCell ⟨b, 2, none⟩ (.bool bad')) b s p bad' := by
  unfold Rr at h ⊢; simp [World.setCell, Array.getElem?_modify, h]
theorem Rr.kept {w' : World} (h : Rr w b s p bad) {r : Option Nat} (g : w.grownBy w' r) (hr : r ≠ some b) : Rr w' b s p bad := by
  unfold Rr at h ⊢; rw [g.block b (Array.getElem?_eq_some_iff.1 h).1 (fun e => hr e.symm)]; exact h
theorem Rr.drewN (h : Rr w b s p bad) (n : Nat) : Rr (w.drewN n) b s p bad := h
end
set_option maxRecDepth 100000 in
theorem refDone_any (b : Nat) (s : ByteArray) (p : Nat) (bad : Bool) (w : World) (h : Rr w b s p bad) (hs : s.size ≤ 1000000000000000) :
    Calls Tryd.prog 53 #[.pointer (some ⟨b, 0, none⟩)] w fun e w' => e = .returned (.bool (!bad && ((p : Int) == (s.size : Int)))) ∧ ∃ n, w' = w.drewN n := by
  have c0 := h.c0
  have c1 := h.c1
  have c2 := h.c2
  cases bad with
  | true =>
    go_enter Tryd.func53, Tryd.ntmps53
    go_wp2
    go_quiet (fail)
    go_wp2
    go_ret
    exact ⟨rfl, nq, rfl⟩
  | false =>
    go_enter Tryd.func53, Tryd.ntmps53
    go_wp2
    go_quiet (fail)
    go_wp2
    go_ret
    exact ⟨rfl, nq, rfl⟩
/-- Where the document's reader stands: behind a number. -/
def rest (s : ByteArray) (p : Nat) : ByteArray := ⟨(s.data.toList.drop p).toArray⟩
theorem rest_size (s : ByteArray) (p : Nat) : (rest s p).size = s.size - p := by
  show (s.data.toList.drop p).toArray.size = _
  rw [List.size_toArray, List.length_drop, size_toList]
/-- What holds at the head of the document's Num's round: k groups are read, they give y; what is read then is told. -/
def RnRel (s : ByteArray) (p : Nat) (z u i : Value) : Prop :=
  ∃ k y : Nat, k ≤ 10 ∧ p + k ≤ s.size ∧ i = .int .i64 k ∧ z = .int .u64 y ∧ (k ≤ 9 → u = .int .u64 (128 ^ k : Nat)) ∧ y < 128 ^ k ∧ getN (rest s p) = getL (s.data.toList.drop (p + k)) k y
set_option maxRecDepth 100000 in
set_option maxHeartbeats 1000000 in
theorem refRNum_bad (b : Nat) (s : ByteArray) (p : Nat) (w : World) (h : Rr w b s p true) :
    Calls Tryd.prog 51 #[.pointer (some ⟨b, 0, none⟩)] w fun e w' => e = .returned (.int .i64 0) ∧ w' = w := by
  have c2 := h.c2
  go_enter Tryd.func51, Tryd.ntmps51
  go_wp2
  go_ret
  exact ⟨rfl, rfl⟩
set_option maxRecDepth 100000 in
set_option maxHeartbeats 1000000 in
theorem refRNum_good (b : Nat) (s : ByteArray) (p : Nat) (w : World) (h : Rr w b s p false) (hp : p ≤ s.size) (hs : s.size ≤ 1000000000000000) :
    Calls Tryd.prog 51 #[.pointer (some ⟨b, 0, none⟩)] w fun e w' => e = .returned (.int .i64 (getN (rest s p)).1) ∧ Rr w' b s (p + (getN (rest s p)).2) (nextBad (rest s p)) ∧ w.grownBy w' (some b) := by
  have c2 := h.c2
  go_enter Tryd.func51, Tryd.ntmps51
  go_wp2
  clear c2
  go_loopw [3, 4, 5] (fun z u i wr => RnRel s p z u i ∧ ∃ n, wr = w.drewN n) (fun _ _ i _ => 10 - (intOf i).toNat)
  case atStart => exact ⟨⟨0, 0, by omega, by omega, rfl, rfl, fun _ => rfl, by simp, rfl⟩, 0, rfl⟩
  case round =>
    obtain ⟨⟨k, y, hk10, hpk, rfl, rfl, hu, hy, hg⟩, n0, rfl⟩ := hrel
    have c0 := h.c0
    have c1 := h.c1
    have c2 := h.c2
    have f1 := h.fr 1
    have f2 := h.fr 2
    have HG := Lib.hid hg
    have HY := Lib.hid hy
    clear hg hy
    by_cases hend : k < 10 ∧ p + k < s.size
    · obtain ⟨h1, h2⟩ := hend
      have hu := hu (by omega)
      subst hu
      have hk9 : (k : Int) < 10 := by omega
      have hin : (p : Int) + k < s.size := by omega
      have hb := s[p + k].toNat_lt
      have hdrop : s.data.toList.drop (p + k) = s[p + k] :: s.data.toList.drop (p + (k + 1)) := by
        rw [List.drop_eq_getElem_cons (by simpa [size_toList] using h2)]; rfl
      have HGL := HG.out
      rw [hdrop, getL, if_neg (by omega)] at HGL
      clear hdrop
      by_cases h9 : k = 9 ∧ 1 < s[p + k].toNat
      · rw [if_pos h9] at HGL
        have HR := Lib.hid HGL
        obtain ⟨e9, hb1⟩ := h9
        have e9' : ((k : Int) == 9) = true := by simp; omega
        have hb1' : (1 : Int) < s[p + k].toNat := by omega
        clear HGL e9 hb1 HG
        go_wp2
        go_quiet (fail)
        go_wp2
        have q1 : IntKind.i64.wrap ((p : Int) + (k : Int)) = (p : Int) + (k : Int) := IntWalk.i64_in _ (by omega)
        have q2 : (0 : Int) ≤ (p : Int) + (k : Int) := by omega
        have q3 : ((p : Int) + (k : Int)).toNat = p + k := by omega
        go_quiet (fail)
        clear q1
        go_wp2
        go_ret
        refine ⟨by rw [HR.out]; rfl, ?_, ?_⟩
        · rw [HR.out, show nextBad (rest s p) = true from by unfold nextBad; rw [HR.out]; rfl]
          exact h.set2 true
        · exact grow_same (grow_drawnN _ (grow_refl _ _)) (grow_set _ _ _)
      · rw [if_neg h9] at HGL
        have hst := step_lt h1 HY.out hb h9
        obtain ⟨x, hx⟩ : ∃ x, x = s[p + k].toNat % 128 := ⟨_, rfl⟩
        rw [← hx] at hst HGL
        obtain ⟨M, hM⟩ : ∃ M, M = x * 128 ^ k := ⟨_, rfl⟩
        have hmul : IntKind.u64.wrap ((s[p + k].toNat : Int) % 128 * 128 ^ k) = (M : Int) := by
          have e : (s[p + k].toNat : Int) % 128 * 128 ^ k = ((x * 128 ^ k : Nat) : Int) := by rw [hx]; simp
          rw [IntKind.wrap_u64, e, ← hM, Int.emod_eq_of_lt (by omega) (by omega)]
        rw [← hM] at hst HGL
        obtain ⟨N, hN⟩ : ∃ N, N = y + M := ⟨_, rfl⟩
        have hadd : IntKind.u64.wrap ((y : Int) + (M : Int)) = (N : Int) := by
          rw [IntKind.wrap_u64, Int.emod_eq_of_lt (by omega) (by omega), hN]; omega
        rw [← hN] at hst HGL
        have HR := Lib.hid HGL
        have HST := Lib.hid hst
        clear HGL hst hM hN hx HG
        have h91 : ¬ k = 9 ∨ (s[p + k].toNat : Int) ≤ 1 := by omega
        by_cases h128 : 128 ≤ s[p + k].toNat
        · have e9' : ((k : Int) == 9) = false := by simp; omega
          have h128' : (128 : Int) ≤ s[p + k].toNat := by omega
          go_wp2
          go_quiet (fail)
          go_wp2
          have q1 : IntKind.i64.wrap ((p : Int) + (k : Int)) = (p : Int) + (k : Int) := IntWalk.i64_in _ (by omega)
          have q2 : (0 : Int) ≤ (p : Int) + (k : Int) := by omega
          have q3 : ((p : Int) + (k : Int)).toNat = p + k := by omega
          go_quiet (fail)
          clear q1
          go_wp2
          refine ⟨⟨⟨k + 1, N, by omega, by omega, by go_num, rfl, fun hk8 => ?_, HST.out.2.2, by rw [HR.out, if_pos h128]⟩, ⟨_, rfl⟩⟩, by simp [intOf]; omega⟩
          have e1 : (128 : Nat) ^ (k + 1) ≤ 9223372036854775808 := pow128 hk8
          have e2 : (128 : Int) ^ k * 128 = ((128 ^ (k + 1) : Nat) : Int) := by rw [Nat.pow_succ]; simp
          obtain ⟨T, hT⟩ : ∃ T, T = 128 ^ (k + 1) := ⟨_, rfl⟩
          rw [← hT] at e1 e2 ⊢
          rw [IntKind.wrap_u64, e2, Int.emod_eq_of_lt (by omega) (by omega)]
        · have h128' : (s[p + k].toNat : Int) < 128 := by omega
          by_cases h0 : s[p + k].toNat = 0 ∧ 0 < k
          · have hR : getN (rest s p) = (0, 0) := by rw [HR.out, if_neg h128, if_pos h0]
            have HR := Lib.hid hR
            obtain ⟨h0a, h0b⟩ := h0
            have h0' : ((s[p + k].toNat : Int) == 0) = true := by simp; omega
            have h0c : (0 : Int) < k := by omega
            clear hR h0a
            rcases Decidable.em (k = 9) with h9c | h9c
            · have h9d : ((k : Int) == 9) = true := by simp; omega
              have h9e : (s[p + k].toNat : Int) ≤ 1 := by omega
              clear h9c h91
              go_wp2
              go_quiet (fail)
              go_wp2
              have q1 : IntKind.i64.wrap ((p : Int) + (k : Int)) = (p : Int) + (k : Int) := IntWalk.i64_in _ (by omega)
              have q2 : (0 : Int) ≤ (p : Int) + (k : Int) := by omega
              have q3 : ((p : Int) + (k : Int)).toNat = p + k := by omega
              go_quiet (fail)
              clear q1
              go_wp2
              go_ret
              refine ⟨by rw [HR.out]; rfl, ?_, ?_⟩
              · rw [HR.out, show nextBad (rest s p) = true from by unfold nextBad; rw [HR.out]; rfl]
                exact h.set2 true
              · exact grow_same (grow_drawnN _ (grow_refl _ _)) (grow_set _ _ _)
            · have h9d : ((k : Int) == 9) = false := by simp; omega
              clear h9c h91
              go_wp2
              go_quiet (fail)
              go_wp2
              have q1 : IntKind.i64.wrap ((p : Int) + (k : Int)) = (p : Int) + (k : Int) := IntWalk.i64_in _ (by omega)
              have q2 : (0 : Int) ≤ (p : Int) + (k : Int) := by omega
              have q3 : ((p : Int) + (k : Int)).toNat = p + k := by omega
              go_quiet (fail)
              clear q1
              go_wp2
              go_ret
              refine ⟨by rw [HR.out]; rfl, ?_, ?_⟩
              · rw [HR.out, show nextBad (rest s p) = true from by unfold nextBad; rw [HR.out]; rfl]
                exact h.set2 true
              · exact grow_same (grow_drawnN _ (grow_refl _ _)) (grow_set _ _ _)
          · obtain ⟨q, hq⟩ : ∃ q, q = N / 2 := ⟨_, rfl⟩
            have hN2 : (N : Int) / 2 = (q : Int) := by omega
            have hqb : (q : Int) ≤ 9223372036854775807 := by have := HST.out.1; omega
            have hR : getN (rest s p) = (unzig N, k + 1) := by rw [HR.out, if_neg h128, if_neg h0]
            have HR := Lib.hid hR
            have h01 : (((s[p + k].toNat : Int) == 0) = false) ∨ (((s[p + k].toNat : Int) == 0) = true ∧ (k : Int) ≤ 0) := by
              by_cases e : s[p + k].toNat = 0
              · exact .inr ⟨by simp; omega, by omega⟩
              · exact .inl (by simp; omega)
            rcases Nat.mod_two_eq_zero_or_one N with hm | hm
            · have hm' : ((N : Int) % 2 == 1) = false := by rw [beq_eq_false_iff_ne]; omega
              have hU : Hid (unzig N = (q : Int)) := by show _ = _; unfold unzig; rw [if_pos hm, hq]
              clear hR hq hm h0
              rcases h01 with h01 | ⟨h01, hk0⟩
              · rcases Decidable.em (k = 9) with h9c | h9c
                · have h9d : ((k : Int) == 9) = true := by simp; omega
                  have h9e : (s[p + k].toNat : Int) ≤ 1 := by omega
                  clear h9c h91
                  go_wp2
                  go_quiet (fail)
                  go_wp2
                  have q1 : IntKind.i64.wrap ((p : Int) + (k : Int)) = (p : Int) + (k : Int) := IntWalk.i64_in _ (by omega)
                  have q2 : (0 : Int) ≤ (p : Int) + (k : Int) := by omega
                  have q3 : ((p : Int) + (k : Int)).toNat = p + k := by omega
                  go_quiet (fail)
                  clear q1
                  go_wp2
                  all_goals
                    go_ret
                    refine ⟨by rw [HR.out, hU.out]; rfl, ?_, ?_⟩
                    · rw [HR.out, show nextBad (rest s p) = false from by unfold nextBad; rw [HR.out]; show (((k + 1 : Nat) : Int) == 0) = false; rw [beq_eq_false_iff_ne]; omega]
                      have := h.set1 (p + (k + 1))
                      rw [show (((p + (k + 1) : Nat)) : Int) = (p : Int) + ((k : Int) + 1) from by omega] at this
                      exact this
                    · exact grow_same (grow_drawnN _ (grow_refl _ _)) (grow_set _ _ _)
                · have h9d : ((k : Int) == 9) = false := by simp; omega
                  clear h9c h91
                  go_wp2
                  go_quiet (fail)
                  go_wp2
                  have q1 : IntKind.i64.wrap ((p : Int) + (k : Int)) = (p : Int) + (k : Int) := IntWalk.i64_in _ (by omega)
                  have q2 : (0 : Int) ≤ (p : Int) + (k : Int) := by omega
                  have q3 : ((p : Int) + (k : Int)).toNat = p + k := by omega
                  go_quiet (fail)
                  clear q1
                  go_wp2
                  all_goals
                    go_ret
                    refine ⟨by rw [HR.out, hU.out]; rfl, ?_, ?_⟩
                    · rw [HR.out, show nextBad (rest s p) = false from by unfold nextBad; rw [HR.out]; show (((k + 1 : Nat) : Int) == 0) = false; rw [beq_eq_false_iff_ne]; omega]
                      have := h.set1 (p + (k + 1))
                      rw [show (((p + (k + 1) : Nat)) : Int) = (p : Int) + ((k : Int) + 1) from by omega] at this
                      exact this
                    · exact grow_same (grow_drawnN _ (grow_refl _ _)) (grow_set _ _ _)
              · rcases Decidable.em (k = 9) with h9c | h9c
                · have h9d : ((k : Int) == 9) = true := by simp; omega
                  have h9e : (s[p + k].toNat : Int) ≤ 1 := by omega
                  clear h9c h91
                  go_wp2
                  go_quiet (fail)
                  go_wp2
                  have q1 : IntKind.i64.wrap ((p : Int) + (k : Int)) = (p : Int) + (k : Int) := IntWalk.i64_in _ (by omega)
                  have q2 : (0 : Int) ≤ (p : Int) + (k : Int) := by omega
                  have q3 : ((p : Int) + (k : Int)).toNat = p + k := by omega
                  go_quiet (fail)
                  clear q1
                  go_wp2
                  all_goals
                    go_ret
                    refine ⟨by rw [HR.out, hU.out]; rfl, ?_, ?_⟩
                    · rw [HR.out, show nextBad (rest s p) = false from by unfold nextBad; rw [HR.out]; show (((k + 1 : Nat) : Int) == 0) = false; rw [beq_eq_false_iff_ne]; omega]
                      have := h.set1 (p + (k + 1))
                      rw [show (((p + (k + 1) : Nat)) : Int) = (p : Int) + ((k : Int) + 1) from by omega] at this
                      exact this
                    · exact grow_same (grow_drawnN _ (grow_refl _ _)) (grow_set _ _ _)
                · have h9d : ((k : Int) == 9) = false := by simp; omega
                  clear h9c h91
                  go_wp2
                  go_quiet (fail)
                  go_wp2
                  have q1 : IntKind.i64.wrap ((p : Int) + (k : Int)) = (p : Int) + (k : Int) := IntWalk.i64_in _ (by omega)
                  have q2 : (0 : Int) ≤ (p : Int) + (k : Int) := by omega
                  have q3 : ((p : Int) + (k : Int)).toNat = p + k := by omega
                  go_quiet (fail)
                  clear q1
                  go_wp2
                  all_goals
                    go_ret
                    refine ⟨by rw [HR.out, hU.out]; rfl, ?_, ?_⟩
                    · rw [HR.out, show nextBad (rest s p) = false from by unfold nextBad; rw [HR.out]; show (((k + 1 : Nat) : Int) == 0) = false; rw [beq_eq_false_iff_ne]; omega]
                      have := h.set1 (p + (k + 1))
                      rw [show (((p + (k + 1) : Nat)) : Int) = (p : Int) + ((k : Int) + 1) from by omega] at this
                      exact this
                    · exact grow_same (grow_drawnN _ (grow_refl _ _)) (grow_set _ _ _)
            · have hm' : ((N : Int) % 2 == 1) = true := by rw [beq_iff_eq]; omega
              have hU : Hid (unzig N = -1 - (q : Int)) := by show _ = _; unfold unzig; rw [if_neg (by omega), hq]; omega
              clear hR hq hm h0
              rcases h01 with h01 | ⟨h01, hk0⟩
              · rcases Decidable.em (k = 9) with h9c | h9c
                · have h9d : ((k : Int) == 9) = true := by simp; omega
                  have h9e : (s[p + k].toNat : Int) ≤ 1 := by omega
                  clear h9c h91
                  go_wp2
                  go_quiet (fail)
                  go_wp2
                  have q1 : IntKind.i64.wrap ((p : Int) + (k : Int)) = (p : Int) + (k : Int) := IntWalk.i64_in _ (by omega)
                  have q2 : (0 : Int) ≤ (p : Int) + (k : Int) := by omega
                  have q3 : ((p : Int) + (k : Int)).toNat = p + k := by omega
                  go_quiet (fail)
                  clear q1
                  go_wp2
                  all_goals
                    go_ret
                    refine ⟨by rw [HR.out, hU.out]; rfl, ?_, ?_⟩
                    · rw [HR.out, show nextBad (rest s p) = false from by unfold nextBad; rw [HR.out]; show (((k + 1 : Nat) : Int) == 0) = false; rw [beq_eq_false_iff_ne]; omega]
                      have := h.set1 (p + (k + 1))
                      rw [show (((p + (k + 1) : Nat)) : Int) = (p : Int) + ((k : Int) + 1) from by omega] at this
                      exact this
                    · exact grow_same (grow_drawnN _ (grow_refl _ _)) (grow_set _ _ _)
                · have h9d : ((k : Int) == 9) = false := by simp; omega
                  clear h9c h91
                  go_wp2
                  go_quiet (fail)
                  go_wp2
                  have q1 : IntKind.i64.wrap ((p : Int) + (k : Int)) = (p : Int) + (k : Int) := IntWalk.i64_in _ (by omega)
                  have q2 : (0 : Int) ≤ (p : Int) + (k : Int) := by omega
                  have q3 : ((p : Int) + (k : Int)).toNat = p + k := by omega
                  go_quiet (fail)
                  clear q1
                  go_wp2
                  all_goals
                    go_ret
                    refine ⟨by rw [HR.out, hU.out]; rfl, ?_, ?_⟩
                    · rw [HR.out, show nextBad (rest s p) = false from by unfold nextBad; rw [HR.out]; show (((k + 1 : Nat) : Int) == 0) = false; rw [beq_eq_false_iff_ne]; omega]
                      have := h.set1 (p + (k + 1))
                      rw [show (((p + (k + 1) : Nat)) : Int) = (p : Int) + ((k : Int) + 1) from by omega] at this
                      exact this
                    · exact grow_same (grow_drawnN _ (grow_refl _ _)) (grow_set _ _ _)
              · rcases Decidable.em (k = 9) with h9c | h9c
                · have h9d : ((k : Int) == 9) = true := by simp; omega
                  have h9e : (s[p + k].toNat : Int) ≤ 1 := by omega
                  clear h9c h91
                  go_wp2
                  go_quiet (fail)
                  go_wp2
                  have q1 : IntKind.i64.wrap ((p : Int) + (k : Int)) = (p : Int) + (k : Int) := IntWalk.i64_in _ (by omega)
                  have q2 : (0 : Int) ≤ (p : Int) + (k : Int) := by omega
                  have q3 : ((p : Int) + (k : Int)).toNat = p + k := by omega
                  go_quiet (fail)
                  clear q1
                  go_wp2
                  all_goals
                    go_ret
                    refine ⟨by rw [HR.out, hU.out]; rfl, ?_, ?_⟩
                    · rw [HR.out, show nextBad (rest s p) = false from by unfold nextBad; rw [HR.out]; show (((k + 1 : Nat) : Int) == 0) = false; rw [beq_eq_false_iff_ne]; omega]
                      have := h.set1 (p + (k + 1))
                      rw [show (((p + (k + 1) : Nat)) : Int) = (p : Int) + ((k : Int) + 1) from by omega] at this
                      exact this
                    · exact grow_same (grow_drawnN _ (grow_refl _ _)) (grow_set _ _ _)
                · have h9d : ((k : Int) == 9) = false := by simp; omega
                  clear h9c h91
                  go_wp2
                  go_quiet (fail)
                  go_wp2
                  have q1 : IntKind.i64.wrap ((p : Int) + (k : Int)) = (p : Int) + (k : Int) := IntWalk.i64_in _ (by omega)
                  have q2 : (0 : Int) ≤ (p : Int) + (k : Int) := by omega
                  have q3 : ((p : Int) + (k : Int)).toNat = p + k := by omega
                  go_quiet (fail)
                  clear q1
                  go_wp2
                  all_goals
                    go_ret
                    refine ⟨by rw [HR.out, hU.out]; rfl, ?_, ?_⟩
                    · rw [HR.out, show nextBad (rest s p) = false from by unfold nextBad; rw [HR.out]; show (((k + 1 : Nat) : Int) == 0) = false; rw [beq_eq_false_iff_ne]; omega]
                      have := h.set1 (p + (k + 1))
                      rw [show (((p + (k + 1) : Nat)) : Int) = (p : Int) + ((k : Int) + 1) from by omega] at this
                      exact this
                    · exact grow_same (grow_drawnN _ (grow_refl _ _)) (grow_set _ _ _)
    · have hR : getN (rest s p) = (0, 0) := by
        rw [HG.out]
        by_cases h1 : p + k < s.size
        · rw [List.drop_eq_getElem_cons (by simpa [size_toList] using h1), getL, if_pos (by omega)]
        · rw [List.drop_eq_nil_of_le (by rw [size_toList]; omega), getL]
      have HR := Lib.hid hR
      clear hR
      by_cases h1 : k < 10
      · have h2 : (s.size : Int) ≤ (p : Int) + k := by omega
        have h3 : (k : Int) < 10 := by omega
        go_wp2
        go_quiet (fail)
        go_wp2
        go_ret
        refine ⟨by rw [HR.out]; rfl, ?_, ?_⟩
        · rw [HR.out, show nextBad (rest s p) = true from by unfold nextBad; rw [HR.out]; rfl]
          exact h.set2 true
        · exact grow_same (grow_drawnN _ (grow_refl _ _)) (grow_set _ _ _)
      · have h3 : decide ((k : Int) < 10) = false := by simp; omega
        have h4 : (10 : Int) ≤ k := by omega
        go_wp2
        go_quiet (fail)
        go_wp2
        go_ret
        refine ⟨by rw [HR.out]; rfl, ?_, ?_⟩
        · rw [HR.out, show nextBad (rest s p) = true from by unfold nextBad; rw [HR.out]; rfl]
          exact h.set2 true
        · exact grow_same (grow_drawnN _ (grow_refl _ _)) (grow_set _ _ _)
theorem rest_next (s : ByteArray) (p : Nat) : nextS (rest s p) = rest s (p + (getN (rest s p)).2) := by
  rw [nextS_list]
  show (⟨(List.drop _ (s.data.toList.drop p).toArray.toList).toArray⟩ : ByteArray) = _
  unfold rest
  rw [List.drop_drop]
end Go.Proofs.YtgcdfoadegojcaaDoor
