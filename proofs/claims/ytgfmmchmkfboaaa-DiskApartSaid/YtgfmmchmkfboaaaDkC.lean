/- Stage 5: a drive; its names, its steps. -/
import Derived.Test.YtgfmmchmkfboaaaDkB
namespace Go.Proofs.Ytgfmmchmkfboaaa
open Go.RowKit
set_option linter.unusedVariables false
def okC (c : UInt8) : Bool := (97 ≤ c && c ≤ 122) || (48 ≤ c && c ≤ 57) || c == 46
def nameB (s : ByteArray) : Bool := s.data.toList.all okC && decide (s.size ≠ 0) && decide (s.size ≤ 80)
theorem getb (s : ByteArray) (k : Nat) (h : k < s.size) : s.data.toList[k]'(by simpa using h) = s[k] := rfl
theorem bytes_eq_empty {s : ByteArray} (h : s.size = 0) : s = ⟨#[]⟩ := by
  apply ByteArray.ext
  exact Array.eq_empty_of_size_eq_zero h
theorem toList_nil {s : ByteArray} (h : s.size = 0) : s.toList = [] := by rw [bytes_eq_empty h, ByteArray.toList_eq]
theorem toList_ne {s : ByteArray} (h : s.size ≠ 0) : s.toList ≠ [] := by
  rw [ByteArray.toList_eq]
  intro e
  apply h
  have : s.data.toList.length = 0 := by rw [e]; rfl
  simpa using this
set_option maxRecDepth 100000 in
set_option maxHeartbeats 1000000 in
theorem nameMayBe_any (s : ByteArray) (w : World) (hs : s.size ≤ maxLen) : Calls Try.prog 52 #[.string s] w fun e w' => e = .returned (.bool (nameB s)) ∧ w = w' := by
  have hi : (s.size : Int) ≤ 9223372036854775807 := by unfold maxLen at hs; omega
  clear hs
  go_enter Try.func52, Try.ntmps52
  go_wp2
  go_loop [7] (fun i => ∃ k : Nat, k ≤ s.size ∧ i = .int .i64 k ∧ ∀ j (h : j < s.size), j < k → okC s[j] = true) (fun i => s.size - (intOf i).toNat)
  case atStart => exact ⟨0, Nat.zero_le _, rfl, fun j h hj => absurd hj (Nat.not_lt_zero _)⟩
  case round =>
    obtain ⟨k, hk, rfl, hall⟩ := hrel
    have HALL := Lib.hid hall
    clear hall
    by_cases hlt : k < s.size
    · obtain ⟨c, hc⟩ : ∃ c, c = s[k] := ⟨_, rfl⟩
      have HC := Lib.hid hc
      have i1 : (k : Int) < s.size := by omega
      have i0 : (0 : Int) ≤ k := by omega
      have hx : (s[k].toNat : Int) = (c.toNat : Int) := by rw [hc]
      clear hc
      cases hok : okC c
      · have HF : Hid (nameB s = false) := by
          show _ = _
          unfold nameB
          have : s.data.toList.all okC = false := by
            rw [List.all_eq_false]
            exact ⟨s[k], by rw [← getb s k hlt]; exact List.getElem_mem _, by rw [← HC.out, hok]; simp⟩
          rw [this]; rfl
        unfold okC at hok
        simp only [Bool.or_eq_false_iff, Bool.and_eq_false_iff, decide_eq_false_iff_not, UInt8.not_le, UInt8.lt_iff_toNat_lt, beq_eq_false_iff_ne, ne_eq] at hok
        obtain ⟨⟨h1, h2⟩, h3⟩ := hok
        have h4 : c.toNat ≠ 46 := fun e => h3 (UInt8.toNat_inj.1 e)
        have h1' : c.toNat < 97 ∨ 122 < c.toNat := by simpa using h1
        have h2' : c.toNat < 48 ∨ 57 < c.toNat := by simpa using h2
        have d3 : ((c.toNat : Int) != 46) = true := by simp; omega
        clear h1 h2 h3
        rcases h1' with a | a <;> rcases h2' with b | b
        all_goals
          first
          | (exfalso; omega)
          | (have p1 : (c.toNat : Int) < 97 := by omega
             have p2 : (c.toNat : Int) < 48 := by omega
             clear a b h4
             go_wp2
             go_ret
             exact ⟨by rw [HF.out]; rfl, rfl⟩)
          | (have p1 : (c.toNat : Int) < 97 := by omega
             have p2 : ¬ (c.toNat : Int) < 48 := by omega
             have p3 : (57 : Int) < c.toNat := by omega
             clear a b h4
             go_wp2
             go_ret
             exact ⟨by rw [HF.out]; rfl, rfl⟩)
          | (have p1 : ¬ (c.toNat : Int) < 97 := by omega
             have p2 : (122 : Int) < c.toNat := by omega
             have p3 : ¬ (c.toNat : Int) < 48 := by omega
             have p4 : (57 : Int) < c.toNat := by omega
             clear a b h4
             go_wp2
             go_ret
             exact ⟨by rw [HF.out]; rfl, rfl⟩)
      · have HOK : Hid (okC c = true) := hok
        unfold okC at hok
        simp only [Bool.or_eq_true, Bool.and_eq_true, decide_eq_true_eq, UInt8.le_iff_toNat_le, beq_iff_eq] at hok
        have hcs : (97 ≤ c.toNat ∧ c.toNat ≤ 122) ∨ (48 ≤ c.toNat ∧ c.toNat ≤ 57) ∨ c.toNat = 46 := by
          rcases hok with (h | h) | h
          · exact .inl (by simpa using h)
          · exact .inr (.inl (by simpa using h))
          · exact .inr (.inr (by rw [h]; rfl))
        clear hok
        rcases hcs with ⟨a, b⟩ | ⟨a, b⟩ | a
        · have p1 : (97 : Int) ≤ c.toNat := by omega
          have p2 : (c.toNat : Int) ≤ 122 := by omega
          clear a b
          go_wp2
          go_round
          case rel => exact ⟨k + 1, by omega, by go_num, fun j h hj => by
            by_cases e : j = k
            · subst e; rw [← HC.out]; exact HOK.out
            · exact HALL.out j h (by omega)⟩
          case measure => simp [intOf]; omega
        · have p1 : (c.toNat : Int) < 97 := by omega
          have p2 : (48 : Int) ≤ c.toNat := by omega
          have p3 : (c.toNat : Int) ≤ 57 := by omega
          clear a b
          go_wp2
          go_round
          case rel => exact ⟨k + 1, by omega, by go_num, fun j h hj => by
            by_cases e : j = k
            · subst e; rw [← HC.out]; exact HOK.out
            · exact HALL.out j h (by omega)⟩
          case measure => simp [intOf]; omega
        · have p1 : (c.toNat : Int) = 46 := by omega
          clear a
          go_wp2
          go_round
          case rel => exact ⟨k + 1, by omega, by go_num, fun j h hj => by
            by_cases e : j = k
            · subst e; rw [← HC.out]; exact HOK.out
            · exact HALL.out j h (by omega)⟩
          case measure => simp [intOf]; omega
    · obtain rfl : k = s.size := by omega
      have hA : s.data.toList.all okC = true := by
        rw [List.all_eq_true]
        intro x hx
        obtain ⟨j, hj, rfl⟩ := List.mem_iff_getElem.1 hx
        have hj' : j < s.size := by simpa using hj
        exact HALL.out j hj' hj'
      by_cases h0 : s.size = 0
      · have HF : Hid (nameB s = false) := by show _ = _; unfold nameB; rw [hA, decide_eq_false (by omega : ¬ s.size ≠ 0)]; rfl
        have e1 := toList_nil h0
        clear hA h0
        go_wp2
        go_ret
        exact ⟨by rw [HF.out]; rfl, rfl⟩
      · have e1 : s.toList.isEmpty = false := by rw [List.isEmpty_eq_false_iff]; exact toList_ne h0
        by_cases h80 : s.size ≤ 80
        · have HF : Hid (nameB s = true) := by show _ = _; unfold nameB; rw [hA, decide_eq_true h0, decide_eq_true h80]; rfl
          have e2 : decide ((s.size : Int) ≤ 80) = true := decide_eq_true (by omega)
          clear hA h0
          go_wp2
          go_ret
          exact ⟨by rw [HF.out]; rfl, rfl⟩
        · have HF : Hid (nameB s = false) := by show _ = _; unfold nameB; rw [hA, decide_eq_true h0, decide_eq_false h80]; rfl
          have e2 : decide ((s.size : Int) ≤ 80) = false := decide_eq_false (by omega)
          clear hA h0
          go_wp2
          go_ret
          exact ⟨by rw [HF.out]; rfl, rfl⟩
end Go.Proofs.Ytgfmmchmkfboaaa
