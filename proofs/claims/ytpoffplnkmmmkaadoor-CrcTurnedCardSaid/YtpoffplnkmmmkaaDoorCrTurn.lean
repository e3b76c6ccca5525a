/- The law CrcTurned: its walk. -/
import Derived.Test.YtpoffplnkmmmkaaDoorCrThree
import Derived.Test.YtpoffplnkmmmkaaDoorCrGoes
import Derived.Outline
namespace Go.Proofs.YtpoffplnkmmmkaaDoor
open Go.RowKit
set_option linter.unusedVariables false
theorem mod_pos (a : Int) (m : Nat) (h0 : 0 < m) (hm : m ≤ 40000) : ∃ k : Nat, k < m ∧ (IntKind.u64.wrap a).tmod (m : Int) = (k : Int) := by
  have e : IntKind.u64.wrap a = a % 18446744073709551616 := by simp [IntKind.wrap, IntKind.signed, IntKind.bits]
  have h1 : 0 ≤ IntKind.u64.wrap a := by rw [e]; omega
  rw [Int.tmod_eq_emod_of_nonneg h1]
  have h2 := Int.emod_nonneg (IntKind.u64.wrap a) (b := (m : Int)) (by omega)
  have h3 := Int.emod_lt_of_pos (IntKind.u64.wrap a) (b := (m : Int)) (by omega)
  exact ⟨((IntKind.u64.wrap a) % (m : Int)).toNat, by omega, by omega⟩
/-- What stands in the bytes behind j rounds. -/
def TurnAt (s : ByteArray) (x : BitVec 32) (k j g : Nat) (w : World) : Prop :=
  ∃ l : List UInt8, l.length = s.size ∧ Byt w g 5 l ∧ ∀ p, bitAt l p = (bitAt s.data.toList p ^^ (decide (k ≤ p ∧ p < k + j) && x.getLsbD (p - k)))
theorem TurnAt.start {s : ByteArray} {x : BitVec 32} {k g : Nat} {w : World} (h : Byt w g 5 s.data.toList) : TurnAt s x k 0 g w :=
  ⟨_, by rw [Array.length_toList]; rfl, h, fun p => by rw [decide_eq_false (by omega)]; simp⟩
theorem TurnAt.skip {s : ByteArray} {x : BitVec 32} {k j g : Nat} {w : World} (h : TurnAt s x k j g w) (hx : x.getLsbD j = false) : TurnAt s x k (j + 1) g w := by
  obtain ⟨l, hl, hb, hall⟩ := h
  refine ⟨l, hl, hb, fun p => ?_⟩
  rw [hall p]
  congr 1
  by_cases e : p = k + j
  · subst e
    rw [Nat.add_sub_cancel_left, hx]; simp
  · rw [decide_eq_decide.2 (show (k ≤ p ∧ p < k + j) ↔ (k ≤ p ∧ p < k + (j + 1)) by omega)]
theorem TurnAt.step {s : ByteArray} {x : BitVec 32} {k j g : Nat} {w : World} {l : List UInt8} {y : UInt8} (hl : l.length = s.size) (hidx : (k + j) / 8 < l.length) (hb : Byt w g 5 l) (hy : y = l[(k + j) / 8])
    (hall : ∀ p, bitAt l p = (bitAt s.data.toList p ^^ (decide (k ≤ p ∧ p < k + j) && x.getLsbD (p - k)))) (hx : x.getLsbD j = true) :
    TurnAt s x k (j + 1) g (w.setCell ⟨g, (k + j) / 8, none⟩ (.int .u8 (bits .xor .u8 (y.toNat : Int) (2 ^ ((k + j) % 8) % 256)))).drew := by
  have h8 : (k + j) % 8 < 8 := Nat.mod_lt _ (by omega)
  have hp : 2 ^ ((k + j) % 8) < 256 := Nat.lt_of_lt_of_le (Nat.pow_lt_pow_right (by omega) h8) (by omega)
  have e1 : ((2 : Int) ^ ((k + j) % 8) % 256) = ((2 ^ ((k + j) % 8) : Nat) : Int) := by
    rw [show ((2 : Int) ^ ((k + j) % 8)) = ((2 ^ ((k + j) % 8) : Nat) : Int) by simp]
    generalize 2 ^ ((k + j) % 8) = z at hp ⊢
    omega
  have e2 : bits .xor .u8 (y.toNat : Int) (2 ^ ((k + j) % 8) % 256) = ((y.toNat ^^^ 2 ^ ((k + j) % 8) : Nat) : Int) := by
    rw [e1, u8_xor_nat _ _ y.toNat_lt hp]
  have hlt : y.toNat ^^^ 2 ^ ((k + j) % 8) < 256 := Nat.xor_lt_two_pow (n := 8) y.toNat_lt hp
  have e3 : (UInt8.ofNat (y.toNat ^^^ 2 ^ ((k + j) % 8))).toNat = y.toNat ^^^ 2 ^ ((k + j) % 8) := by
    rw [UInt8.toNat_ofNat']; exact Nat.mod_eq_of_lt hlt
  refine ⟨l.set ((k + j) / 8) (UInt8.ofNat (y.toNat ^^^ 2 ^ ((k + j) % 8))), by rw [List.length_set, hl], ?_, fun p => ?_⟩
  · exact (hb.set_ _ _ _ (by rw [e2, e3])).drew
  · rw [bit_turned l (k + j) hidx _ (by rw [e3, hy, List.getD, List.getElem?_eq_getElem hidx]; rfl), hall p, Bool.xor_assoc]
    congr 1
    by_cases e : p = k + j
    · subst e
      rw [Nat.add_sub_cancel_left, hx]; simp
    · rw [decide_eq_false e, Bool.xor_false, decide_eq_decide.2 (show (k ≤ p ∧ p < k + j) ↔ (k ≤ p ∧ p < k + (j + 1)) by omega)]
theorem shr_and (x : BitVec 32) (j : Nat) (hj : j < 32) : (bits .and .u32 ((x.toNat : Int) / 2 ^ j) 1 == 1) = x.getLsbD j := by
  have e : (x.toNat : Int) / 2 ^ j = ((x.toNat / 2 ^ j : Nat) : Int) := by simp
  have hlt : x.toNat / 2 ^ j < 4294967296 := Nat.lt_of_le_of_lt (Nat.div_le_self _ _) x.isLt
  have e2 := u32_and_nat (x.toNat / 2 ^ j) 1 hlt (by omega)
  rw [e]
  rw [show ((1 : Int)) = ((1 : Nat) : Int) from rfl, e2, Nat.and_one_is_mod]
  rw [BitVec.getLsbD, Nat.testBit_eq_decide_div_mod_eq]
  rcases Nat.mod_two_eq_zero_or_one (x.toNat / 2 ^ j) with h | h <;> rw [h] <;> rfl
set_option maxRecDepth 100000 in
set_option maxHeartbeats 1000000 in
theorem law_CrcTurned (s : ByteArray) (hs : s.size ≤ maxLen) (n : Int) (hn : -9223372036854775808 ≤ n ∧ n ≤ 9223372036854775807) (q : Int) (hq : 0 ≤ q ∧ q ≤ 4294967295) {w : World} (hm : Mv w) :
    Calls Tryd.prog 5 #[.string s, .int .i64 n, .int .u32 q] w fun e w' => e = .returned (.bool true) ∧ Below w.heap.size w w' := by
  unfold maxLen at hs
  have hs' : (s.size : Int) ≤ 9223372036854775807 := by omega
  obtain ⟨x, rfl⟩ := bv_of hq
  have HN := Lib.hid hn
  clear hs hn
  by_cases hbad : s.size < 5 ∨ 4096 < s.size ∨ x = 0#32
  · have hc : (decide ((s.size : Int) < 5) = true) ∨ (decide ((s.size : Int) < 5) = false ∧ decide ((4096 : Int) < s.size) = true) ∨ (decide ((s.size : Int) < 5) = false ∧ decide ((4096 : Int) < s.size) = false ∧ ((x.toNat : Int) == 0) = true) := by
      by_cases h1 : s.size < 5
      · left; simp; omega
      · by_cases h2 : 4096 < s.size
        · right; left; simp; omega
        · right; right
          refine ⟨by simp; omega, by simp; omega, ?_⟩
          have h3 : x = 0#32 := by
            rcases hbad with h | h | h
            · exact absurd h h1
            · exact absurd h h2
            · exact h
          rw [h3]; rfl
    clear hbad
    rcases hc with h1 | ⟨h1, h2⟩ | ⟨h1, h2, h3⟩
    all_goals
      go_enter Tryd.func5, Tryd.ntmps5
      go_wp2_with fail
      refine (awake_any _ hm).mono ?_
      rintro e w2 ⟨rfl, g2⟩
      have m2 := hm.kept g2
      go_wp2_with fail
      refine (awake_any _ m2).mono ?_
      rintro e w3 ⟨rfl, g3⟩
      have G3 := grow_none g2 g3
      clear g2 g3
      go_wp2
      go_ret
      exact ⟨rfl, below_of_none G3⟩
  · have h1 : decide ((s.size : Int) < 5) = false := by simp; omega
    have h2 : decide ((4096 : Int) < s.size) = false := by simp; omega
    have hx0 : x ≠ 0#32 := fun h => hbad (.inr (.inr h))
    have h3 : ((x.toNat : Int) == 0) = false := by
      rw [beq_eq_false_iff_ne]
      intro h
      exact hx0 (BitVec.eq_of_toNat_eq (by simp; omega))
    obtain ⟨k, hk, hkk⟩ := mod_pos n (8 * (s.size - 4)) (by omega) (by omega)
    have s1 : (5 : Int) ≤ s.size := by omega
    have s2 : (s.size : Int) ≤ 4096 := by omega
    have hkk' : (IntKind.u64.wrap n).tmod (8 * ((s.size : Int) - 4)) = (k : Int) := by
      rw [← hkk]; congr 1; omega
    have hki : (k : Int) ≤ 32768 := by omega
    have HX0 := Lib.hid hx0
    clear hbad hx0 hkk
    go_enter Tryd.func5, Tryd.ntmps5
    go_wp2_with fail
    refine (awake_any _ hm).mono ?_
    rintro e w2 ⟨rfl, g2⟩
    have m2 := hm.kept g2
    have hby := fun W => run_bytes (P := Tryd.prog) W 9 34 5 s Tryd.underlying9 Tryd.underlying34 Tryd.underlying5
    have b0 := bytesOf_byt w2 5 s
    have gb := grow_none g2 (bytesOf_grow w2 5 s)
    obtain ⟨g, hg⟩ : ∃ g, g = w2.heap.size := ⟨_, rfl⟩
    obtain ⟨cap, hcap⟩ : ∃ cap, cap = grownCap w2 s.size 0 5 := ⟨_, rfl⟩
    have hg0 : w.heap.size ≤ g := by rw [hg]; exact g2.size
    have hcn : s.size ≤ cap := by rw [hcap]; exact grownCap_ge _ _ _ _
    rw [← hg] at b0
    have HG := Lib.hid hg
    have HCAP := Lib.hid hcap
    clear hg hcap g2
    go_wp2
    rw [← HG.out, ← HCAP.out]
    generalize bytesOf w2 5 s = wb at b0 gb ⊢
    go_loopw [37] (fun i wr => ∃ j : Nat, i = .int .i64 j ∧ j ≤ 32 ∧ TurnAt s x k j g wr ∧ w.grownBy wr none) (fun i _ => 32 - (intOf i).toNat)
    case atStart => exact ⟨0, rfl, Nat.zero_le _, TurnAt.start b0, gb⟩
    case round =>
      obtain ⟨j, rfl, hj, hth, hgr⟩ := hrel
      clear b0 gb
      by_cases hlt : j < 32
      · obtain ⟨l, hl, hbk, hall⟩ := hth
        have hbit := shr_and x j hlt
        cases hb : x.getLsbD j with
        | false =>
          rw [hb] at hbit
          go_wp2
          go_roundw
          case rel => exact ⟨j + 1, by go_num, by omega, TurnAt.skip ⟨l, hl, hbk, hall⟩ hb, hgr⟩
          case measure => simp [intOf]; omega
        | true =>
          rw [hb] at hbit
          have hidx : (k + j) / 8 < l.length := by omega
          have hcell := hbk.cell ((k + j) / 8) hidx
          have hfr := hbk.frozen ((k + j) / 8) hidx
          have q1 : (0 : Int) ≤ ((k : Int) + j) / 8 := by omega
          have q2 : ((k : Int) + j) / 8 < s.size := by omega
          have q3 : (((k : Int) + j) / 8).toNat = (k + j) / 8 := by omega
          have q4 : (0 : Int) ≤ ((k : Int) + j) % 8 := by omega
          have q5 : ((k : Int) + j) % 8 < 8 := by omega
          have q6 : (((k : Int) + j) % 8).toNat = (k + j) % 8 := by omega
          obtain ⟨y, hy⟩ : ∃ y, y = l[(k + j) / 8] := ⟨_, rfl⟩
          rw [← hy] at hcell
          have HY := Lib.hid hy
          have HALL := Lib.hid hall
          clear hy hall
          go_wp2
          go_region
          all_goals
            go_wp2
            go_roundw
            case rel => exact ⟨j + 1, by go_num, by omega, TurnAt.step (w := wr) hl (by omega) hbk HY.out HALL.out hb, grow_drawn (grow_new hgr hg0 (grow_set _ _ _))⟩
            case measure => simp [intOf]; omega
      · obtain rfl : j = 32 := by omega
        obtain ⟨l, hl, hbk, hall⟩ := hth
        have hcv := hbk.str (P := Tryd.prog) 34 9 cap Tryd.underlying34 Tryd.underlying5 Tryd.underlying9 s.size hl
        have hne : Hid (more 0#32 l ≠ more 0#32 s.data.toList) := by
          show _ ≠ _
          have h := takes_turned (~~~ 0#32) x s.data.toList l s.size k (by rw [Array.length_toList]; rfl) hl (by omega) HX0.out hall
          intro e
          apply h
          have e2 := congrArg (fun z => ~~~ z) e
          simpa only [more, BitVec.not_not] using e2
        have m5 : Mv wr := hm.kept hgr
        have z1 : (⟨l.toArray⟩ : ByteArray).size ≤ maxLen := by show l.toArray.size ≤ 2^63-1; rw [List.size_toArray]; omega
        have z2 : s.size ≤ maxLen := by show _ ≤ 2^63-1; omega
        have Z1 := Lib.hid z1
        have Z2 := Lib.hid z2
        have Z3 : Hid (allB [⟨l.toArray⟩] = l) := by show _ = _; simp [allB]
        have Z4 : Hid (allB [s] = s.data.toList) := by show _ = _; simp [allB]
        have m6 := m5.kept (World.grownBy_alloc wr (.cells #[Value.string ⟨l.toArray⟩] 9) none)
        have m7 := m6.kept (World.grownBy_alloc (wr.alloc (.cells #[Value.string ⟨l.toArray⟩] 9)) (.cells #[Value.string s] 9) none)
        have r7 := RowAt.lit (wr.alloc (.cells #[Value.string ⟨l.toArray⟩] 9)) [Value.string s] 9 1 1 rfl
        simp at r7
        trace_state
        clear z1 z2 hall
        go_wp2_with fail
        refine (Sum_any _ [⟨l.toArray⟩] _ (m5.kept (World.grownBy_alloc _ _ _)) (RowAt.lit wr [Value.string ⟨l.toArray⟩] _ _ _ rfl) (one_le Z1.out) one_len).mono ?_
        rintro e w6 ⟨rfl, rfl⟩
        rw [Z3.out]
        go_wp2_with fail
        refine (Sum_any _ [s] _ m7 r7 (one_le Z2.out) one_len).mono ?_
        rintro e w6 ⟨rfl, rfl⟩
        rw [Z4.out]
        have hfin : (((more 0#32 l).toNat : Int) != ((more 0#32 s.data.toList).toNat : Int)) = true := by
          rw [bne_iff_ne]
          intro e
          exact hne.out (BitVec.eq_of_toNat_eq (by omega))
        go_wp2
        go_ret
        exact ⟨rfl, below_of_none (grow_none hgr (grow_none (World.grownBy_alloc _ _ _) (World.grownBy_alloc _ _ _)))⟩
end Go.Proofs.YtpoffplnkmmmkaaDoor
