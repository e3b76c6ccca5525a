/- The law CrcGoes: its walk. -/
import Derived.Test.YtpoffplnkmmmkaaDoorCrSums
import Derived.Deep.RegionWith
namespace Go.Proofs.YtpoffplnkmmmkaaDoor
open Go.RowKit
set_option linter.unusedVariables false
theorem row_drop {w : World} {a : Option Addr} {n m c : Nat} {xs ys : List Value} (h : RowAt w (.slice a (n + m) c) (xs ++ ys)) (hx : xs.length = n) (hy : ys.length = m) (hc : n + m ≤ c) :
    RowAt w (.slice (if c = n then a else Option.map (fun x => x.add n) a) m (c - n)) ys := by
  obtain ⟨a', c', e, h⟩ := h
  injection e with e1 e2 e3
  subst e1 e3
  refine ⟨_, _, by rw [hy], ?_⟩
  cases ys with
  | nil => exact .inl rfl
  | cons y ys =>
    rcases h with h | ⟨b, off, rfl, hb, hcell⟩
    · simp at h
    · have hne : ¬ c = n := by simp at hy; omega
      rw [if_neg hne]
      have e : (⟨b, off, none⟩ : Addr).add n = ⟨b, off + n, none⟩ := by
        unfold Addr.add
        by_cases h0 : n = 0
        · rw [if_pos h0, h0]; rfl
        · rw [if_neg h0]
      refine .inr ⟨b, off + n, by rw [Option.map_some, e], hb, fun j hj => ?_⟩
      have h2 := hcell (n + j) (by rw [List.length_append, hx]; omega)
      rw [← Nat.add_assoc] at h2
      rw [h2, List.getD_eq_getElem?_getD, List.getD_eq_getElem?_getD, List.getElem?_append_right (by omega), hx, Nat.add_sub_cancel_left]
theorem own_form2 {w : World} {e : TypeId} {n : Nat} {v : Value} {xs : List Value} (h : w.ownsRow 0 e 1 v n xs) : ∃ a cap, v = .slice a n cap ∧ n ≤ cap ∧ cap ≤ 9223372036854775807 := by
  rcases h.2 with ⟨rfl, rfl⟩ | ⟨g, cap, cur, rfl, _, _, h1, h2, _⟩
  · exact ⟨none, 0, rfl, by omega, by omega⟩
  · unfold maxLen at h2
    exact ⟨_, cap, rfl, h1, by omega⟩
theorem RowAt.take {w : World} {v : Value} {xs : List Value} (h : RowAt w v xs) {k : Nat} (hk : k ≤ xs.length) : ∀ a n c, v = .slice a n c → RowAt w (.slice a k c) (xs.take k) := by
  rintro a n c rfl
  obtain ⟨a', c', e, h⟩ := h
  injection e with e1 e2 e3
  subst e1 e3
  refine ⟨a, c, by rw [List.length_take, Nat.min_eq_left hk], ?_⟩
  rcases h with h | ⟨b, off, rfl, hb, hc⟩
  · exact .inl (by rw [h]; simp)
  · refine .inr ⟨b, off, rfl, hb, fun j hj => ?_⟩
    rw [List.length_take] at hj
    rw [hc j (by omega)]
    simp [show j < k by omega]
theorem one_le {s : ByteArray} (h : s.size ≤ maxLen) : ∀ t ∈ [s], t.size ≤ maxLen := by intro t ht; rw [List.mem_singleton] at ht; rw [ht]; exact h
theorem one_len {s : ByteArray} : [s].length ≤ maxLen := by show 1 ≤ 2 ^ 63 - 1; omega
theorem more_app (x : BitVec 32) (a b : List UInt8) : more (more x a) b = more x (a ++ b) := by
  unfold more
  rw [BitVec.not_not, takes_app]
theorem allB_app (a b : List ByteArray) : allB (a ++ b) = allB a ++ allB b := by unfold allB; rw [List.flatMap_append]
theorem allB_one (l : List UInt8) : allB [⟨l.toArray⟩] = l := by simp [allB]
theorem cut_at (n : Int) {m : Nat} (hm : m ≤ maxLen) : ∃ k : Nat, k ≤ m ∧ (IntKind.u64.wrap n).tmod ((m : Int) + 1) = (k : Int) ∧ wrap64 (k : Int) = (k : Int) := by
  unfold maxLen at hm
  have h0 : 0 ≤ IntKind.u64.wrap n := by
    have e : IntKind.u64.wrap n = n % 18446744073709551616 := by
      simp [IntKind.wrap, IntKind.signed, IntKind.bits]
    omega
  rw [Int.tmod_eq_emod_of_nonneg h0]
  have h1 := Int.emod_nonneg (IntKind.u64.wrap n) (b := (m : Int) + 1) (by omega)
  have h2 := Int.emod_lt_of_pos (IntKind.u64.wrap n) (b := (m : Int) + 1) (by omega)
  refine ⟨((IntKind.u64.wrap n) % ((m : Int) + 1)).toNat, by omega, by omega, ?_⟩
  unfold wrap64
  omega
theorem Sum_one (w w' : World) (hm : Mv w) (s : ByteArray) (hs : s.size ≤ maxLen) (t : TypeId) (g : (w.alloc (.cells #[.string s] t)).grownBy w' none) :
    Calls Tryd.prog 9 #[.slice (some ⟨w.heap.size, 0, none⟩) 1 1] w' fun e w'' => e = .returned (.int .u32 (more 0#32 (allB [s])).toNat) ∧ w' = w'' :=
  Sum_any _ [s] _ (hm.kept (grow_none (World.grownBy_alloc _ _ _) g)) ((RowAt.lit w [Value.string s] t 1 1 rfl).kept g) (one_le hs) one_len
set_option maxRecDepth 100000 in
set_option maxHeartbeats 2000000 in
theorem law_CrcGoes (v : Value) (l : List ByteArray) {w : World} (hr : RowAt w v (l.map Value.string)) (hs : ∀ s ∈ l, s.size ≤ maxLen) (hl : l.length ≤ maxLen) (n : Int) (hn : -9223372036854775808 ≤ n ∧ n ≤ 9223372036854775807) (hm : Mv w) :
    Calls Tryd.prog 4 #[v, .int .i64 n] w fun e w' => e = .returned (.bool true) ∧ Below w.heap.size w w' := by
  obtain ⟨i0, hi, hz0, hz1, hz2⟩ := info_parts Tryd.info9
  obtain ⟨av, cv, rfl⟩ := hr.len
  rw [List.length_map] at hr ⊢
  have HL := Lib.hid hl
  have HS := Lib.hid hs
  have HN := Lib.hid hn
  have hj := joined_any _ l w hr hs hl
  have HJ := Lib.hid hj
  clear hl hs hj hn
  go_enter Tryd.func4, Tryd.ntmps4
  go_wp2_with fail
  refine HJ.out.mono ?_
  rintro e w1 ⟨t, ok, rfl, rfl, hok⟩
  have HOK := Lib.hid hok
  clear hok
  go_wp2_with fail
  refine (awake_any _ hm).mono ?_
  rintro e w2 ⟨rfl, g2⟩
  have m2 := hm.kept g2
  cases ok with
  | false =>
    go_wp2_with fail
    refine (awake_any _ m2).mono ?_
    rintro e w3 ⟨rfl, g3⟩
    have G3 := grow_none g2 g3
    clear g2 g3
    go_wp2
    go_ret
    exact ⟨rfl, below_of_none G3⟩
  | true =>
    obtain ⟨rfl, hl3, hb⟩ := HOK.out rfl
    have r2 := (hr.kept g2).kept (World.grownBy_alloc w2 (.cells #[] 9) none)
    go_wp2_with (at_builtin; refine wpList_append_row _ rfl _ _ 23 rfl 9 i0 (.string ⟨#[]⟩) 16 Tryd.underlying23 hi hz0 hz1 hz2 rfl _ _ _ rfl (own_empty _ _ _) _ (l.map Value.string) rfl r2 (ones_str l) (by rw [List.length_map]; show _ ≤ 2^63-1; omega) (by rw [List.length_map]; omega) ?_)
    intro v3 w3 o3 g3 mv3
    have X3 := grow_newblk (World.grownBy_alloc w2 (.cells #[] 9) none) (newblk_at w2 w2.heap.size 0 0 (Nat.le_refl _) 0) g3
    have m3 := m2.kept X3
    have G3 := grow_none g2 X3
    have r3 := RowAt.of_own o3
    obtain ⟨a3, c3, rfl⟩ := own_form o3
    clear g2 g3 X3 r2 m2 mv3
    go_wp2_with fail
    obtain ⟨k, hk, ek⟩ := cut_at n HL.out
    have ek2 : (IntKind.u64.wrap n).tmod ((l.length : Int) + 1) = (k : Int) := ek.1
    have ek3 : wrap64 (k : Int) = (k : Int) := ek.2
    simp only [ek2, ek3]
    have hk' : (k : Int) ≤ l.length := by omega
    have hk0 : (0 : Int) ≤ (k : Int) := by omega
    have r3' : RowAt w3 (.slice a3 l.length c3) (l.map Value.string) := by simpa using r3
    have hcap : l.length ≤ c3 := by
      obtain ⟨a', c', e', hc', _⟩ := own_form2 o3
      injection e' with _ _ e3
      subst e3
      simpa using hc'
    have hcapI : (l.length : Int) ≤ c3 := by omega
    have hkc : (k : Int) ≤ c3 := by omega
    have p3 : RowAt w3 (.slice a3 k c3) ((l.take k).map Value.string) := by
      have := r3'.take (k := k) (by simpa using hk) _ _ _ rfl
      rwa [← List.map_take] at this
    have q3 : RowAt w3 (.slice (if c3 = k then a3 else Option.map (fun x => x.add k) a3) (l.length - k) (c3 - k)) ((l.drop k).map Value.string) := by
      have e : l.map Value.string = (l.take k).map Value.string ++ (l.drop k).map Value.string := by rw [← List.map_append, List.take_append_drop]
      have r4 : RowAt w3 (.slice a3 (k + (l.length - k)) c3) ((l.take k).map Value.string ++ (l.drop k).map Value.string) := by
        rw [← e, show k + (l.length - k) = l.length by omega]
        exact r3'
      exact row_drop r4 (by rw [List.length_map, List.length_take]; omega) (by rw [List.length_map, List.length_drop]) (by omega)
    have P3 := Lib.hid p3
    have Q3 := Lib.hid q3
    clear p3 q3 r3 r3' o3
    have hsx : ∀ s ∈ l.take k, s.size ≤ maxLen := fun s h => HS.out s (List.mem_of_mem_take h)
    have hsy : ∀ s ∈ l.drop k, s.size ≤ maxLen := fun s h => HS.out s (List.mem_of_mem_drop h)
    have hlx : (l.take k).length ≤ maxLen := by rw [List.length_take]; have := HL.out; omega
    have hly : (l.drop k).length ≤ maxLen := by rw [List.length_drop]; have := HL.out; omega
    have HSX := Lib.hid hsx
    have HSY := Lib.hid hsy
    have HLX := Lib.hid hlx
    have HLY := Lib.hid hly
    have hone : (⟨(allB l).toArray⟩ : ByteArray).size ≤ maxLen := str_len _ hb
    have HONE := Lib.hid hone
    clear hsx hsy hlx hly hone HOK HJ HN hb
    have EK : Hid (more (more 0#32 (allB (l.take k))) (allB (l.drop k)) = more 0#32 (allB l)) := by
      show _ = _
      rw [more_app, ← allB_app, List.take_append_drop]
    have EO : Hid (allB [⟨(allB l).toArray⟩] = allB l) := allB_one _
    by_cases hck : c3 = k
    · subst hck
      rw [if_pos rfl, Nat.sub_self, show l.length - c3 = 0 by omega] at Q3
      go_region_with (first
        | (go_at_call 9; refine (Sum_any _ (l.take c3) _ (m3.kept ?_) (P3.out.kept ?_) HSX.out HLX.out).mono ?_ <;> first | (rintro e w4 ⟨rfl, rfl⟩) | (repeat (first | exact grow_refl _ _ | exact World.grownBy_alloc _ _ _ | apply grow_drawn)))
        | (go_at_call 11; refine (More_any _ _ (l.drop c3) _ (m3.kept ?_) (Q3.out.kept ?_) HSY.out HLY.out).mono ?_ <;> first | (rintro e w4 ⟨rfl, rfl⟩) | (repeat (first | exact grow_refl _ _ | exact World.grownBy_alloc _ _ _ | apply grow_drawn)))
        | (go_at_call 9; refine (Sum_one w3 _ m3 _ HONE.out 9 ?_).mono ?_ <;> first | (rintro e w4 ⟨rfl, rfl⟩) | (repeat (first | exact grow_refl _ _ | exact World.grownBy_alloc _ _ _ | apply grow_drawn))))
      all_goals (rw [EK.out, EO.out]; clear P3 Q3 HSX HSY HLX HLY; go_wp2; go_ret; exact ⟨by simp [Act.put], below_of_none (grow_none G3 (by repeat (first | exact grow_refl _ _ | exact World.grownBy_alloc _ _ _ | apply grow_drawn)))⟩)
    · rw [if_neg hck] at Q3
      go_region_with (first
        | (go_at_call 9; refine (Sum_any _ (l.take k) _ (m3.kept ?_) (P3.out.kept ?_) HSX.out HLX.out).mono ?_ <;> first | (rintro e w4 ⟨rfl, rfl⟩) | (repeat (first | exact grow_refl _ _ | exact World.grownBy_alloc _ _ _ | apply grow_drawn)))
        | (go_at_call 11; refine (More_any _ _ (l.drop k) _ (m3.kept ?_) (Q3.out.kept ?_) HSY.out HLY.out).mono ?_ <;> first | (rintro e w4 ⟨rfl, rfl⟩) | (repeat (first | exact grow_refl _ _ | exact World.grownBy_alloc _ _ _ | apply grow_drawn)))
        | (go_at_call 9; refine (Sum_one w3 _ m3 _ HONE.out 9 ?_).mono ?_ <;> first | (rintro e w4 ⟨rfl, rfl⟩) | (repeat (first | exact grow_refl _ _ | exact World.grownBy_alloc _ _ _ | apply grow_drawn))))
      all_goals (rw [EK.out, EO.out]; clear P3 Q3 HSX HSY HLX HLY; go_wp2; go_ret; exact ⟨by simp [Act.put], below_of_none (grow_none G3 (by repeat (first | exact grow_refl _ _ | exact World.grownBy_alloc _ _ _ | apply grow_drawn)))⟩)
end Go.Proofs.YtpoffplnkmmmkaaDoor
