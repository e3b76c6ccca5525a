/- The law ShaBack: its walk. -/
import Derived.Test.YtednbfhjkanllaaDoorShL
namespace Go.Proofs.YtednbfhjkanllaaDoor
open Go.RowKit
set_option linter.unusedVariables false
theorem hv_hex : ∀ n : Fin 16, hv (hexD n.val) = some n.val := by decide +kernel
theorem hex_hv : ∀ n : Fin 256, ∀ m : Fin 16, hv (UInt8.ofNat n.val) = some m.val → hexD m.val = UInt8.ofNat n.val := by decide +kernel
theorem hex_of {c : UInt8} {m : Nat} (h : hv c = some m) : hexD m = c := by
  have hm := hv_lt h
  have := hex_hv ⟨c.toNat, c.toNat_lt⟩ ⟨m, hm⟩
  simp only [UInt8.ofNat_toNat] at this
  exact this h
theorem pair_hex (y : UInt8) : pairOf (hexD (y.toNat / 16)) (hexD (y.toNat % 16)) = some y := by
  have h1 := hv_hex ⟨y.toNat / 16, by have := y.toNat_lt; omega⟩
  have h2 := hv_hex ⟨y.toNat % 16, by omega⟩
  rw [pairOf_3 h1 h2]
  congr 1
  apply UInt8.toNat_inj.1
  rw [UInt8.toNat_ofNat']
  have := y.toNat_lt
  simp only
  omega
theorem hexB_at (l : List UInt8) (j : Nat) (hj : j < l.length) : (hexB l).getD (2 * j) 0 = hexD ((l.getD j 0).toNat / 16) ∧ (hexB l).getD (2 * j + 1) 0 = hexD ((l.getD j 0).toNat % 16) := by
  have e : hexB l = hexB (l.take j) ++ (hexP (l.getD j 0) ++ hexB (l.drop (j + 1))) := by
    rw [← List.append_assoc, ← hexB_snoc l j hj]
    unfold hexB
    rw [← List.flatMap_append, List.take_append_drop]
  have hl : (hexB (l.take j)).length = 2 * j := by rw [hexB_len, List.length_take]; omega
  rw [e]
  constructor
  · rw [List.getD, List.getElem?_append_right (by omega), hl, Nat.sub_self]; rfl
  · rw [List.getD, List.getElem?_append_right (by omega), hl, Nat.add_sub_cancel_left]; rfl
theorem preH_hex (l : List UInt8) : ∀ k, k ≤ l.length → preH ⟨(hexB l).toArray⟩ k = some (l.take k)
  | 0, _ => by rw [preH, List.take_zero]
  | k + 1, hk => by
    obtain ⟨h1, h2⟩ := hexB_at l k (by omega)
    have hp : pairAt ⟨(hexB l).toArray⟩ k = some (l.getD k 0) := by
      unfold pairAt
      show pairOf ((hexB l).getD (2 * k) 0) ((hexB l).getD (2 * k + 1) 0) = _
      rw [h1, h2]
      exact pair_hex _
    rw [preH, preH_hex l k (by omega), hp, List.take_succ_eq_append_getElem (show k < l.length by omega), List.getD, List.getElem?_eq_getElem (show k < l.length by omega)]
    rfl
theorem hash_hex (l : List UInt8) : hashS ⟨(hexB l).toArray⟩ = some l := by
  have hs : (⟨(hexB l).toArray⟩ : ByteArray).size = 2 * l.length := by show (hexB l).toArray.size = _; rw [List.size_toArray, hexB_len]
  unfold hashS
  rw [hs, if_pos (by omega), show 2 * l.length / 2 = l.length by omega, preH_hex l l.length (Nat.le_refl _), List.take_length]
theorem preH_back (s : ByteArray) : ∀ (k : Nat) (l : List UInt8), 2 * k ≤ s.size → preH s k = some l → hexB l = s.data.toList.take (2 * k)
  | 0, l, _, h => by rw [preH] at h; injection h with h; subst h; rfl
  | k + 1, l, hk, h => by
    rw [preH] at h
    split at h
    · rename_i l' b h1 h2
      injection h with h
      have ih := preH_back s k l' (by omega) h1
      have hln : s.data.toList.length = s.size := by rw [Array.length_toList]; rfl
      unfold pairAt at h2
      obtain ⟨x, hx⟩ : ∃ x, x = s.data.toList.getD (2 * k) 0 := ⟨_, rfl⟩
      obtain ⟨y, hy⟩ : ∃ y, y = s.data.toList.getD (2 * k + 1) 0 := ⟨_, rfl⟩
      rw [← hx, ← hy] at h2
      have hb : hexP b = [x, y] := by
        rcases hex : hv x with _ | m
        · rw [pairOf_1 hex] at h2; cases h2
        · rcases hey : hv y with _ | n
          · rw [pairOf_2 hey] at h2; cases h2
          · rw [pairOf_3 hex hey] at h2
            injection h2 with h2
            have hm := hv_lt hex
            have hn := hv_lt hey
            have hbn : b.toNat = 16 * m + n := by rw [← h2, UInt8.toNat_ofNat']; omega
            unfold hexP
            rw [hbn, show (16 * m + n) / 16 = m by omega, show (16 * m + n) % 16 = n by omega, hex_of hex, hex_of hey]
      have e1 : 2 * k < s.data.toList.length := by omega
      have e2 : 2 * k + 1 < s.data.toList.length := by omega
      rw [← h]
      have e3 : hexB (l' ++ [b]) = hexB l' ++ hexP b := by unfold hexB; rw [List.flatMap_append]; simp only [List.flatMap_cons, List.flatMap_nil, List.append_nil]
      rw [e3, ih, hb, show 2 * (k + 1) = 2 * k + 1 + 1 by omega, List.take_succ_eq_append_getElem e2, List.take_succ_eq_append_getElem e1, hx, hy, List.getD, List.getElem?_eq_getElem e1, List.getD, List.getElem?_eq_getElem e2, List.append_assoc]
      rfl
    · cases h
theorem hex_hash {s : ByteArray} {l : List UInt8} (h : hashS s = some l) : hexB l = s.data.toList := by
  unfold hashS at h
  split at h
  · rename_i he
    have := preH_back s (s.size / 2) l (by omega) h
    rw [this, List.take_of_length_le (by rw [Array.length_toList]; show s.size ≤ _; omega)]
  · cases h
theorem hash_size {s : ByteArray} {l : List UInt8} (h : hashS s = some l) : l.length ≤ s.size := by
  have h3 : s.data.toList.length = s.size := by rw [Array.length_toList]; rfl
  have h1 := congrArg List.length (hex_hash h)
  rw [hexB_len, h3] at h1
  omega
set_option maxRecDepth 100000 in
set_option maxHeartbeats 2000000 in
theorem law_ShaBack (h : ByteArray) (hh : h.size ≤ maxLen) (n : ByteArray) (hn : n.size ≤ maxLen) {w : World} (hm : Tb w) :
    Calls Tryd.prog 6 #[.string h, .string n] w fun e w' => e = .returned (.bool true) ∧ Below w.heap.size w w' := by
  have hhi : (h.size : Int) ≤ 9223372036854775807 := by unfold maxLen at hh; omega
  have hni : (n.size : Int) ≤ 9223372036854775807 := by unfold maxLen at hn; omega
  clear hh hn
  by_cases h1 : 4096 < h.size ∨ 4096 < n.size
  · have hor : decide ((4096 : Int) < h.size) = true ∨ decide ((4096 : Int) < h.size) = false ∧ decide ((4096 : Int) < n.size) = true := by
      simp only [decide_eq_true_eq, decide_eq_false_iff_not]
      omega
    clear h1
    rcases hor with e1 | ⟨e1, e2⟩
    all_goals
      go_enter Tryd.func6, Tryd.ntmps6
      go_wp2_with fail
      refine (awake03_any _ hm).mono ?_
      rintro e w2 ⟨rfl, g2⟩
      have m2 := hm.kept g2
      go_wp2_with fail
      refine (awake03_any _ m2).mono ?_
      rintro e w3 ⟨rfl, g3⟩
      have G3 := grow_none g2 g3
      clear g2 g3
      go_wp2
      go_ret
      exact ⟨rfl, below_of_none G3⟩
  · have e1 : decide ((4096 : Int) < h.size) = false := decide_eq_false (by omega)
    have e2 : decide ((4096 : Int) < n.size) = false := decide_eq_false (by omega)
    have hs : h.size ≤ 1000000 := by omega
    have ns : n.size ≤ 1000000 := by omega
    have hln : h.data.toList.length = h.size := by rw [Array.length_toList]; rfl
    obtain ⟨X, hX⟩ : ∃ X : ByteArray, X = ⟨(hexB h.data.toList).toArray⟩ := ⟨_, rfl⟩
    have hXs : X.size ≤ 1000000 := by rw [hX]; show (hexB h.data.toList).toArray.size ≤ _; rw [List.size_toArray, hexB_len, hln]; omega
    have hVX : hashV X = .tuple #[.string h, .bool true] := by
      unfold hashV
      rw [hX, hash_hex]
    have HS := Lib.hid hs
    have NS := Lib.hid ns
    have HX := Lib.hid hX
    have HXS := Lib.hid hXs
    have HVX := Lib.hid hVX
    clear h1 hs ns hX hXs hVX hln
    rcases hsn : hashS n with _ | l
    · have HVN : Hid (hashV n = .tuple #[.string ⟨#[]⟩, .bool false]) := by show _ = _; unfold hashV; rw [hsn]
      clear hsn
      go_enter Tryd.func6, Tryd.ntmps6
      go_wp2_with fail
      refine (awake03_any _ hm).mono ?_
      rintro e w2 ⟨rfl, g2⟩
      go_wp2_with fail
      refine (Name_any h _ HS.out).mono ?_
      rintro e w3 ⟨rfl, g3⟩
      rw [← HX.out]
      have G3 := grow_none g2 g3
      go_wp2_with fail
      refine (Hash_any X _ HXS.out).mono ?_
      rintro e w4 ⟨rfl, g4⟩
      rw [HVX.out]
      have G4 := grow_none G3 g4
      go_wp2_with fail
      refine (Hash_any n _ NS.out).mono ?_
      rintro e w5 ⟨rfl, g5⟩
      rw [HVN.out]
      have G5 := grow_none G4 g5
      clear g2 g3 g4 g5 G3 G4
      go_wp2
      go_ret
      exact ⟨rfl, below_of_none G5⟩
    · obtain ⟨Y, hY⟩ : ∃ Y : ByteArray, Y = ⟨l.toArray⟩ := ⟨_, rfl⟩
      have HVN : Hid (hashV n = .tuple #[.string Y, .bool true]) := by show _ = _; unfold hashV; rw [hsn, hY]
      have hYs : Y.size ≤ 1000000 := by
        have := hash_size hsn
        have := NS.out
        rw [hY]; show l.toArray.size ≤ _; rw [List.size_toArray]; omega
      have HYN : Hid ((⟨(hexB Y.data.toList).toArray⟩ : ByteArray) = n) := by
        show _ = _
        rw [hY, show (ByteArray.data ⟨l.toArray⟩).toList = l from rfl, hex_hash hsn]
      have HYS := Lib.hid hYs
      clear hsn hY hYs
      go_enter Tryd.func6, Tryd.ntmps6
      go_wp2_with fail
      refine (awake03_any _ hm).mono ?_
      rintro e w2 ⟨rfl, g2⟩
      go_wp2_with fail
      refine (Name_any h _ HS.out).mono ?_
      rintro e w3 ⟨rfl, g3⟩
      rw [← HX.out]
      have G3 := grow_none g2 g3
      go_wp2_with fail
      refine (Hash_any X _ HXS.out).mono ?_
      rintro e w4 ⟨rfl, g4⟩
      rw [HVX.out]
      have G4 := grow_none G3 g4
      go_wp2_with fail
      refine (Hash_any n _ NS.out).mono ?_
      rintro e w5 ⟨rfl, g5⟩
      rw [HVN.out]
      have G5 := grow_none G4 g5
      go_wp2_with fail
      refine (Name_any Y _ HYS.out).mono ?_
      rintro e w6 ⟨rfl, g6⟩
      rw [HYN.out]
      have G6 := grow_none G5 g6
      clear g2 g3 g4 g5 g6 G3 G4 G5
      go_wp2
      go_ret
      exact ⟨rfl, below_of_none G6⟩
end Go.Proofs.YtednbfhjkanllaaDoor
