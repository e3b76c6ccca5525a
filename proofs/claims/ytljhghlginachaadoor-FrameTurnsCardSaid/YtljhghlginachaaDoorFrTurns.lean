/- The law FrameTurns: its walk. -/
import Derived.Test.YtljhghlginachaaDoorFrN
import Derived.Outline
namespace Go.Proofs.YtljhghlginachaaDoor
open Go.RowKit
set_option linter.unusedVariables false
theorem mod_posN (a : Int) (m : Nat) (h0 : 0 < m) (hm : m ≤ 1000000000) : ∃ k : Nat, k < m ∧ (IntKind.u64.wrap a).tmod (m : Int) = (k : Int) := by
  have e : IntKind.u64.wrap a = a % 18446744073709551616 := by simp [IntKind.wrap, IntKind.signed, IntKind.bits]
  have h1 : 0 ≤ IntKind.u64.wrap a := by rw [e]; omega
  rw [Int.tmod_eq_emod_of_nonneg h1]
  have h2 := Int.emod_nonneg (IntKind.u64.wrap a) (b := (m : Int)) (by omega)
  have h3 := Int.emod_lt_of_pos (IntKind.u64.wrap a) (b := (m : Int)) (by omega)
  exact ⟨((IntKind.u64.wrap a) % (m : Int)).toNat, by omega, by omega⟩
theorem xor_bit (y : UInt8) (j : Nat) (hj : j < 8) : bits .xor .u8 (y.toNat : Int) (2 ^ j % 256) = ((UInt8.ofNat (y.toNat ^^^ 2 ^ j)).toNat : Int) ∧ (UInt8.ofNat (y.toNat ^^^ 2 ^ j)).toNat = y.toNat ^^^ 2 ^ j := by
  have hp : 2 ^ j < 256 := Nat.lt_of_lt_of_le (Nat.pow_lt_pow_right (by omega) hj) (by omega)
  have e1 : ((2 : Int) ^ j % 256) = ((2 ^ j : Nat) : Int) := by
    rw [show ((2 : Int) ^ j) = ((2 ^ j : Nat) : Int) by simp]
    generalize 2 ^ j = z at hp ⊢
    omega
  have hlt : y.toNat ^^^ 2 ^ j < 256 := Nat.xor_lt_two_pow (n := 8) y.toNat_lt hp
  have e3 : (UInt8.ofNat (y.toNat ^^^ 2 ^ j)).toNat = y.toNat ^^^ 2 ^ j := by
    rw [UInt8.toNat_ofNat']; exact Nat.mod_eq_of_lt hlt
  exact ⟨by rw [e1, u8_xor_nat _ _ y.toNat_lt hp, e3], e3⟩
set_option maxRecDepth 100000 in
set_option maxHeartbeats 2000000 in
theorem law_FrameTurns (p : ByteArray) (hp : p.size ≤ maxLen) (n : Int) (hn : -9223372036854775808 ≤ n ∧ n ≤ 9223372036854775807) {w : World} (hm : Mv w) :
    Calls Tryd.prog 7 #[.string p, .int .i64 n] w fun e w' => e = .returned (.bool true) ∧ Below w.heap.size w w' := by
  have hpi : (p.size : Int) ≤ 9223372036854775807 := by unfold maxLen at hp; omega
  clear hp
  by_cases h2 : 4096 < p.size
  · have h2' : decide ((4096 : Int) < p.size) = true := decide_eq_true (by omega)
    clear hn
    go_enter Tryd.func7, Tryd.ntmps7
    go_wp2_with fail
    refine (awake04_any _ hm).mono ?_
    rintro e w2 ⟨rfl, g2⟩
    have m2 := hm.kept g2
    go_wp2_with fail
    refine (awake04_any _ m2).mono ?_
    rintro e w3 ⟨rfl, g3⟩
    have G3 := grow_none g2 g3
    clear g2 g3
    go_wp2
    go_ret
    exact ⟨rfl, below_of_none G3⟩
  · have h2' : decide ((4096 : Int) < p.size) = false := decide_eq_false (by omega)
    have hps : p.size ≤ 4096 := by omega
    have hpsi : (p.size : Int) ≤ 4096 := by omega
    have hH1 := numB_pos (p.size : Int)
    have hH2 := numB_len (n := (p.size : Int)) (by omega)
    obtain ⟨H, hH⟩ : ∃ H, H = (numB (p.size : Int)).length := ⟨_, rfl⟩
    rw [← hH] at hH1 hH2
    obtain ⟨X, hX⟩ : ∃ X : ByteArray, X = ⟨(framesB [p]).toArray⟩ := ⟨_, rfl⟩
    have hfp : framesB [p] = frB p := by unfold framesB; simp only [List.flatMap_cons, List.flatMap_nil, List.append_nil]
    have hXl : X.data.toList = frB p := by rw [hX, hfp]
    have hXs : X.size = H + 4 + p.size := by rw [← len_bs, hXl, frB_size, hH]
    obtain ⟨k, hk, hkk⟩ := mod_posN n (8 * (4 + p.size)) (by omega) (by omega)
    have hkk' : (IntKind.u64.wrap n).tmod (8 * (4 + (p.size : Int))) = (k : Int) := by
      rw [← hkk]; congr 1
    have hki : (k : Int) ≤ 40000 := by omega
    have hkd : (k : Int) / 8 < 4 + (p.size : Int) := by omega
    have e1 : (X.size : Int) - (p.size : Int) - 4 = (H : Int) := by omega
    have e2 : (X.size : Int) - (H : Int) = 4 + (p.size : Int) := by omega
    have d1 : decide ((X.size : Int) < 5 + (p.size : Int)) = false := decide_eq_false (by omega)
    have b1 : (X.size : Int) ≤ 5000 := by omega
    have b2 : (p.size : Int) + 5 ≤ X.size := by omega
    have b3 : (H : Int) ≤ 10 := by omega
    have hil : H + k / 8 < (frB p).length := by rw [frB_size, ← hH]; omega
    obtain ⟨y, hy⟩ : ∃ y, y = (frB p)[H + k / 8] := ⟨_, rfl⟩
    obtain ⟨x1, x2⟩ := xor_bit y (k % 8) (by omega)
    obtain ⟨v, hv⟩ : ∃ v, v = UInt8.ofNat (y.toNat ^^^ 2 ^ (k % 8)) := ⟨_, rfl⟩
    rw [← hv] at x1 x2
    have hno : opB (bs ((frB p).set (H + k / 8) v)) = false := by
      rw [hH]
      refine turn_math p (by omega) k (by omega) v ?_
      rw [x2, ← hH, List.getD, List.getElem?_eq_getElem hil, hy]; rfl
    have hYs : (bs ((frB p).set (H + k / 8) v)).size ≤ 1000000000 := by rw [bs_size, List.length_set, frB_size, ← hH]; omega
    have hsl : ((frB p).set (H + k / 8) v).length = X.size := by rw [List.length_set, ← hXl, len_bs]
    have HNO := Lib.hid hno
    have HYS := Lib.hid hYs
    have HX := Lib.hid hX
    have HXL := Lib.hid hXl
    have HY := Lib.hid hy
    have X1 := Lib.hid x1
    have HSL := Lib.hid hsl
    have HIL := Lib.hid hil
    have gA := World.grownBy_alloc w (.cells #[Value.string p] 9) none
    clear h2 hX hfp hXl hXs hkk hno hYs hsl hy x1 x2 hv hH hn
    go_enter Tryd.func7, Tryd.ntmps7
    go_wp2_with fail
    refine (awake04_any _ hm).mono ?_
    rintro e w2 ⟨rfl, g2⟩
    have m2 := hm.kept g2
    have gB := World.grownBy_alloc w2 (.cells #[Value.string p] 9) none
    go_wp2_with fail
    refine (Seal_any _ [p] _ (m2.kept gB) (RowAt.lit w2 [Value.string p] _ _ _ rfl) (by simp) (by intro s hs; rw [List.mem_singleton] at hs; rw [hs]; omega)).mono ?_
    rintro e w3 ⟨rfl, g3⟩
    rw [← HX.out]
    have G3 := grow_none (grow_none g2 gB) g3
    clear g2 gB g3 m2
    have hby := fun W => run_bytes (P := Tryd.prog) W 9 41 5 X Tryd.underlying9 Tryd.underlying41 Tryd.underlying5
    have b0 := bytesOf_byt w3 5 X
    have gb := grow_none G3 (bytesOf_grow w3 5 X)
    obtain ⟨g, hg⟩ : ∃ g, g = w3.heap.size := ⟨_, rfl⟩
    obtain ⟨cap, hcap⟩ : ∃ cap, cap = grownCap w3 X.size 0 5 := ⟨_, rfl⟩
    have hg0 : w.heap.size ≤ g := by rw [hg]; exact G3.size
    have hcn : X.size ≤ cap := by rw [hcap]; exact grownCap_ge _ _ _ _
    rw [← hg] at b0
    rw [HXL.out] at b0
    have hcell := b0.cell (H + k / 8) HIL.out
    have hfr := b0.frozen (H + k / 8) HIL.out
    rw [← HY.out] at hcell
    have HG := Lib.hid hg
    have HCAP := Lib.hid hcap
    clear hg hcap G3
    have q1 : (0 : Int) ≤ (H : Int) + (k : Int) / 8 := by omega
    have q2 : (H : Int) + (k : Int) / 8 < X.size := by omega
    have q3 : ((H : Int) + (k : Int) / 8).toNat = H + k / 8 := by omega
    have q4 : (0 : Int) ≤ (k : Int) % 8 := by omega
    have q5 : (k : Int) % 8 < 8 := by omega
    have q6 : ((k : Int) % 8).toNat = k % 8 := by omega
    go_wp2
    rw [← HG.out, ← HCAP.out]
    generalize bytesOf w3 5 X = wb at b0 gb hcell hfr ⊢
    go_region
    all_goals
      have b1' := (b0.set_ (H + k / 8) v _ X1.out).drew
      have hcv := b1'.str (P := Tryd.prog) 41 9 cap Tryd.underlying41 Tryd.underlying5 Tryd.underlying9 X.size HSL.out
      have G5 : w.grownBy _ none := grow_drawn (grow_new gb hg0 (grow_set wb ⟨g, H + k / 8, none⟩ (.int .u8 (bits .xor .u8 (y.toNat : Int) (2 ^ (k % 8) % 256)))))
      obtain ⟨wz, hwz⟩ : ∃ wz, wz = (wb.setCell ⟨g, H + k / 8, none⟩ (.int .u8 (bits .xor .u8 (y.toNat : Int) (2 ^ (k % 8) % 256)))).drew := ⟨_, rfl⟩
      rw [← hwz] at G5
      have mz := hm.kept G5
      obtain ⟨Y, hY⟩ : ∃ Y : ByteArray, Y = ⟨((frB p).set (H + k / 8) v).toArray⟩ := ⟨_, rfl⟩
      rw [← hY] at hcv
      have y1 : Hid (opB Y = false) := by show _ = _; rw [hY]; exact HNO.out
      have y2 : Hid (Y.size ≤ 1000000000) := by show _ ≤ _; rw [hY]; exact HYS.out
      have HWZ := Lib.hid hwz
      clear hY hwz
      go_wp2_with fail
      rw [← HWZ.out]
      refine (Open_not Y _ mz y2.out y1.out).mono ?_
      rintro e w4 ⟨rfl, g4⟩
      have G6 := grow_none G5 g4
      go_wp2
      go_ret
      exact ⟨rfl, below_of_none G6⟩
end Go.Proofs.YtljhghlginachaaDoor
