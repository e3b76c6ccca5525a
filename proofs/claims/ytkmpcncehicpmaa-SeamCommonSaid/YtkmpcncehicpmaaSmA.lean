/- What the package seam does, and what the document's answers are: upTo, Hint, Next. -/
import Derived.Test.YtkmpcncehicpmaaChecked
import Derived.Test.YtkmpcncehicpmaaB2
import Derived.Test.YtkmpcncehicpmaaRel
import Derived.Outline
namespace Go.Proofs.Ytkmpcncehicpmaa
open Go.RowKit
set_option linter.unusedVariables false
/-- The greatest place, at most m, whose epoch is at most this. -/
def dn (l : List Int) (since : Int) : Nat → Nat
  | 0 => 0
  | m + 1 => if since < l.getD m 0 then dn l since m else m + 1
theorem dn_le (l : List Int) (since : Int) : ∀ m, dn l since m ≤ m
  | 0 => Nat.le_refl _
  | m + 1 => by
    unfold dn
    split
    · have := dn_le l since m; omega
    · omega
theorem dn_skip {l : List Int} {since : Int} {m : Nat} (h : since < l.getD m 0) : dn l since (m + 1) = dn l since m := by rw [dn, if_pos h]
theorem dn_here {l : List Int} {since : Int} {m : Nat} (h : ¬ since < l.getD m 0) : dn l since (m + 1) = m + 1 := by rw [dn, if_neg h]
/-- How far, at most, it is looked. -/
def cutN (n : Int) (len : Nat) : Nat := min n.toNat len
def hintN (l : List Int) (after since : Int) : Nat := dn l since (cutN (after - 1) l.length)
def hintE (l : List Int) (after since : Int) : Int := if hintN l after since = 0 then 0 else l.getD (hintN l after since - 1) 0
def nextN (l : List Int) (hn he : Int) : Nat := dn l he (cutN hn l.length)
theorem row_int {w : World} {a : Option Addr} {c n : Nat} {l : List Int} {k : Nat} (h : RowAt w (.slice a n c) (l.map (Value.int .i64))) (hn : l.length = n) (hk : k < n) :
    ∃ bb off, a = some ⟨bb, off, none⟩ ∧ w.cell? ⟨bb, off + k, none⟩ = some (.int .i64 (l.getD k 0)) ∧ bb < w.heap.size := by
  subst hn
  obtain ⟨a', c', e, h⟩ := h
  injection e with e1 e2 e3
  subst e1
  rcases h with h | ⟨b, off, rfl, hb, hc⟩
  · have : l = [] := by simpa using h
    subst this; simp at hk
  · exact ⟨b, off, rfl, by rw [hc k (by simpa using hk)]; simp [List.getD, List.getElem?_eq_getElem hk], hb⟩
def UpMin (l : Nat) (n : Int) (v : Value) : Prop := ∃ m : Int, v = .int .i64 m ∧ m ≤ n ∧ m ≤ l ∧ m.toNat = cutN n l ∧ -9223372036854775808 ≤ m
set_option maxRecDepth 100000 in
set_option maxHeartbeats 1000000 in
theorem upTo_any (v : Value) (l : List Int) (n since : Int) (w : World) (hr : RowAt w v (l.map (Value.int .i64))) (hl : l.length ≤ maxLen) (hn : -9223372036854775808 ≤ n ∧ n ≤ 9223372036854775807) :
    Calls Try.prog 117 #[v, .int .i64 n, .int .i64 since] w fun e w' => e = .returned (.int .i64 (dn l since (cutN n l.length) : Nat)) ∧ w = w' := by
  obtain ⟨a, c, rfl⟩ := hr.len
  rw [List.length_map] at hr ⊢
  have hl63 : (l.length : Int) ≤ 9223372036854775807 := by unfold maxLen at hl; omega
  obtain ⟨hn1, hn2⟩ := hn
  clear hl
  go_enter Try.func117, Try.ntmps117
  go_upto_region 1 with (fail)
  go_cut [1] (fun v wc => UpMin l.length n v ∧ wc = w)
  case first =>
    by_cases hm : n ≤ l.length
    · go_wp2_with fail
      go_meet
      exact ⟨⟨_, rfl, by omega, by omega, by unfold cutN; omega, by omega⟩, rfl⟩
    · have hm' : (l.length : Int) < n := by omega
      go_wp2_with fail
      go_meet
      exact ⟨⟨_, rfl, by omega, by omega, by unfold cutN; omega, by omega⟩, rfl⟩
  case rest =>
    obtain ⟨⟨m, rfl, hm1, hm2, hm3, hm4⟩, rfl⟩ := hcut
    have HM := Lib.hid hm3
    clear hm3
    by_cases hneg : m < 0
    · have h0 : Hid (dn l since (cutN n l.length) = 0) := by
        show _ = _
        rw [← HM.out, show m.toNat = 0 by omega]; rfl
      have hd : decide (0 < m) = false := by simp; omega
      have hmx : ¬ 0 ≤ m := by omega
      go_wp2
      go_loop [1] (fun q => q = .int .i64 m) (fun q => (intOf q).toNat)
      case atStart => rfl
      case round =>
        obtain rfl := hrel
        go_wp2
        go_ret
        exact ⟨by rw [h0.out]; rfl, rfl⟩
    · go_wp2
      go_loop [1] (fun q => ∃ k : Nat, q = .int .i64 k ∧ k ≤ l.length ∧ dn l since k = dn l since (cutN n l.length)) (fun q => (intOf q).toNat)
      case atStart => exact ⟨m.toNat, by rw [Int.toNat_of_nonneg (by omega)], by omega, by rw [HM.out]⟩
      case round =>
        obtain ⟨k, rfl, hk, hd⟩ := hrel
        have HD := Lib.hid hd
        clear hd
        rcases k with _ | k
        · have hz : decide ((0 : Int) < ((0 : Nat) : Int)) = false := by simp
          go_wp2
          go_ret
          exact ⟨by rw [← HD.out]; rfl, rfl⟩
        · obtain ⟨bb, off, rfl, hcell, hbb⟩ := row_int hr rfl (show k < l.length by omega)
          have hz : decide ((0 : Int) < ((k + 1 : Nat) : Int)) = true := decide_eq_true (by omega)
          obtain ⟨s, hs⟩ : ∃ s, s = l.getD k 0 := ⟨_, rfl⟩
          rw [← hs] at hcell
          have hk0 : (0 : Int) ≤ k := by omega
          have hk1 : (k : Int) < l.length := by omega
          by_cases h1 : since < s
          · have h1' : decide (since < s) = true := by simpa using h1
            have HE : Hid (dn l since k = dn l since (cutN n l.length)) := by
              show _ = _
              rw [← HD.out, dn_skip (by rw [← hs]; exact h1)]
            clear hs
            go_wp2
            go_round
            case rel => exact ⟨k, by go_num, by omega, HE.out⟩
            case measure => simp [intOf]
          · have h1' : decide (since < s) = false := by simpa using h1
            have HE : Hid (dn l since (cutN n l.length) = k + 1) := by
              show _ = _
              rw [← HD.out, dn_here (by rw [← hs]; exact h1)]
            clear hs
            go_wp2
            go_ret
            exact ⟨by rw [HE.out]; rfl, rfl⟩
end Go.Proofs.Ytkmpcncehicpmaa
