/- What the statements of layer 1 ask of texts: long. -/
import Derived.Test.YtpoffplnkmmmkaaPkL
namespace Go.Proofs.Ytpoffplnkmmmkaa
open Go.RowKit
set_option linter.unusedVariables false
/-- Are texts together longer than is played? -/
def longG : List ByteArray → Nat → Bool
  | [], _ => false
  | s :: l, n => if 16384 < n + (1 + min s.size 1048576) then true else longG l (n + (1 + min s.size 1048576))
def sizes (l : List ByteArray) : Nat := (l.map fun s => 1 + s.size).sum
theorem longG_no : ∀ (l : List ByteArray) (n : Nat), longG l n = false → n ≤ 16384 → n + sizes l ≤ 16384
  | [], n, _, hn => by simpa [sizes] using hn
  | s :: l, n, h, hn => by
    unfold longG at h
    split at h
    · simp at h
    · have := longG_no l _ h (by omega)
      have e : sizes (s :: l) = 1 + s.size + sizes l := by simp only [sizes, List.map_cons, List.sum_cons]
      omega
theorem roomB_sizes (l : List ByteArray) : roomB l = sizes l + 9 * l.length := by
  induction l with
  | nil => rfl
  | cons s l ih =>
    have e1 : roomB (s :: l) = s.size + 10 + roomB l := by simp only [roomB, List.map_cons, List.sum_cons]
    have e2 : sizes (s :: l) = 1 + s.size + sizes l := by simp only [sizes, List.map_cons, List.sum_cons]
    rw [e1, e2, ih, List.length_cons]; omega
theorem len_sizes (l : List ByteArray) : l.length ≤ sizes l := by
  induction l with
  | nil => simp
  | cons s l ih =>
    have e2 : sizes (s :: l) = 1 + s.size + sizes l := by simp only [sizes, List.map_cons, List.sum_cons]
    rw [e2, List.length_cons]; omega
theorem room_of_short {l : List ByteArray} (h : longG l 0 = false) : roomB l ≤ 163840 ∧ l.length ≤ 16384 ∧ sizes l ≤ 16384 := by
  have h1 := longG_no l 0 h (by omega)
  have h2 := roomB_sizes l
  have h3 := len_sizes l
  omega
set_option maxRecDepth 100000 in
theorem long_any (v : Value) (l : List ByteArray) (hr : ∀ s ∈ l, s.size ≤ maxLen) (w : World) (h : RowAt w v (l.map strv)) (hll : l.length ≤ maxLen) :
    Calls Try.prog 14 #[v] w fun e w' => e = .returned (.bool (longG l 0)) ∧ w = w' := by
  obtain ⟨a, cap, rfl, hcells⟩ := h
  rw [List.length_map] at hcells ⊢
  unfold maxLen at hll
  have hl63 : (l.length : Int) ≤ 9223372036854775807 := by omega
  clear hll
  go_enter Try.func14, Try.ntmps14
  go_wp2
  go_loop [3, 8] (fun n i => ∃ k m : Nat, k ≤ l.length ∧ i = .int .i64 k ∧ n = .int .i64 m ∧ m ≤ 16384 ∧ longG l 0 = longG (l.drop k) m) (fun _ i => l.length - (intOf i).toNat)
  case atStart => exact ⟨0, 0, Nat.zero_le _, rfl, rfl, by omega, rfl⟩
  case round =>
    obtain ⟨k, m, hk, rfl, rfl, hm, hg⟩ := hrel
    have HG := Lib.hid hg
    clear hg
    by_cases hlt : k < l.length
    · rcases hcells with h0 | ⟨b, off, rfl, hb, hc⟩
      · have : l = [] := by simpa using h0
        subst this; simp at hlt
      have hcell : w.cell? ⟨b, off + k, none⟩ = some (.string l[k]) := by
        rw [hc k hlt]; simp [strv, List.getElem?_eq_getElem hlt]
      have hsz : l[k].size ≤ 9223372036854775807 := by have := hr l[k] (List.getElem_mem hlt); unfold maxLen at this; omega
      have HD : Hid (longG l 0 = if 16384 < m + (1 + min l[k].size 1048576) then true else longG (l.drop (k + 1)) (m + (1 + min l[k].size 1048576))) := by
        show _ = _
        rw [HG.out, List.drop_eq_getElem_cons hlt, longG]
      clear hc
      by_cases hA : l[k].size < 1048576
      · have hD2 : min l[k].size 1048576 = l[k].size := by omega
        have HD2 := HD.out
        rw [hD2] at HD2
        have HE := Lib.hid HD2
        clear HD2 hD2 HD
        by_cases hbig : 16384 < m + (1 + l[k].size)
        · have HR : Hid (longG l 0 = true) := by show _ = _; rw [HE.out, if_pos hbig]
          go_wp2
          go_ret
          rw [HR.out]
          exact ⟨rfl, rfl⟩
        · have HR : Hid (longG l 0 = longG (l.drop (k + 1)) (m + (1 + l[k].size))) := by show _ = _; rw [HE.out, if_neg hbig]
          go_wp2
          go_round
          case rel => exact ⟨k + 1, m + (1 + l[k].size), by omega, by go_num, by go_num, by omega, HR.out⟩
          case measure => simp [intOf]; omega
      · have hD2 : min l[k].size 1048576 = 1048576 := by omega
        have HR : Hid (longG l 0 = true) := by show _ = _; rw [HD.out, hD2, if_pos (by omega)]
        clear HD hD2
        have hA' : (1048576 : Int) ≤ l[k].size := by omega
        go_wp2
        all_goals
          go_ret
          rw [HR.out]
          exact ⟨rfl, rfl⟩
    · have HR : Hid (longG l 0 = false) := by show _ = _; rw [HG.out, List.drop_eq_nil_of_le (by omega), longG]
      clear hcells
      go_wp2
      go_ret
      rw [HR.out]
      exact ⟨rfl, rfl⟩
end Go.Proofs.Ytpoffplnkmmmkaa
