/- Stage 19: what the statements ask first: many, awake. -/
import Derived.Test.YtjngbmepndhkpaaHuA
namespace Go.Proofs.Ytjngbmepndhkpaa
open Go.RowKit
set_option linter.unusedVariables false
def ManyE (l : List ByteArray) (e : Ending) : Prop := e = .returned (.bool true) ∨ (e = .returned (.bool false) ∧ l.length ≤ 4096)
set_option maxRecDepth 100000 in
set_option maxHeartbeats 400000 in
theorem many19_any (v : Value) (l : List ByteArray) (w : World) (hr : RowAt w v (l.map Value.string)) (hl : l.length ≤ maxLen) (hs : ∀ s ∈ l, s.size ≤ maxLen) :
    Calls Try.prog 7 #[v] w fun e w' => ManyE l e ∧ w = w' := by
  obtain ⟨p, c, rfl⟩ := row_form hr
  have il : (l.length : Int) ≤ 9223372036854775807 := by unfold maxLen at hl; omega
  have HSZ := Lib.hid hs
  clear hl hs
  go_enter Try.func7, Try.ntmps7
  go_wp2
  go_loop [3, 8] (fun n i => ∃ k N : Nat, k ≤ l.length ∧ i = .int .i64 k ∧ n = .int .i64 N ∧ N ≤ 4096 ∧ k ≤ N) (fun _ i => l.length - (intOf i).toNat)
  case atStart => exact ⟨0, 0, Nat.zero_le _, rfl, rfl, Nat.zero_le _, Nat.le_refl _⟩
  case round =>
    obtain ⟨k, N, hk, rfl, rfl, hN, hkN⟩ := hrel
    by_cases hlt : k < l.length
    · obtain ⟨b1, o1, rfl, c1, _⟩ := row_string hr rfl hlt
      have hsz := HSZ.out (l.getD k ⟨#[]⟩) (by rw [List.getD, List.getElem?_eq_getElem hlt]; exact List.getElem_mem hlt)
      obtain ⟨x, hx⟩ : ∃ x, x = l.getD k ⟨#[]⟩ := ⟨_, rfl⟩
      rw [← hx] at c1 hsz
      have hszi : (x.size : Int) ≤ 9223372036854775807 := by unfold maxLen at hsz; omega
      have hki : (k : Int) < l.length := by omega
      have hNi : (N : Int) ≤ 4096 := by omega
      obtain ⟨m, hm⟩ : ∃ m : Nat, m = min x.size 1048576 := ⟨_, rfl⟩
      have hmi : min (x.size : Int) 1048576 = (m : Int) := by omega
      have hm2 : (m : Int) ≤ 1048576 := by omega
      by_cases hgt : 4096 < N + (1 + m)
      · have d1 : decide ((4096 : Int) < (N : Int) + (1 + (m : Int))) = true := decide_eq_true (by omega)
        clear hx hsz hm hkN
        go_wp2
        refine bodyPost_ret (v := .bool true) ?_ ?_ ?_
        · simp [results, go_sem]
        · rfl
        · exact ⟨.inl rfl, rfl⟩
      · have d1 : decide ((4096 : Int) < (N : Int) + (1 + (m : Int))) = false := decide_eq_false (by omega)
        have hle : N + (1 + m) ≤ 4096 := by omega
        have hkn : k + 1 ≤ N + (1 + m) := by omega
        clear hx hsz hm hkN
        go_wp2
        go_round
        case rel => exact ⟨k + 1, N + (1 + m), by omega, by go_num, by push_cast; rfl, hle, hkn⟩
        case measure => simp [intOf]; omega
    · obtain rfl : k = l.length := by omega
      go_wp2
      go_ret
      exact ⟨.inr ⟨rfl, by omega⟩, rfl⟩
def lA : List ByteArray := [⟨#[97]⟩]
def lE : List ByteArray := [⟨#[97]⟩, ⟨#[98]⟩, ⟨#[99]⟩, ⟨#[100]⟩, ⟨#[101]⟩]
theorem New_five (w : World) :
    Calls Try.prog 5 #[.int .i64 5] w fun e w' => e = .returned (.tuple #[.pointer (some ⟨w.heap.size, 0, none⟩), .int .i64 0]) ∧ HAt w' w.heap.size 5 0 ∧ w.grownBy w' none := New_yes 5 w (by omega)
/-- A tick with a list that was just laid. -/
theorem Tick_lit (b me t : Nat) (xs : List Value) (l : List ByteArray) (w : World) (n : Nat) (e : xs = l.map Value.string) (hn : l.length = n) (h : HAt w b me t) (hl : n ≤ 1000000) (hme : me < 6) (ht : t ≤ 1000000) :
    Calls Try.prog 9 #[.pointer (some ⟨b, 0, none⟩), .slice (some ⟨w.heap.size, 0, none⟩) n n] (w.alloc (.cells xs.toArray 9)) (Ticked w b me t l) := by
  subst hn e
  have hb : b < w.heap.size := h.lt
  refine (Tick_any b me t _ l _ (h.keep (World.grownBy_alloc _ _ _)) ⟨RowAt.lit w (l.map Value.string) 9 l.length l.length (by simp), capok_lit _ _⟩ hl hme ht ?_).mono ?_
  · intro bb off n c e
    injection e with e1; injection e1 with e1; injection e1 with e1
    omega
  rintro e w' ⟨v, rfl, h1, h2, h3⟩
  exact ⟨v, rfl, h1, h2, grow_alloc _ _ h3⟩
set_option maxRecDepth 100000 in
set_option maxHeartbeats 1000000 in
theorem awake19_any (w : World) : Calls Try.prog 6 #[] w fun e w' => e = .returned (.bool true) ∧ w.grownBy w' none := by
  go_enter Try.func6, Try.ntmps6
  go_wp2_with fail
  refine (New_five w).mono ?_
  rintro e w1 ⟨rfl, h1, g1⟩
  go_wp2_with fail
  refine (Tick_lit w.heap.size 5 0 _ lE w1 5 rfl rfl h1 (by decide) (by decide) (by decide)).mono ?_
  rintro e w2 ⟨v2, rfl, ⟨r2, _⟩, h2, g2⟩
  have G2 := grow_new g1 (Nat.le_refl _) g2
  obtain ⟨p2, c2, rfl⟩ := row_form r2
  rw [show (rowL lE (0 / 5)).length = 4 from rfl]
  rw [show whoT 5 0 lE = 0 from rfl]
  clear g1 h1 g2 r2
  go_wp2_with fail
  go_loopw [23] (fun i wr => ∃ k : Nat, i = .int .i64 k ∧ k ≤ 4 ∧ HAt wr w.heap.size 5 (1 + k) ∧ w.grownBy wr none) (fun i _ => 4 - (intOf i).toNat)
  case atStart => exact ⟨0, rfl, by omega, h2, G2⟩
  case round =>
    obtain ⟨k, rfl, hk, h3, g3⟩ := hrel
    clear h2 G2
    by_cases hlt : k < 4
    · have hki : (k : Int) < 4 := by omega
      go_wp2_with fail
      refine (Tick_lit w.heap.size 5 (1 + k) _ lA _ 1 rfl rfl h3 (by decide) (by decide) (by omega)).mono ?_
      rintro e w4 ⟨v4, rfl, _, h4, g4⟩
      have G4 := grow_new g3 (Nat.le_refl _) g4
      go_wp2_with fail
      go_roundw
      case rel => exact ⟨k + 1, by go_num, by omega, h4, G4⟩
      case measure => simp [intOf]; omega
    · obtain rfl : k = 4 := by omega
      go_wp2_with fail
      refine (Tick_lit w.heap.size 5 5 _ lE _ 5 rfl rfl h3 (by decide) (by decide) (by decide)).mono ?_
      rintro e w4 ⟨v4, rfl, ⟨r4, _⟩, h4, g4⟩
      have G4 := grow_new g3 (Nat.le_refl _) g4
      rw [show rowL lE (5 / 5) = [⟨#[101]⟩] from rfl] at r4
      obtain ⟨p4, c4, rfl⟩ := row_form r4
      obtain ⟨b4, o4, rfl, k4, _⟩ := row_string r4 rfl (show 0 < 1 by decide)
      rw [show whoT 5 5 lE = 0 from rfl]
      rw [Nat.add_zero, show ([⟨#[101]⟩] : List ByteArray).getD 0 ⟨#[]⟩ = ⟨#[101]⟩ from rfl] at k4
      go_wp2_with fail
      all_goals
        refine (Turn_any w.heap.size 5 6 _ h4).mono ?_
        rintro e w5 ⟨rfl, rfl⟩
        go_wp2_with fail
        go_ret
        exact ⟨rfl, G4⟩
end Go.Proofs.Ytjngbmepndhkpaa
