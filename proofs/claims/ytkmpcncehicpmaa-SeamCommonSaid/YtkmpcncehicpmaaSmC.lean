/- What the document's answers are: Hint, Next. -/
import Derived.Test.YtkmpcncehicpmaaSmB
namespace Go.Proofs.Ytkmpcncehicpmaa
open Go.RowKit
set_option linter.unusedVariables false
/-- What is best of the first k. -/
def bestN (l : List Int) (n since : Int) (k : Nat) : Nat := dn l since (min k n.toNat)
def bestE (l : List Int) (n since : Int) (k : Nat) : Int := if bestN l n since k = 0 then 0 else l.getD (bestN l n since k - 1) 0
theorem best_take {l : List Int} {n since : Int} {k : Nat} (h1 : (k : Int) + 1 ≤ n) (h2 : l.getD k 0 ≤ since) : bestN l n since (k + 1) = k + 1 := by
  unfold bestN
  rw [show min (k + 1) n.toNat = k + 1 by omega, dn_here (by omega)]
theorem best_keep {l : List Int} {n since : Int} {k : Nat} (h : ¬ ((k : Int) + 1 ≤ n) ∨ since < l.getD k 0) : bestN l n since (k + 1) = bestN l n since k := by
  unfold bestN
  by_cases h1 : (k : Int) + 1 ≤ n
  · rw [show min (k + 1) n.toNat = k + 1 by omega, show min k n.toNat = k by omega, dn_skip]
    rcases h with h | h
    · exact absurd h1 h
    · exact h
  · rw [show min (k + 1) n.toNat = min k n.toNat by omega]
theorem best_takeE {l : List Int} {n since : Int} {k : Nat} (h1 : (k : Int) + 1 ≤ n) (h2 : l.getD k 0 ≤ since) : bestE l n since (k + 1) = l.getD k 0 := by
  unfold bestE
  rw [best_take h1 h2, if_neg (by omega)]; rfl
theorem best_keepE {l : List Int} {n since : Int} {k : Nat} (h : ¬ ((k : Int) + 1 ≤ n) ∨ since < l.getD k 0) : bestE l n since (k + 1) = bestE l n since k := by
  unfold bestE
  rw [best_keep h]
theorem best_end (l : List Int) (n since : Int) : bestN l n since l.length = dn l since (cutN n l.length) := by
  unfold bestN cutN
  rw [Nat.min_comm]
theorem best_zero (l : List Int) (n since : Int) : bestN l n since 0 = 0 := by unfold bestN; rw [Nat.zero_min]; rfl
set_option maxRecDepth 100000 in
set_option maxHeartbeats 1000000 in
theorem refNext_any (v : Value) (l : List Int) (hn he : Int) (w : World) (hr : RowAt w v (l.map (Value.int .i64))) (hl : l.length ≤ maxLen) (hs : l.length ≤ 1000000) :
    Calls Try.prog 82 #[v, .agg #[.int .i64 hn, .int .i64 he]] w fun e w' => e = .returned (.int .i64 (nextN l hn he : Nat)) ∧ w.grownBy w' none := by
  obtain ⟨a, c, rfl⟩ := hr.len
  rw [List.length_map] at hr ⊢
  have xb : Blk (w.alloc (.cells #[.int .i64 hn, .int .i64 he] 108)) w.heap.size 108 [.int .i64 hn, .int .i64 he] := Blk.new _ _ _
  have G1 := World.grownBy_alloc w (.cells #[.int .i64 hn, .int .i64 he] 108) none
  have hl63 : (l.length : Int) ≤ 1000000 := by omega
  clear hl
  go_enter Try.func82, Try.ntmps82
  go_wp2
  go_loopw [6, 5] (fun i b wr => ∃ k : Nat, i = .int .i64 ((k : Int) + 1) ∧ k ≤ l.length ∧ b = .int .i64 (bestN l hn he k : Nat) ∧ Blk wr w.heap.size 108 [.int .i64 hn, .int .i64 he] ∧ w.grownBy wr none) (fun i _ _ => l.length + 1 - (intOf i).toNat)
  case atStart => exact ⟨0, rfl, Nat.zero_le _, by rw [best_zero]; rfl, xb, G1⟩
  case round =>
    obtain ⟨k, rfl, hk, rfl, hx, hg⟩ := hrel
    clear xb G1
    by_cases hlt : k < l.length
    · obtain ⟨bb, off, rfl, hcell, hbb⟩ := row_int (hr.kept hg) rfl hlt
      have hd : decide ((k : Int) + 1 ≤ l.length) = true := decide_eq_true (by omega)
      have c0 : wr.cell? ⟨w.heap.size, 0, none⟩ = some (.int .i64 hn) := hx.cell 0 (by simp)
      have c1 : wr.cell? ⟨w.heap.size, 1, none⟩ = some (.int .i64 he) := hx.cell 1 (by simp)
      obtain ⟨s, hs⟩ : ∃ s, s = l.getD k 0 := ⟨_, rfl⟩
      rw [← hs] at hcell
      have hk0 : (0 : Int) ≤ k := by omega
      have hk1 : (k : Int) < l.length := by omega
      by_cases h1 : (k : Int) + 1 ≤ hn
      · have h1' : decide ((k : Int) + 1 ≤ hn) = true := decide_eq_true h1
        by_cases h2 : s ≤ he
        · have h2' : decide (s ≤ he) = true := decide_eq_true h2
          have HE := Lib.hid (best_take (l := l) (since := he) h1 (by rw [← hs]; exact h2))
          have HS := Lib.hid hs
          clear hs
          go_wp2
          go_quiet (fail)
          go_wp2
          go_roundw
          case rel => exact ⟨k + 1, by go_num, by omega, by rw [HE.out]; go_num, hx, grow_drawnN _ hg⟩
          case measure => simp [intOf]; omega
        · have h2' : decide (s ≤ he) = false := decide_eq_false h2
          have HE := Lib.hid (best_keep (l := l) (n := hn) (since := he) (k := k) (.inr (by rw [← hs]; omega)))
          have HS := Lib.hid hs
          clear hs
          go_wp2
          go_quiet (fail)
          go_wp2
          go_roundw
          case rel => exact ⟨k + 1, by go_num, by omega, by rw [HE.out], hx, grow_drawnN _ hg⟩
          case measure => simp [intOf]; omega
      · have h1' : decide ((k : Int) + 1 ≤ hn) = false := decide_eq_false h1
        have HE := Lib.hid (best_keep (l := l) (n := hn) (since := he) (k := k) (.inl h1))
        have HS := Lib.hid hs
        clear hs
        go_wp2
        go_quiet (fail)
        go_wp2
        go_roundw
        case rel => exact ⟨k + 1, by go_num, by omega, by rw [HE.out], hx, grow_drawnN _ hg⟩
        case measure => simp [intOf]; omega
    · obtain rfl : k = l.length := by omega
      have hd : decide ((l.length : Int) + 1 ≤ l.length) = false := decide_eq_false (by omega)
      have HE := Lib.hid (best_end l hn he)
      go_wp2
      go_ret
      exact ⟨by show Ending.returned (Value.int .i64 _) = _; rw [HE.out]; rfl, hg⟩
/-- What lies in the two blocks. -/
def HintAt (l : List Int) (after since : Int) (g6 g7 k : Nat) (w0 w : World) : Prop :=
  Blk w g7 108 [.int .i64 (bestN l (after - 1) since k : Nat), .int .i64 (bestE l (after - 1) since k)] ∧ Blk w g6 108 [.int .i64 0, .int .i64 0] ∧ w0.grownBy w none
set_option maxRecDepth 100000 in
set_option maxHeartbeats 1000000 in
theorem refHint_any (v : Value) (l : List Int) (after since : Int) (w : World) (hr : RowAt w v (l.map (Value.int .i64))) (hs : l.length ≤ 1000000) (hb : -9223372036854775808 ≤ after ∧ after ≤ 9223372036854775807) :
    Calls Try.prog 80 #[v, .int .i64 after, .int .i64 since] w fun e w' => e = .returned (.agg #[.int .i64 (hintN l after since : Nat), .int .i64 (hintE l after since)]) ∧ w.grownBy w' none := by
  obtain ⟨a, c, rfl⟩ := hr.len
  rw [List.length_map] at hr ⊢
  have hl63 : (l.length : Int) ≤ 1000000 := by omega
  obtain ⟨hb1, hb2⟩ := hb
  have h0 : HintAt l after since w.heap.size (w.heap.size + 1) 0 w ((w.alloc (.cells #[.int .i64 0, .int .i64 0] 108)).alloc (.cells #[.int .i64 0, .int .i64 0] 108)) := by
    refine ⟨?_, (Blk.new w 108 [.int .i64 0, .int .i64 0]).alloc _, grow_none (World.grownBy_alloc _ _ _) (World.grownBy_alloc _ _ _)⟩
    have := Blk.new (w.alloc (.cells #[.int .i64 0, .int .i64 0] 108)) 108 [.int .i64 0, .int .i64 0]
    unfold bestE
    rw [best_zero, if_pos rfl]
    simpa using this
  go_enter Try.func80, Try.ntmps80
  go_wp2
  go_loopw [8] (fun i wr => ∃ k : Nat, i = .int .i64 ((k : Int) + 1) ∧ k ≤ l.length ∧ HintAt l after since w.heap.size (w.heap.size + 1) k w wr) (fun i _ => l.length + 1 - (intOf i).toNat)
  case atStart => exact ⟨0, rfl, Nat.zero_le _, h0⟩
  case round =>
    obtain ⟨k, rfl, hk, hx7, hx6, hg⟩ := hrel
    clear h0
    by_cases hlt : k < l.length
    · obtain ⟨bb, off, rfl, hcell, hbb⟩ := row_int (hr.kept hg) rfl hlt
      have hd : decide ((k : Int) + 1 ≤ l.length) = true := decide_eq_true (by omega)
      have c0 : wr.cell? ⟨w.heap.size + 1, 0, none⟩ = some (.int .i64 (bestN l (after - 1) since k : Nat)) := hx7.cell 0 (by simp)
      have c1 : wr.cell? ⟨w.heap.size + 1, 1, none⟩ = some (.int .i64 (bestE l (after - 1) since k)) := hx7.cell 1 (by simp)
      have f0 := hx7.frozen 0
      have f1 := hx7.frozen 1
      obtain ⟨s, hs⟩ : ∃ s, s = l.getD k 0 := ⟨_, rfl⟩
      rw [← hs] at hcell
      have hk0 : (0 : Int) ≤ k := by omega
      have hk1 : (k : Int) < l.length := by omega
      by_cases h1 : (k : Int) + 1 < after
      · have h1' : decide ((k : Int) + 1 < after) = true := decide_eq_true h1
        by_cases h2 : s ≤ since
        · have h2' : decide (s ≤ since) = true := decide_eq_true h2
          have HE := Lib.hid (best_take (l := l) (n := after - 1) (since := since) (k := k) (by omega) (by rw [← hs]; exact h2))
          have HF := Lib.hid (best_takeE (l := l) (n := after - 1) (since := since) (k := k) (by omega) (by rw [← hs]; exact h2))
          have HS := Lib.hid hs
          clear hs
          go_wp2
          go_roundw
          case rel => exact ⟨k + 1, by go_num, by omega, by rw [HE.out, HF.out, ← HS.out]; exact (hx7.set_ 0 _).set_ 1 _, hx6.kept (row := some (w.heap.size + 1)) (grow_same (grow_set _ _ _) (grow_set _ _ _)) (by intro e; injection e with e; omega), grow_setnew (grow_setnew hg (by simp) _) (by simp) _⟩
          case measure => simp [intOf]; omega
        · have h2' : decide (s ≤ since) = false := decide_eq_false h2
          have HE := Lib.hid (best_keep (l := l) (n := after - 1) (since := since) (k := k) (.inr (by rw [← hs]; omega)))
          have HF := Lib.hid (best_keepE (l := l) (n := after - 1) (since := since) (k := k) (.inr (by rw [← hs]; omega)))
          have HS := Lib.hid hs
          clear hs
          go_wp2
          go_roundw
          case rel => exact ⟨k + 1, by go_num, by omega, by rw [HE.out, HF.out]; exact hx7, hx6, hg⟩
          case measure => simp [intOf]; omega
      · have h1' : decide ((k : Int) + 1 < after) = false := decide_eq_false h1
        have HE := Lib.hid (best_keep (l := l) (n := after - 1) (since := since) (k := k) (.inl (by omega)))
        have HF := Lib.hid (best_keepE (l := l) (n := after - 1) (since := since) (k := k) (.inl (by omega)))
        have HS := Lib.hid hs
        clear hs
        go_wp2
        go_roundw
        case rel => exact ⟨k + 1, by go_num, by omega, by rw [HE.out, HF.out]; exact hx7, hx6, hg⟩
        case measure => simp [intOf]; omega
    · obtain rfl : k = l.length := by omega
      have hd : decide ((l.length : Int) + 1 ≤ l.length) = false := decide_eq_false (by omega)
      have c0 : wr.cell? ⟨w.heap.size + 1, 0, none⟩ = some (.int .i64 (bestN l (after - 1) since l.length : Nat)) := hx7.cell 0 (by simp)
      have c1 : wr.cell? ⟨w.heap.size + 1, 1, none⟩ = some (.int .i64 (bestE l (after - 1) since l.length)) := hx7.cell 1 (by simp)
      have d0 : wr.cell? ⟨w.heap.size, 0, none⟩ = some (.int .i64 0) := hx6.cell 0 (by simp)
      have d1 : wr.cell? ⟨w.heap.size, 1, none⟩ = some (.int .i64 0) := hx6.cell 1 (by simp)
      have f0 := hx6.frozen 0
      have f1 := hx6.frozen 1
      have HE := Lib.hid (best_end l (after - 1) since)
      obtain ⟨N, hN⟩ : ∃ N, N = bestN l (after - 1) since l.length := ⟨_, rfl⟩
      obtain ⟨E, hE⟩ : ∃ E, E = bestE l (after - 1) since l.length := ⟨_, rfl⟩
      rw [← hN] at c0
      rw [← hE] at c1
      have HN : Hid (hintN l after since = N) := by show _ = _; rw [hN, HE.out]; rfl
      have HEE : Hid (hintE l after since = E) := by show _ = _; rw [hE]; unfold hintE bestE; rw [HE.out]; rfl
      clear hN hE hx7
      have e0 : (wr.setCell ⟨w.heap.size, 0, none⟩ (.int .i64 (N : Int))).cell? ⟨w.heap.size, 0, none⟩ = some (.int .i64 (N : Int)) := (hx6.set_ 0 (.int .i64 (N : Int))).cell 0 (by simp)
      have e1 : ((wr.setCell ⟨w.heap.size, 0, none⟩ (.int .i64 (N : Int))).setCell ⟨w.heap.size, 1, none⟩ (.int .i64 E)).cell? ⟨w.heap.size, 1, none⟩ = some (.int .i64 E) := ((hx6.set_ 0 (.int .i64 (N : Int))).set_ 1 (.int .i64 E)).cell 1 (by simp)
      go_wp2
      refine bodyPost_ret (v := .agg #[.int .i64 (N : Nat), .int .i64 E]) (by simp [results, Try.results80, go_sem, e0, e1]) rfl ⟨by rw [HN.out, HEE.out], ?_⟩
      exact grow_setnew (grow_setnew hg (by simp) _) (by simp) _
end Go.Proofs.Ytkmpcncehicpmaa
