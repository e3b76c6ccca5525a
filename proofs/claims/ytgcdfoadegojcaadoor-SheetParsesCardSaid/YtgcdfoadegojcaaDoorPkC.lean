/- What the package pack's Nums does. -/
import Derived.Test.YtgcdfoadegojcaaDoorPkB
namespace Go.Proofs.YtgcdfoadegojcaaDoor
open Go.RowKit
set_option linter.unusedVariables false
def i64v (n : Int) : Value := .int .i64 n
/-- The bytes of numbers. -/
def numsB (l : List Int) : List UInt8 := l.flatMap numB
theorem numsB_snoc (l : List Int) (n : Int) : numsB (l ++ [n]) = numsB l ++ numB n := by simp [numsB]
theorem numsB_len (l : List Int) (hw : ∀ n ∈ l, -9223372036854775808 ≤ n ∧ n ≤ 9223372036854775807) : (numsB l).length ≤ 10 * l.length := by
  induction l with
  | nil => simp [numsB]
  | cons n l ih =>
    have h1 := numB_len (hw n (by simp))
    have h2 := ih (fun m hm => hw m (by simp [hm]))
    simp only [numsB, List.flatMap_cons, List.length_append, List.length_cons] at *
    omega
set_option maxRecDepth 100000 in
set_option maxHeartbeats 400000 in
theorem Nums_any (v : Value) (l : List Int) (w : World) (hr : RowAt w v (l.map i64v)) (hw : ∀ n ∈ l, -9223372036854775808 ≤ n ∧ n ≤ 9223372036854775807) (hlen : l.length ≤ 1000000000000) :
    Calls Tryd.prog 54 #[v] w fun e w' => e = .returned (.string ⟨(numsB l).toArray⟩) ∧ w.grownBy w' none := by
  obtain ⟨i0, hi, hz0, hz1, hz2⟩ := info_parts Tryd.info5
  obtain ⟨a, cap, rfl, hcells⟩ := hr
  rw [List.length_map] at hcells ⊢
  go_enter Tryd.func54, Tryd.ntmps54
  go_wp2_with (at_make; refine wpList_make_own _ rfl _ _ 52 rfl 0 5 i0 (.int .u8 0) 1 Tryd.underlying52 hi hz0 hz1 _ _ _ (2 * l.length) rfl rfl (by omega) (by rw [hz2]; omega) (by show _ ≤ 2^63-1; omega) (Nat.zero_le _) ?_)
  intro w1 ho1 hg1
  go_wp2
  go_loopw [3, 12] (fun out i wr => ∃ k : Nat, k ≤ l.length ∧ i = .int .i64 k ∧ wr.ownsRow 0 5 1 out (numsB (l.take k)).length ((numsB (l.take k)).map c8) ∧ w.grownBy wr none ∧ NewBlk w out) (fun _ i _ => l.length - (intOf i).toNat)
  case atStart => exact ⟨0, Nat.zero_le _, rfl, by simpa [numsB] using ho1, hg1, newblk_at _ _ _ _ (Nat.le_refl _) _⟩
  case round =>
    obtain ⟨k, hk, rfl, ho, hg, hn⟩ := hrel
    by_cases hlt : k < l.length
    · have hl1 := numsB_len (l.take k) (fun m hm => hw m (List.mem_of_mem_take hm))
      have hl2 : (l.take k).length ≤ k := List.length_take_le _ _
      rcases hcells with h0 | ⟨b, off, rfl, hb, hc⟩
      · have : l = [] := by simpa using h0
        subst this; simp at hlt
      have hcell : wr.cell? ⟨b, off + k, none⟩ = some (.int .i64 (l[k])) := by
        rw [World.cell?_of_block (hg.block b hb (by simp)), hc k hlt]; simp [i64v, List.getElem?_eq_getElem hlt]
      have hwk := hw l[k] (List.getElem_mem hlt)
      have HT : Hid (l.take (k+1) = l.take k ++ [l[k]]) := by rw [List.take_succ_eq_append_getElem hlt]; trivial
      clear hc
      go_wp2_with (go_at_call 72; refine (putNum_any _ _ _ _ _ ho (by omega) hwk).mono ?_; rintro e w2 ⟨v2, rfl, ho2, hg2, hm2⟩)
      go_roundw
      case rel => exact ⟨k + 1, by omega, by go_num, by rw [HT.out, numsB_snoc, List.length_append]; exact ho2, grow_newblk hg hn hg2, hn.moved hg.size hm2⟩
      case measure => simp [intOf]; omega
    · obtain rfl : k = l.length := by omega
      clear hcells
      have hconv := run_str_buf (P := Tryd.prog) wr Tryd.underlying52 Tryd.underlying5 Tryd.underlying9 ho
      go_wp2
      go_ret
      exact ⟨rfl, hg⟩
end Go.Proofs.YtgcdfoadegojcaaDoor
