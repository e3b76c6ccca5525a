/- What the document's answer for layer 1 is: Nums. -/
import Derived.Test.YtpoffplnkmmmkaaRfA
import Derived.Test.YtpoffplnkmmmkaaPkC
namespace Go.Proofs.Ytpoffplnkmmmkaa
open Go.RowKit
set_option linter.unusedVariables false
set_option maxRecDepth 100000 in
set_option maxHeartbeats 400000 in
theorem refNums_any (v : Value) (l : List Int) (w : World) (hr : RowAt w v (l.map i64v)) (hw : ∀ n ∈ l, -9223372036854775808 ≤ n ∧ n ≤ 9223372036854775807) (hlen : l.length ≤ 1000000000000) :
    Calls Try.prog 13 #[v] w fun e w' => e = .returned (.string ⟨(numsB l).toArray⟩) ∧ w.grownBy w' none := by
  obtain ⟨i0, hi, hz0, hz1, hz2⟩ := info_parts Try.info5
  obtain ⟨a, cap, rfl, hcells⟩ := hr
  rw [List.length_map] at hcells ⊢
  go_enter Try.func13, Try.ntmps13
  go_wp2
  go_loopw [3, 4] (fun out i wr => ∃ k : Nat, k ≤ l.length ∧ i = .int .i64 k ∧ wr.ownsRow 0 5 1 out (numsB (l.take k)).length ((numsB (l.take k)).map c8) ∧ w.grownBy wr none ∧ NewBlk w out) (fun _ i _ => l.length - (intOf i).toNat)
  case atStart => exact ⟨0, Nat.zero_le _, rfl, by simpa [numsB] using own_empty w 5 1, World.grownBy_alloc _ _ _, newblk_at _ _ _ _ (Nat.le_refl _) _⟩
  case round =>
    obtain ⟨k, hk, rfl, ho, hg, hn⟩ := hrel
    by_cases hlt : k < l.length
    · have hl1 := numsB_len (l.take k) (fun m hm => hw m (List.mem_of_mem_take hm))
      have hl2 : (l.take k).length ≤ k := List.length_take_le _ _
      rcases hcells with h0 | ⟨b, off, rfl, hb, hc⟩
      · have : l = [] := by simpa using h0
        subst this; simp at hlt
      have hcell : wr.cell? ⟨b, off + k, none⟩ = some (.int .i64 (l[k])) := by
        rw [World.cell?_of_block (hg.block b hb (by simp)), hc k hlt]; simp [i64v, List.getElem?_eq_getElem hlt]
      have hwk := hw l[k] (List.getElem_mem hlt)
      have HT : Hid (l.take (k+1) = l.take k ++ [l[k]]) := by rw [List.take_succ_eq_append_getElem hlt]; trivial
      have hL := numB_len hwk
      clear hc
      go_wp2_with fail
      refine (refNum_any _ _ hwk).mono ?_
      rintro e w2 ⟨rfl, g2⟩
      have o2 := own_keep ho g2
      go_wp2_with (at_builtin; refine wpList_append_str _ rfl _ _ 31 9 rfl 5 i0 Try.underlying31 Try.underlying9 hi hz0 hz1 hz2 _ _ _ rfl o2 _ rfl (by show _ ≤ 2^63-1; simp only [ByteArray.size, List.size_toArray]; omega) (by simp only [ByteArray.size, List.size_toArray]; omega) ?_)
      intro v3 w3 ho3 hg3 hm3
      go_wp2
      go_roundw
      case rel =>
        refine ⟨k + 1, by omega, by go_num, ?_, grow_newblk (grow_none hg g2) hn hg3, hn.moved (Nat.le_trans hg.size g2.size) hm3⟩
        rw [HT.out, numsB_snoc, List.length_append]
        simpa [ByteArray.size] using ho3
      case measure => simp [intOf]; omega
    · obtain rfl : k = l.length := by omega
      clear hcells
      have hconv := run_str_buf (P := Try.prog) wr Try.underlying31 Try.underlying5 Try.underlying9 ho
      go_wp2
      go_ret
      exact ⟨rfl, hg⟩
end Go.Proofs.Ytpoffplnkmmmkaa
