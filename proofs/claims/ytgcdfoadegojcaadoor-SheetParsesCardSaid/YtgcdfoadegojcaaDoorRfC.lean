/- What the document's answer for layer 1 is: Texts. -/
import Derived.Test.YtgcdfoadegojcaaDoorRfA
import Derived.Test.YtgcdfoadegojcaaDoorPkD
namespace Go.Proofs.YtgcdfoadegojcaaDoor
open Go.RowKit
set_option linter.unusedVariables false
set_option maxRecDepth 100000 in
set_option maxHeartbeats 400000 in
theorem refTexts_any (v : Value) (l : List ByteArray) (w : World) (hr : RowAt w v (l.map strv)) (hlen : roomB l ≤ 1000000000000) :
    Calls Tryd.prog 57 #[v] w fun e w' => e = .returned (.string ⟨(textsB l).toArray⟩) ∧ w.grownBy w' none := by
  obtain ⟨i0, hi, hz0, hz1, hz2⟩ := info_parts Tryd.info5
  obtain ⟨a, cap, rfl, hcells⟩ := hr
  rw [List.length_map] at hcells ⊢
  have hll : l.length ≤ roomB l := by
    clear hcells hlen
    induction l with
    | nil => simp
    | cons s l ih => simp [roomB] at *; omega
  have hl2 : l.length ≤ 1000000000000 := by omega
  clear hll
  go_enter Tryd.func57, Tryd.ntmps57
  go_wp2
  go_loopw [3, 4] (fun out i wr => ∃ k : Nat, k ≤ l.length ∧ i = .int .i64 k ∧ wr.ownsRow 0 5 1 out (textsB (l.take k)).length ((textsB (l.take k)).map c8) ∧ w.grownBy wr none ∧ NewBlk w out) (fun _ i _ => l.length - (intOf i).toNat)
  case atStart => exact ⟨0, Nat.zero_le _, rfl, by simpa [textsB] using own_empty w 5 1, World.grownBy_alloc _ _ _, newblk_at _ _ _ _ (Nat.le_refl _) _⟩
  case round =>
    obtain ⟨k, hk, rfl, ho, hg, hn⟩ := hrel
    by_cases hlt : k < l.length
    · have hrk := roomB_take l (k+1)
      rw [List.take_succ_eq_append_getElem hlt, roomB_snoc] at hrk
      have hl1 := textsB_len (l.take k) (by omega)
      rcases hcells with h0 | ⟨b, off, rfl, hb, hc⟩
      · have : l = [] := by simpa using h0
        subst this; simp at hlt
      have hcell : wr.cell? ⟨b, off + k, none⟩ = some (.string (l[k])) := by
        rw [World.cell?_of_block (hg.block b hb (by simp)), hc k hlt]; simp [strv, List.getElem?_eq_getElem hlt]
      have HT : Hid (l.take (k+1) = l.take k ++ [l[k]]) := by rw [List.take_succ_eq_append_getElem hlt]; trivial
      have hwk : -9223372036854775808 ≤ (l[k].size : Int) ∧ (l[k].size : Int) ≤ 9223372036854775807 := by omega
      have hL := numB_len hwk
      clear hc
      go_wp2_with fail
      refine (refNum_any _ _ hwk).mono ?_
      rintro e w2 ⟨rfl, g2⟩
      have o2 := own_keep ho g2
      have es : (⟨(numB (l[k].size : Int)).toArray⟩ : ByteArray).size = (numB (l[k].size : Int)).length := str_size _
      have ES := Lib.hid es
      clear es
      go_wp2_with (at_builtin; refine wpList_append_str _ rfl _ _ 52 9 rfl 5 i0 Tryd.underlying52 Tryd.underlying9 hi hz0 hz1 hz2 _ _ _ rfl o2 _ rfl (by show _ ≤ 2^63-1; rw [ES.out]; omega) (by rw [ES.out]; omega) ?_)
      intro v3 w3 ho3 hg3 hm3
      have G3 := grow_newblk (grow_none hg g2) hn hg3
      have n3 := hn.moved (Nat.le_trans hg.size g2.size) hm3
      have c3 : w3.cell? ⟨b, off + k, none⟩ = some (.string (l[k])) := (World.cell?_of_block (w := wr) (by rw [G3.block b hb (by simp), hg.block b hb (by simp)])).trans hcell
      rw [← List.map_append] at ho3
      go_wp2_with (at_builtin; refine wpList_append_str _ rfl _ _ 52 9 rfl 5 i0 Tryd.underlying52 Tryd.underlying9 hi hz0 hz1 hz2 _ _ _ rfl ho3 _ rfl (by show _ ≤ 2^63-1; omega) (by omega) ?_)
      intro v4 w4 ho4 hg4 hm4
      go_wp2
      go_roundw
      case rel =>
        refine ⟨k + 1, by omega, by go_num, ?_, grow_newblk G3 n3 hg4, n3.moved G3.size hm4⟩
        rw [HT.out, textsB_snoc, ← List.append_assoc]
        simpa [size_toList, Nat.add_assoc] using ho4
      case measure => simp [intOf]; omega
    · obtain rfl : k = l.length := by omega
      clear hcells
      have hconv := run_str_buf (P := Tryd.prog) wr Tryd.underlying52 Tryd.underlying5 Tryd.underlying9 ho
      go_wp2
      go_ret
      exact ⟨rfl, hg⟩
end Go.Proofs.YtgcdfoadegojcaaDoor
