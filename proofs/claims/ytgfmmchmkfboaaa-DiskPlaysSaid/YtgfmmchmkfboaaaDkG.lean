/- Stage 5: the names of all files, rising. -/
import Derived.Test.YtgfmmchmkfboaaaDkE
import Derived.Test.YtgfmmchmkfboaaaShelf
import Derived.Maps.RangeWalk
import Derived.Sort.KeysCollected
import Derived.Sort.OwnSorted
namespace Go.Proofs.Ytgfmmchmkfboaaa
open Go.RowKit Go.Maps Go.Sort
set_option linter.unusedVariables false
theorem Try.info05_string : (Try.prog.info? 9).map (fun i => (i.zero, i.size, i.bytes)) = some (some (.string ⟨#[]⟩), 1, 16) := by kernel_rfl
theorem Rp_inv' {v : Value} {y : DataW Unit × List MemPlace} (h : Rp v = some y) : ∃ c, v = Pp c := by
  unfold Rp at h
  split at h
  · exact ⟨some _, rfl⟩
  · exact ⟨none, rfl⟩
  · cases h
/-- The names, rising. -/
def Names (G : ByteArray → Option Nat) (ts : List (List UInt8)) : Prop := ∃ ss : List (List UInt8), ss.Nodup ∧ (∀ x, x ∈ ss ↔ (G ⟨x.toArray⟩).isSome = true) ∧ (∀ x ∈ ss, x.length ≤ maxLen) ∧ ts = ss.mergeSort leB
section
variable {G : ByteArray → Option Nat} {ts : List (List UInt8)}
theorem Names.nodup (h : Names G ts) : ts.Nodup := by
  obtain ⟨ss, h1, _, _, rfl⟩ := h
  exact (List.mergeSort_perm ss leB).nodup_iff.2 h1
theorem Names.mem (h : Names G ts) (x : List UInt8) : x ∈ ts ↔ (G ⟨x.toArray⟩).isSome = true := by
  obtain ⟨ss, _, h2, _, rfl⟩ := h
  rw [(List.mergeSort_perm ss leB).mem_iff]; exact h2 x
theorem Names.le (h : Names G ts) : ∀ x ∈ ts, x.length ≤ maxLen := by
  obtain ⟨ss, _, _, h3, rfl⟩ := h
  exact fun x hx => h3 x ((List.mergeSort_perm ss leB).mem_iff.1 hx)
end
set_option maxRecDepth 100000 in
set_option maxHeartbeats 1000000 in
theorem all_any (b mb n : Nat) (G : ByteArray → Option Nat) (d : Dk) (w : World) (h : DAt w b mb n G d) :
    Calls Try.prog 37 #[.pointer (some ⟨b, 0, none⟩)] w fun e w' => ∃ v ts, e = .returned v ∧ Names G ts ∧ ts.length ≤ n ∧ w'.ownsRow w.heap.size 9 1 v ts.length (ts.map encStr) ∧ w.grownBy w' none := by
  obtain ⟨i0, hi, hz0, hz1, hz2⟩ := info_parts Try.info05_string
  have c0 := h.c0
  have hn := h.n1
  have H := Lib.hid h
  obtain ⟨D0, hown, hD1, hD2⟩ := h.map
  have HD2 := Lib.hid hD2
  have hsz := hown.size_le
  have hmx : Maps.size D0 ≤ 1000000 := Nat.le_trans hsz hn
  have HM := Lib.hid hmx
  have HS := Lib.hid hsz
  have hbl := hown.lt
  have HBL := Lib.hid hbl
  clear h hD1 hD2 hn hsz hmx hbl
  go_enter Try.func37, Try.ntmps37
  go_wp2_with (first
    | (at_len; refine wpList_len_own _ rfl _ 55 rfl 9 67 Try.underlying55 Rp mb n _ rfl hown ?_)
    | (at_make; refine wpList_make_own _ rfl _ _ 38 rfl w.heap.size 9 i0 (.string ⟨#[]⟩) 1 Try.underlying38 hi hz0 hz1 _ _ _ (Maps.size D0) rfl rfl rfl (by have := HM.out; rw [hz2]; omega) (by have := HM.out; show _ ≤ 2^63-1; omega) (Nat.le_refl _) ?_
       intro w1 hrow1 hg1
       have HG1 := Lib.hid hg1
       have HRow1 := Lib.hid hrow1
       have c0 := (H.out.keep HG1.out).c0
       clear hg1 hrow1)
    | (at_range; refine wpList_range_own _ rfl _ 55 rfl 9 67 strKeyed Try.underlying55 Rp mb n _ rfl (hown.kept HG1.out (by simp)) ?_; intro w0 hrg0 hg0 hs0))
  clear hs0
  go_frame
  go_loopw [3] (fun v wr => ∃ (left : Lit → Bool) (cnt : Nat) (ss : List (List UInt8)), wr.ranges Try.prog 9 Rp mb w1.heap.size n D0 left cnt ∧ ss.length + cnt ≤ Maps.size D0 ∧
      wr.ownsRow w.heap.size 9 1 v ss.length (ss.map encStr) ∧ v ≠ .slice none 0 0 ∧ Collected D0 left ss ∧ w.grownBy wr none)
    (fun _ wr => wr.rangeLeft mb w1.heap.size)
  case atStart =>
    exact ⟨_, _, [], hrg0, by simp, HRow1.out.kept hg0 (Or.inr (by simp [Value.ownBlock])), by simp, Collected.start D0, grow_none HG1.out hg0⟩
  case round =>
    obtain ⟨left, cnt, ss, hrg, hcs, hrow, hnn, hC, hnx⟩ := hrel
    have HRG := Lib.hid hrg
    have HC := Lib.hid hC
    have HNX := Lib.hid hnx
    have HROW := Lib.hid hrow
    have HCS := Lib.hid hcs
    clear hC hnx hcs
    go_wp2_with (at_next; refine wpList_next_ranges _ rfl _ rfl 9 strKeyed Rp encStr Pp (fun key kl hk => by obtain ⟨x, hx, _⟩ := Maps.keyOf_str Try.underlying9 hk; exact ⟨x, hx⟩) (fun v y hv => Rp_inv' hv) mb w1.heap.size n _ _ _ rfl hrg ?_ ?_)
    · intro hc0 hl0
      rcases HROW.out.2 with ⟨hnil, _⟩ | ⟨g, cap, cur, rfl, hbase, hb, h1, h2, h3, h4⟩
      · exact absurd hnil hnn
      have hH : Holds encStr wr g 0 ss.toArray := holds_of_block hb (by simpa using h4)
      have hgl : g < wr.heap.size := (Array.getElem?_eq_some_iff.1 hb).1
      have HF : Hid (Names G (ss.mergeSort leB) ∧ (ss.mergeSort leB).length = ss.length) := by
        refine ⟨⟨ss, HC.out.1, fun x => ?_, fun x hx => strKeys_le HRG.out.owns Try.underlying9 x ((HC.out.perm HRG.out.owns strKeyed Try.underlying9 hl0).mem_iff.1 hx), rfl⟩, List.length_mergeSort _⟩
        rw [HC.out.2 x, hl0, ← HD2.out ⟨x.toArray⟩]
        simp
      have HL : Hid (ss.length ≤ n ∧ w.heap.size ≤ g) := ⟨by have := HS.out; have := HCS.out; omega, hbase⟩
      have SO := Lib.hid (Try.slices_Sort_string g 0 cap ss wr hH hgl (by have := HCS.out; have := HM.out; omega))
      have HB := Lib.hid (show _ ∧ _ ∧ _ ∧ _ from ⟨hb, h1, h2, h3⟩)
      clear hH hgl hb h1 h2 h3 h4 hbase hrow HRG hrg hl0 hc0
      go_wp2_with fail
      refine SO.out.mono ?_
      rintro e w' ⟨rfl, nn, os, rfl⟩
      go_wp2
      go_ret
      refine ⟨_, ss.mergeSort leB, rfl, HF.out.1, by rw [HF.out.2]; exact HL.out.1, ?_, grow_new HNX.out HL.out.2 (grownBy_sorted _)⟩
      rw [HF.out.2]
      exact ownsRow_sorted HF.out.2 HL.out.2 HB.out.1 HB.out.2.1 HB.out.2.2.1 HB.out.2.2.2
    · intro x c kl yd yp w2 cnt2 hkey hlk hv hat hrg2 hlt hg2 hs2 hen
      obtain ⟨x', ex, rfl, _⟩ := Maps.keyOf_str Try.underlying9 hkey
      obtain rfl : x = x' := encStr_inj ex
      have hrow2 := HROW.out.kept hg2 (Or.inr (row_ne_iter HROW.out HRG.out).symm)
      have HR2 := Lib.hid hrow2
      have HRG2 := Lib.hid hrg2
      have HG2 := Lib.hid hg2
      have HLT := Lib.hid hlt
      have HAT := Lib.hid (show _ ∧ _ from ⟨hlk, hat⟩)
      clear hs2 hrow hrow2 hrg2 hg2 hlt hlk hat hrg hkey hv
      go_wp2_with (at_builtin; refine wpList_append_own _ rfl _ _ 38 rfl w.heap.size 9 i0 (.string ⟨#[]⟩) 1 16 Try.underlying38 hi hz0 hz1 hz2 rfl (by decide) _ _ _ rfl (HR2.out.alloc _) ⟨w2.heap.size, 0, none⟩ 1 1 [encStr x] rfl rfl (cell_one_new _ _ _) (by simp [Value.oneCell', encStr]) (by have := HCS.out; have := HM.out; have := HLT.out; unfold maxLen; omega) (by have := HCS.out; have := HM.out; have := HLT.out; omega) (by have := HNX.out.size; have := HG2.out.size; simp; omega) ?_
                   intro v' w3 hown' hg3 hnil3)
      have hrg3 := (HRG2.out.alloc _).kept hg3 (row_ne_low HR2.out HBL.out) (row_ne_iter HR2.out HRG2.out)
      have HRG3 := Lib.hid hrg3
      have HO := Lib.hid hown'
      have HN := Lib.hid hnil3
      have HGF : Hid (w.grownBy w3 none) := grow_newblk (grow_then_none (grow_new HNX.out (by exact HG1.out.size) HG2.out) (World.grownBy_alloc _ _ none)) (fun j hj => (HR2.out.lt j hj).1) hg3
      clear hrg3 hown' hnil3 hg3
      go_roundw
      case rel =>
        refine ⟨_, cnt2, ss ++ [x], HRG3.out, by have := HCS.out; have := HLT.out; simp; omega, by simpa using HO.out, fun hv' => by have := (HN.out.1 hv').2; omega, HC.out.step HAT.out.1 HAT.out.2, HGF.out⟩
      case measure => rw [HRG3.out.left_eq, HRG.out.left_eq]; exact HLT.out
end Go.Proofs.Ytgfmmchmkfboaaa
