/- The document's answers: Cut, Join; what the statements ask first: many. -/
import Derived.Test.YtkmpcncehicpmaaCvD
import Derived.Test.YtkmpcncehicpmaaRelT
namespace Go.Proofs.Ytkmpcncehicpmaa
open Go.RowKit
set_option linter.unusedVariables false
def chT (l : List UInt8) (j m : Nat) : ByteArray := ⟨((l.drop (64 * j)).take m).toArray⟩
/-- The chunks of the first i bytes. -/
def chP (l : List UInt8) (i : Nat) : List ByteArray := (List.range (cntN i)).map fun j => chT l j (min 64 (i - 64 * j))
theorem chP_len (l : List UInt8) (i : Nat) : (chP l i).length = cntN i := by unfold chP; simp
theorem chP_get (l : List UInt8) (i j : Nat) (hj : j < cntN i) : (chP l i).getD j ⟨#[]⟩ = chT l j (min 64 (i - 64 * j)) := by
  unfold chP
  simp [List.getD, hj]
theorem chP_all (l : List UInt8) : chP l l.length = chunks l := by
  unfold chP chunks
  refine List.map_congr_left fun j hj => ?_
  unfold chT chS
  congr 1
  rw [List.mem_range] at hj
  congr 1
  apply List.take_eq_take_iff.2
  rw [List.length_drop]; omega
theorem take_one (l : List UInt8) (i : Nat) (hi : i < l.length) : (l.drop i).take 1 = [l.getD i 0] := by
  have h := List.drop_eq_getElem_cons hi
  obtain ⟨m, hm⟩ : ∃ m, m = l.drop i := ⟨_, rfl⟩
  rw [← hm] at h ⊢
  rw [h, List.getD, List.getElem?_eq_getElem hi]
  rfl
theorem chP_new (l : List UInt8) (i : Nat) (hi : i < l.length) (h : i % 64 = 0) : chP l (i + 1) = chP l i ++ [⟨#[l.getD i 0]⟩] := by
  unfold chP
  have e1 : cntN (i + 1) = cntN i + 1 := by unfold cntN; omega
  rw [e1, List.range_succ, List.map_append]
  congr 1
  · refine List.map_congr_left fun j hj => ?_
    rw [List.mem_range] at hj
    unfold cntN at hj
    rw [show min 64 (i + 1 - 64 * j) = min 64 (i - 64 * j) by omega]
  · simp only [List.map_cons, List.map_nil]
    congr 1
    have e2 : cntN i * 64 = i := by unfold cntN; omega
    unfold chT
    congr 1
    rw [show 64 * cntN i = i by omega, show min 64 (i + 1 - i) = 1 by omega, take_one l i hi]
theorem chT_size (l : List UInt8) (j m : Nat) : (chT l j m).size ≤ m := by
  unfold chT
  show (List.take m (List.drop (64 * j) l)).toArray.size ≤ m
  rw [List.size_toArray]
  exact List.length_take_le _ _
theorem chT_more (l : List UInt8) (i : Nat) (hi : i < l.length) :
    chT l (i / 64) (min 64 (i - 64 * (i / 64)) + 1) = ⟨(chT l (i / 64) (min 64 (i - 64 * (i / 64)))).data ++ #[l.getD i 0]⟩ := by
  apply ByteArray.ext
  apply Array.ext'
  unfold chT
  have hlt : min 64 (i - 64 * (i / 64)) < (l.drop (64 * (i / 64))).length := by rw [List.length_drop]; omega
  rw [Array.toList_append]
  simp only []
  rw [List.take_succ_eq_append_getElem hlt, List.getElem_drop]
  have e2 : 64 * (i / 64) + min 64 (i - 64 * (i / 64)) = i := by omega
  congr 1
  rw [List.getD, List.getElem?_eq_getElem hi]
  simp only [e2, Option.getD_some]
theorem chP_at (l : List UInt8) (i j : Nat) : (chP l i)[j]? = if j < cntN i then some (chT l j (min 64 (i - 64 * j))) else none := by
  unfold chP
  rw [List.getElem?_map]
  split
  · rename_i h; rw [List.getElem?_range h]; rfl
  · rename_i h; rw [List.getElem?_eq_none (by simpa using h)]; rfl
theorem chP_more (l : List UInt8) (i : Nat) (hi : i < l.length) (h : i % 64 ≠ 0) :
    chP l (i + 1) = (chP l i).set (i / 64) ⟨((chP l i).getD (i / 64) ⟨#[]⟩).data ++ #[l.getD i 0]⟩ := by
  have hm : i / 64 < cntN i := by unfold cntN; omega
  have e1 : cntN (i + 1) = cntN i := by unfold cntN; omega
  apply List.ext_getElem?
  intro j
  rw [List.getElem?_set, chP_at, chP_at, e1]
  by_cases e : i / 64 = j
  · subst e
    rw [if_pos rfl, if_pos hm, if_pos (by rw [chP_len]; exact hm), chP_get l i _ hm, ← chT_more l i hi]
    rw [show min 64 (i + 1 - 64 * (i / 64)) = min 64 (i - 64 * (i / 64)) + 1 by omega]
  · rw [if_neg e]
    split
    · rename_i h1
      unfold cntN at h1
      rw [show min 64 (i + 1 - 64 * j) = min 64 (i - 64 * j) by omega]
    · rfl
theorem own_at {w : World} {e : TypeId} {n : Nat} {v : Value} {xs : List Value} (h : w.ownsRow 0 e 1 v n xs) {j : Nat} (hj : j < n) :
    ∃ g cap, v = .slice (some ⟨g, 0, none⟩) n cap ∧ w.cell? ⟨g, j, none⟩ = some (xs.getD j undef) ∧ w.frozen? ⟨g, j, none⟩ = false ∧ n ≤ cap := by
  have hl := h.1
  rcases h.2 with ⟨rfl, hn⟩ | ⟨g, cap, cur, rfl, _, hh, h1, h2, h3, h4⟩
  · omega
  · refine ⟨g, cap, rfl, ?_, by simp [World.frozen?, hh], h1⟩
    have := h.cells (g := g) rfl j (xs.getD j undef) (by rw [List.getD, List.getElem?_eq_getElem (by omega)]; rfl)
    have e : (⟨g, 0, none⟩ : Addr).add j = ⟨g, j, none⟩ := by unfold Addr.add; split <;> simp_all
    rw [e] at this; exact this
theorem one_byte (s : ByteArray) (i : Nat) (hi : i < s.size) : s.extract i (i + 1) = ⟨#[s.data.toList.getD i 0]⟩ := by
  apply ByteArray.ext
  apply Array.ext'
  have hl : i < s.data.toList.length := by rw [Array.length_toList]; exact hi
  simp
  have := take_one s.data.toList i hl
  rw [List.getD] at this
  simpa [List.take_drop, Nat.add_comm] using this
theorem wrapI {x : Int} (h1 : -9223372036854775808 ≤ x) (h2 : x ≤ 9223372036854775807) : IntKind.i64.wrap x = x := by
  rw [IntKind.wrap_i64]; omega
theorem set_last (l : List ByteArray) (M : Nat) (h : l.length = M) (a b : Value) : (l.map Value.string ++ [a]).set M b = l.map Value.string ++ [b] := by
  have h2 : (l.map Value.string).length = M := by rw [List.length_map, h]
  generalize l.map Value.string = m at h2
  subst h2
  simp
def refCutAt (s : ByteArray) (w0 : World) (i : Nat) (v : Value) (w : World) : Prop :=
  w.ownsRow 0 9 1 v (cntN i) ((chP s.data.toList i).map Value.string) ∧ NewBlk w0 v ∧ w0.grownBy w none
set_option maxRecDepth 100000 in
set_option maxHeartbeats 1000000 in
theorem refCut_any (s : ByteArray) (w : World) (hs : s.size ≤ 1000000) :
    Calls Try.prog 58 #[.string s] w (TextsAt w (chunks s.data.toList)) := by
  obtain ⟨i0, hi, hz0, hz1, hz2⟩ := info_parts Try.info07_string
  have hsi : (s.size : Int) ≤ 1000000 := by omega
  have hln : s.data.toList.length = s.size := by rw [Array.length_toList]; rfl
  have HLN := Lib.hid hln
  have t0 : refCutAt s w 0 (.slice none 0 0) w := ⟨World.ownsRow_nil _ _ _ _, newblk_nil _, grow_refl _ _⟩
  clear hln
  go_enter Try.func58, Try.ntmps58
  go_wp2
  go_loopw [4, 3] (fun q v wr => ∃ i : Nat, q = .int .i64 i ∧ i ≤ s.size ∧ refCutAt s w i v wr) (fun q _ _ => s.size - (intOf q).toNat)
  case atStart => exact ⟨0, rfl, Nat.zero_le _, t0⟩
  case round =>
    obtain ⟨i, rfl, hi2, ho, hn, hg⟩ := hrel
    clear t0
    by_cases hlt : i < s.size
    · have hii : (i : Int) < s.size := by omega
      have hi0 : (0 : Int) ≤ i := by omega
      have hb1 := one_byte s i hlt
      obtain ⟨x, hx⟩ : ∃ x, x = s.data.toList.getD i 0 := ⟨_, rfl⟩
      rw [← hx] at hb1
      have HX := Lib.hid hx
      clear hx
      have hcn : cntN i ≤ 20000 := by unfold cntN; omega
      by_cases hm : i % 64 = 0
      · have hmi : ((i : Int) % 64 == 0) = true := by rw [beq_iff_eq]; omega
        have HP := Lib.hid (chP_new s.data.toList i (by rw [HLN.out]; exact hlt) hm)
        go_wp2_with (at_builtin; refine wpList_append_row _ rfl _ _ 38 rfl 9 i0 (.string ⟨#[]⟩) 16 Try.underlying38 hi hz0 hz1 hz2 rfl _ _ _ rfl (ho.alloc _) _ [Value.string ⟨#[]⟩] rfl (RowAt.lit wr [Value.string ⟨#[]⟩] _ _ _ rfl) (ones_str [⟨#[]⟩]) (by show cntN i + 1 ≤ 2^63-1; omega) (by show (cntN i + 1) * 16 ≤ _; omega) ?_)
        intro v3 w3 o3 g3 mv3
        have X3 := grow_newblk (grow_none hg (World.grownBy_alloc wr (.cells #[Value.string ⟨#[]⟩] 9) none)) hn g3
        have N3 := hn.moved (grow_none hg (World.grownBy_alloc wr (.cells #[Value.string ⟨#[]⟩] 9) none)).size mv3
        obtain ⟨M, hM⟩ : ∃ M, M = cntN i := ⟨_, rfl⟩
        have hM2 : cntN (i + 1) = M + 1 := by rw [hM]; unfold cntN; omega
        have hM3 : (M : Int) ≤ 20000 := by omega
        have hw1 : IntKind.i64.wrap (M : Int) = M := wrapI (by omega) (by omega)
        have hw2 : IntKind.i64.wrap ((i : Int) + 1) = (i : Int) + 1 := wrapI (by omega) (by omega)
        have hw3 : ((i : Int) + 1).toNat = i + 1 := by omega
        have hw4 : (i : Int) + 1 ≤ s.size := by omega
        have hw6 : (M : Int) < (M : Int) + 1 := by omega
        have hw7 : (0 : Int) ≤ M := by omega
        have hw8 : (M : Int) < ((M + 1 : Nat) : Int) := by omega
        have hw5 : (i : Int) ≤ (i : Int) + 1 := by omega
        clear hm
        rw [← hM] at o3
        have hlen : (chP s.data.toList i).length = M := by rw [chP_len, hM]
        obtain ⟨g, cap, rfl, hc0, hf0, hcap⟩ := own_at o3 (show M < M + 1 by omega)
        have hc1 : w3.cell? ⟨g, M, none⟩ = some (.string ⟨#[]⟩) := by
          rw [hc0, List.getD, List.getElem?_append_right (by rw [List.length_map, hlen]; exact Nat.le_refl _), List.length_map, hlen]; simp
        have hcell : ∀ W, w3.grownBy W none → W.cell? ⟨g, M, none⟩ = some (.string ⟨#[]⟩) := fun W hW => by
          exact hW.cell hc1 (by simp)
        have hfro : ∀ W, w3.grownBy W none → W.frozen? ⟨g, M, none⟩ = false := fun W hW => by
          have := hW.block g (World.block_lt_of_cell? _ _ hc1) (by simp)
          unfold World.frozen? at hf0 ⊢
          rw [this]; exact hf0
        have HO := Lib.hid o3
        have HM := Lib.hid hM
        clear hM o3 hc0 ho mv3 g3
        go_wp2
        go_upto_region 7 with (fail)
        refine wp_region_tail _ (fun W => w3.grownBy W none) (fun W W' => W.grownBy W' none) rfl (by kernel_rfl) (by kernel_rfl) (by kernel_rfl) (fun W => grow_refl W none) (grow_drawn (grow_refl _ _)) ?_
        repeat (refine wpRel_det ?_; apply Exists.intro; refine ⟨fun W hI => ?_, ?_⟩; focus (have hcW := hcell W hI; go_simp; first | exact ⟨rfl, grow_refl _ _⟩))
        refine wpRel_nil ?_
        intro w' hI
        have hcW := hcell w' hI
        have hfW := hfro w' hI
        have hst := ((HO.out.kept hI (Classical.em _)).stored M (.string ⟨#[x]⟩)).1
        rw [show ((chP s.data.toList i).map Value.string ++ [Value.string ⟨#[]⟩]).set M (.string ⟨#[x]⟩) = (chP s.data.toList (i + 1)).map Value.string by
          rw [HP.out, ← HX.out, set_last _ M hlen, List.map_append]; rfl] at hst
        go_simp
        go_wp2
        go_roundw
        case rel =>
          exact ⟨i + 1, by go_num, by omega, by rw [hM2]; exact hst, N3, grow_setnew (grow_none X3 hI) (N3 g rfl) _⟩
        case measure => simp [intOf]; omega
      · have hmi : ((i : Int) % 64 == 0) = false := by rw [beq_eq_false_iff_ne]; omega
        obtain ⟨M, hM⟩ : ∃ M, M = i / 64 := ⟨_, rfl⟩
        have hM1 : cntN i = M + 1 := by rw [hM]; unfold cntN; omega
        have hM2 : cntN (i + 1) = M + 1 := by rw [hM]; unfold cntN; omega
        have hM3 : (M : Int) ≤ 20000 := by omega
        have hw1 : IntKind.i64.wrap (M : Int) = M := wrapI (by omega) (by omega)
        have hw2 : IntKind.i64.wrap ((i : Int) + 1) = (i : Int) + 1 := wrapI (by omega) (by omega)
        have hw3 : ((i : Int) + 1).toNat = i + 1 := by omega
        have hw4 : (i : Int) + 1 ≤ s.size := by omega
        have hw6 : (M : Int) < (M : Int) + 1 := by omega
        have hw7 : (0 : Int) ≤ M := by omega
        have hw8 : (M : Int) < ((M + 1 : Nat) : Int) := by omega
        have hw5 : (i : Int) ≤ (i : Int) + 1 := by omega
        rw [hM1] at ho
        have hlen : (chP s.data.toList i).length = M + 1 := by rw [chP_len, hM1]
        obtain ⟨g, cap, rfl, hc0, hf0, hcap⟩ := own_at ho (show M < M + 1 by omega)
        obtain ⟨y, hy⟩ : ∃ y, y = (chP s.data.toList i).getD (i / 64) ⟨#[]⟩ := ⟨_, rfl⟩
        have hc1 : wr.cell? ⟨g, M, none⟩ = some (.string y) := by
          rw [hc0, List.getD, List.getElem?_map, hy, ← hM]
          have hlt : M < (chP s.data.toList i).length := by omega
          simp [List.getD, List.getElem?_eq_getElem hlt]
        have hcell : ∀ W, wr.grownBy W none → W.cell? ⟨g, M, none⟩ = some (.string y) := fun W hW => by
          exact hW.cell hc1 (by simp)
        have hfro : ∀ W, wr.grownBy W none → W.frozen? ⟨g, M, none⟩ = false := fun W hW => by
          have := hW.block g (World.block_lt_of_cell? _ _ hc1) (by simp)
          unfold World.frozen? at hf0 ⊢
          rw [this]; exact hf0
        have hyb : (y.size : Int) ≤ 8388608 := by
          rw [hy, chP_get _ _ _ (by rw [hM1, ← hM]; exact Nat.lt_succ_self _)]
          have := chT_size s.data.toList (i / 64) (min 64 (i - 64 * (i / 64)))
          omega
        have hxb : (((⟨#[x]⟩ : ByteArray).size : Nat) : Int) ≤ 8388608 := by show (((1 : Nat) : Int)) ≤ _; omega
        have hyx : ¬ (9223372036854775807 < y.size + (⟨#[x]⟩ : ByteArray).size) := by omega
        have hyx1 : ¬ (9223372036854775807 < y.size + 1) := by omega
        have hyx2 : y.size + 1 ≤ 9223372036854775807 := by omega
        have hyx3 : y.size + (⟨#[x]⟩ : ByteArray).size ≤ 9223372036854775807 := by omega
        have hys : (⟨#[x]⟩ : ByteArray).size = 1 := rfl
        have HP := Lib.hid (chP_more s.data.toList i (by rw [HLN.out]; exact hlt) hm)
        have HO := Lib.hid ho
        have HY := Lib.hid hy
        have HM := Lib.hid hM
        clear ho hc0 hm hy hM
        go_wp2
        go_upto_region 7 with (fail)
        refine wp_region_tail _ (fun W => wr.grownBy W none) (fun W W' => W.grownBy W' none) rfl (by kernel_rfl) (by kernel_rfl) (by kernel_rfl) (fun W => grow_refl W none) (grow_drawn (grow_refl _ _)) ?_
        repeat (refine wpRel_det ?_; apply Exists.intro; refine ⟨fun W hI => ?_, ?_⟩; focus (have hcW := hcell W hI; go_simp; first | exact ⟨rfl, grow_refl _ _⟩))
        refine wpRel_nil ?_
        intro w' hI
        have hcW := hcell w' hI
        have hfW := hfro w' hI
        have hst := ((HO.out.kept hI (Classical.em _)).stored M (.string (y ++ ⟨#[x]⟩))).1
        rw [show ((chP s.data.toList i).map Value.string).set M (.string (y ++ ⟨#[x]⟩)) = (chP s.data.toList (i + 1)).map Value.string by
          rw [HP.out, ← HX.out, ← HY.out, ← HM.out, List.map_set]
          congr 2
          apply ByteArray.ext
          apply Array.ext'
          simp] at hst
        go_simp
        go_wp2
        go_roundw
        case rel =>
          exact ⟨i + 1, by go_num, by omega, by rw [hM2]; exact hst, hn, grow_setnew (grow_none hg hI) (hn g rfl) _⟩
        case measure => simp [intOf]; omega
    · obtain rfl : i = s.size := by omega
      have HR := Lib.hid (RowAt.of_own ho)
      have HCAP := Lib.hid (own_cap ho)
      have HF : Hid (chP s.data.toList s.size = chunks s.data.toList) := by show _ = _; rw [← HLN.out, chP_all]
      clear ho
      go_wp2
      go_ret
      exact ⟨_, rfl, by rw [← HF.out]; exact HR.out, hn, hg, HCAP.out⟩
end Go.Proofs.Ytkmpcncehicpmaa
