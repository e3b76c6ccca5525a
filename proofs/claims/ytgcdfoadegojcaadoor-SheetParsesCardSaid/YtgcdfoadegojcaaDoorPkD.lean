/- What the package pack's Text does. -/
import Derived.Test.YtgcdfoadegojcaaDoorPkC
namespace Go.Proofs.YtgcdfoadegojcaaDoor
open Go.RowKit
set_option linter.unusedVariables false
def strv (s : ByteArray) : Value := .string s
/-- The bytes of texts. -/
def textsB (l : List ByteArray) : List UInt8 := l.flatMap fun s => numB s.size ++ s.data.toList
/-- How much room is asked for. -/
def roomB (l : List ByteArray) : Nat := (l.map fun s => s.size + 10).sum
theorem textsB_snoc (l : List ByteArray) (s : ByteArray) : textsB (l ++ [s]) = textsB l ++ (numB s.size ++ s.data.toList) := by simp [textsB]
theorem roomB_snoc (l : List ByteArray) (s : ByteArray) : roomB (l ++ [s]) = roomB l + (s.size + 10) := by simp [roomB]
theorem roomB_take (l : List ByteArray) (k : Nat) : roomB (l.take k) ≤ roomB l := by
  induction l generalizing k with
  | nil => simp [roomB]
  | cons s l ih =>
    cases k with
    | zero => simp [roomB]
    | succ k => have := ih k; simp [roomB] at *; omega
theorem size_toList (s : ByteArray) : s.data.toList.length = s.size := by rw [Array.length_toList]; rfl
theorem textsB_len (l : List ByteArray) (h : roomB l ≤ 1000000000000) : (textsB l).length ≤ roomB l := by
  induction l with
  | nil => simp [textsB]
  | cons s l ih =>
    have e : roomB (s :: l) = s.size + 10 + roomB l := by simp only [roomB, List.map_cons, List.sum_cons]
    have h2 := ih (by omega)
    have h1 := numB_len (n := (s.size : Int)) (by omega)
    have e2 : textsB (s :: l) = (numB s.size ++ s.data.toList) ++ textsB l := by simp only [textsB, List.flatMap_cons]
    rw [e2, List.length_append, List.length_append, size_toList]
    omega
set_option maxRecDepth 100000 in
set_option maxHeartbeats 400000 in
theorem Text_any (v : Value) (l : List ByteArray) (w : World) (hr : RowAt w v (l.map strv)) (hlen : roomB l ≤ 1000000000000) :
    Calls Tryd.prog 55 #[v] w fun e w' => e = .returned (.string ⟨(textsB l).toArray⟩) ∧ w.grownBy w' none := by
  obtain ⟨i0, hi, hz0, hz1, hz2⟩ := info_parts Tryd.info5
  obtain ⟨a, cap, rfl, hcells⟩ := hr
  rw [List.length_map] at hcells ⊢
  have hll : l.length ≤ roomB l := by
    clear hcells hlen
    induction l with
    | nil => simp
    | cons s l ih => simp [roomB] at *; omega
  go_enter Tryd.func55, Tryd.ntmps55
  go_wp2
  go_loop [3, 11] (fun sz i => ∃ k : Nat, k ≤ l.length ∧ i = .int .i64 k ∧ sz = .int .i64 (roomB (l.take k) : Nat)) (fun _ i => l.length - (intOf i).toNat)
  case atStart => exact ⟨0, Nat.zero_le _, rfl, by simp [roomB]⟩
  case round =>
    obtain ⟨k, hk, rfl, rfl⟩ := hrel
    have hrk := roomB_take l k
    by_cases hlt : k < l.length
    · have hrk1 := roomB_take l (k+1)
      have HT : Hid (roomB (l.take (k+1)) = roomB (l.take k) + (l[k].size + 10)) := by show _ = _; rw [List.take_succ_eq_append_getElem hlt, roomB_snoc]
      have hs := HT.out ▸ hrk1
      clear hrk1
      rcases hcells with h0 | ⟨b, off, rfl, hb, hc⟩
      · have : l = [] := by simpa using h0
        subst this; simp at hlt
      have hcell : w.cell? ⟨b, off + k, none⟩ = some (.string (l[k])) := by
        rw [hc k hlt]; simp [strv, List.getElem?_eq_getElem hlt]
      clear hc
      go_wp2
      go_round
      case rel => exact ⟨k + 1, by omega, by go_num, by rw [HT.out]; go_num⟩
      case measure => simp [intOf]; omega
    · obtain rfl : k = l.length := by omega
      have hll2 : l.length ≤ 1000000000000 := by omega
      clear hrk hll
      rw [List.take_length]
      go_wp2_with (at_make; refine wpList_make_own _ rfl _ _ 52 rfl 0 5 i0 (.int .u8 0) 1 Tryd.underlying52 hi hz0 hz1 _ _ _ (roomB l) rfl rfl rfl (by rw [hz2]; omega) (by show _ ≤ 2^63-1; omega) (Nat.zero_le _) ?_)
      intro w1 ho1 hg1
      go_wp2
      go_loopw [6, 25] (fun out i wr => ∃ k : Nat, k ≤ l.length ∧ i = .int .i64 k ∧ wr.ownsRow 0 5 1 out (textsB (l.take k)).length ((textsB (l.take k)).map c8) ∧ w.grownBy wr none ∧ NewBlk w out) (fun _ i _ => l.length - (intOf i).toNat)
      case atStart => exact ⟨0, Nat.zero_le _, rfl, by simpa [textsB] using ho1, hg1, newblk_at _ _ _ _ (Nat.le_refl _) _⟩
      case round =>
        obtain ⟨k, hk, rfl, ho, hg, hn⟩ := hrel
        by_cases hlt : k < l.length
        · have hrk := roomB_take l (k+1)
          rw [List.take_succ_eq_append_getElem hlt, roomB_snoc] at hrk
          have hl1 := textsB_len (l.take k) (by omega)
          rcases hcells with h0 | ⟨b, off, rfl, hb, hc⟩
          · have : l = [] := by simpa using h0
            subst this; simp at hlt
          have hcell : wr.cell? ⟨b, off + k, none⟩ = some (.string l[k]) := by
            rw [World.cell?_of_block (hg.block b hb (by simp)), hc k hlt]; simp [strv, List.getElem?_eq_getElem hlt]
          have hn10 := numB_len (n := (l[k].size : Int)) (by omega)
          have HT : Hid (l.take (k+1) = l.take k ++ [l[k]]) := by rw [List.take_succ_eq_append_getElem hlt]; trivial
          clear hc
          go_wp2_with fail
          refine (putNum_any _ _ _ _ _ ho (by omega) (by omega)).mono ?_
          rintro e w2 ⟨v2, rfl, ho2, hg2, hm2⟩
          go_wp2_with (at_builtin; refine wpList_append_str _ rfl _ _ 52 9 rfl 5 i0 Tryd.underlying52 Tryd.underlying9 hi hz0 hz1 hz2 _ _ _ rfl ho2 _ rfl (by show _ ≤ 2^63-1; omega) (by omega) ?_)
          intro v3 w3 ho3 hg3 hm3
          go_wp2
          go_roundw
          case rel =>
            refine ⟨k + 1, by omega, by go_num, ?_, grow_newblk (grow_newblk hg hn hg2) (hn.moved hg.size hm2) hg3, (hn.moved hg.size hm2).moved (Nat.le_trans hg.size hg2.size) hm3⟩
            rw [HT.out, textsB_snoc, ← List.append_assoc]
            simpa [size_toList, Nat.add_assoc] using ho3
          case measure => simp [intOf]; omega
        · obtain rfl : k = l.length := by omega
          clear hcells
          have hconv := run_str_buf (P := Tryd.prog) wr Tryd.underlying52 Tryd.underlying5 Tryd.underlying9 ho
          go_wp2
          go_ret
          exact ⟨rfl, hg⟩
end Go.Proofs.YtgcdfoadegojcaaDoor
