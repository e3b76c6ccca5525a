/- Stage 4: Seal, by the document; what the statements ask first: many. -/
import Derived.Test.YtljhghlginachaaDoorFrB
namespace Go.Proofs.YtljhghlginachaaDoor
open Go.RowKit
set_option linter.unusedVariables false
theorem Tryd.info04_uint8 : (Tryd.prog.info? 5).map (fun i => (i.zero, i.size, i.bytes)) = some (some (.int .u8 0), 1, 1) := by kernel_rfl
def framesB (l : List ByteArray) : List UInt8 := l.flatMap frB
theorem frames_snoc (l : List ByteArray) (k : Nat) (hk : k < l.length) : framesB (l.take (k + 1)) = framesB (l.take k) ++ frB l[k] := by
  unfold framesB
  rw [List.take_succ_eq_append_getElem hk, List.flatMap_append]
  simp only [List.flatMap_cons, List.flatMap_nil, List.append_nil]
theorem frB_len (p : ByteArray) (hp : p.size ≤ 1048576) : (frB p).length ≤ 1048590 := by
  have h := numB_len (n := (p.size : Int)) (by omega)
  have e : p.data.toList.length = p.size := by rw [Array.length_toList]; rfl
  have e2 : (sumB (crcN p)).length = 4 := rfl
  unfold frB
  rw [List.length_append, List.length_append, e, e2]
  omega
theorem frames_len (l : List ByteArray) (hs : ∀ s ∈ l, s.size ≤ 1048576) : ∀ k, k ≤ l.length → (framesB (l.take k)).length ≤ 1048590 * k
  | 0, _ => by simp [framesB]
  | k + 1, hk => by
    rw [frames_snoc l k (by omega), List.length_append]
    have h1 := frames_len l hs k (by omega)
    have h2 := frB_len l[k] (hs _ (List.getElem_mem (by omega)))
    omega
set_option maxRecDepth 100000 in
set_option maxHeartbeats 1000000 in
theorem refSeal_any (v : Value) (l : List ByteArray) (w : World) (hr : RowAt w v (l.map Value.string)) (hl : l.length ≤ 8192) (hs : ∀ s ∈ l, s.size ≤ 1048576) :
    Calls Tryd.prog 12 #[v] w fun e w' => e = .returned (.tuple #[.string ⟨(framesB l).toArray⟩, .int .i64 0]) ∧ w.grownBy w' none := by
  obtain ⟨i0, hi, hz0, hz1, hz2⟩ := info_parts Tryd.info04_uint8
  obtain ⟨a, c, rfl⟩ := hr.len
  rw [List.length_map] at hr ⊢
  have hli : (l.length : Int) ≤ 8192 := by omega
  have HS := Lib.hid hs
  clear hs
  go_enter Tryd.func12, Tryd.ntmps12
  go_wp2
  have r1 := hr.kept (World.grownBy_alloc w (.cells #[] 5) none)
  have o1 := own_empty w 5 1
  have g1 := World.grownBy_alloc w (.cells #[] 5) none
  obtain ⟨w1, hw1⟩ : ∃ w1, w1 = w.alloc (.cells #[] 5) := ⟨_, rfl⟩
  rw [← hw1] at r1 o1 g1 ⊢
  clear hw1
  go_loop [5] (fun i => ∃ k : Nat, k ≤ l.length ∧ i = .int .i64 k) (fun i => l.length - (intOf i).toNat)
  case atStart => exact ⟨0, Nat.zero_le _, rfl⟩
  case round =>
    obtain ⟨k, hk, rfl⟩ := hrel
    by_cases hlt : k < l.length
    · obtain ⟨bb, off, rfl, hcell⟩ := row_str r1 hlt
      have hsz := HS.out l[k] (List.getElem_mem hlt)
      have h1 : decide ((1048576 : Int) < l[k].size) = false := decide_eq_false (by omega)
      have hki : (k : Int) < l.length := by omega
      go_wp2
      go_round
      case rel => exact ⟨k + 1, by omega, by go_num⟩
      case measure => simp [intOf]; omega
    · obtain rfl : k = l.length := by omega
      go_wp2
      go_loopw [4, 6] (fun out i wr => ∃ k : Nat, k ≤ l.length ∧ i = .int .i64 k ∧ wr.ownsRow 0 5 1 out (framesB (l.take k)).length ((framesB (l.take k)).map c8) ∧ w.grownBy wr none ∧ NewBlk w out) (fun _ i _ => l.length - (intOf i).toNat)
      case atStart => exact ⟨0, Nat.zero_le _, rfl, by simpa [framesB] using o1, g1, newblk_at _ _ _ _ (Nat.le_refl _) _⟩
      case round =>
        obtain ⟨k, hk, rfl, ho, hg, hn⟩ := hrel
        by_cases hlt : k < l.length
        · obtain ⟨bb, off, rfl, hcell⟩ := row_str (hr.kept hg) hlt
          have hsz := HS.out l[k] (List.getElem_mem hlt)
          have hfl := frB_len l[k] hsz
          have hle := frames_len l HS.out k hk
          have HT := Lib.hid (frames_snoc l k hlt)
          have hki : (k : Int) < l.length := by omega
          go_wp2_with fail
          refine (One_any _ _ (by omega)).mono ?_
          rintro e w2 ⟨rfl, g2⟩
          have o2 := own_keep ho g2
          have hfs : (⟨(frB l[k]).toArray⟩ : ByteArray).size = (frB l[k]).length := by show (frB l[k]).toArray.size = _; simp
          have HFS := Lib.hid hfs
          clear hfs
          go_wp2_with (at_builtin; refine wpList_append_str _ rfl _ _ 41 9 rfl 5 i0 Tryd.underlying41 Tryd.underlying9 hi hz0 hz1 hz2 _ _ _ rfl o2 _ rfl (by rw [HFS.out]; show _ ≤ 2^63-1; omega) (by rw [HFS.out]; omega) ?_)
          intro v3 w3 ho3 hg3 hm3
          go_wp2
          go_roundw
          case rel =>
            refine ⟨k + 1, by omega, by go_num, ?_, grow_newblk (grow_none hg g2) hn hg3, hn.moved (Nat.le_trans hg.size g2.size) hm3⟩
            rw [HT.out, List.length_append, List.map_append]
            exact ho3
          case measure => simp [intOf]; omega
        · obtain rfl : k = l.length := by omega
          have hT : l.take l.length = l := List.take_length
          rw [hT] at ho
          have hconv := run_str_buf (P := Tryd.prog) wr Tryd.underlying41 Tryd.underlying5 Tryd.underlying9 ho
          go_wp2
          go_ret2
          exact ⟨rfl, hg⟩
end Go.Proofs.YtljhghlginachaaDoor
