/- Stage 4: the document's sum; the four bytes of a sum; a payload's frame by the document. -/
import Derived.Test.YtljhghlginachaaDoorCrC
import Derived.Test.YtljhghlginachaaDoorRfA
import Derived.Test.YtljhghlginachaaDoorB2
import Derived.Test.YtljhghlginachaaDoorRel
namespace Go.Proofs.YtljhghlginachaaDoor
open Go.RowKit
set_option linter.unusedVariables false
set_option maxRecDepth 100000 in
set_option maxHeartbeats 1000000 in
theorem refMore_any (x : BitVec 32) (s : ByteArray) (w : World) (hs : s.size ≤ maxLen) :
    Calls Tryd.prog 40 #[.int .u32 x.toNat, .string s] w fun e w' => e = .returned (.int .u32 (more x s.data.toList).toNat) ∧ w = w' := by
  unfold maxLen at hs
  have hs' : (s.size : Int) ≤ 9223372036854775807 := by omega
  have bx := u32_lt x
  obtain ⟨nx, hnx⟩ : ∃ nx, nx = ~~~ x := ⟨_, rfl⟩
  have hnot := not_u32 x
  rw [← hnx] at hnot
  have HNX := Lib.hid hnx
  have HNT := Lib.hid hnot
  clear hnx hs hnot
  go_enter Tryd.func40, Tryd.ntmps40
  go_wp2
  go_loop [5, 6] (fun r i => ∃ k : Nat, k ≤ s.size ∧ i = .int .i64 k ∧ r = .int .u32 (takes nx (s.data.toList.take k)).toNat) (fun _ i => s.size - (intOf i).toNat)
  case atStart => exact ⟨0, Nat.zero_le _, rfl, by show Value.int .u32 _ = .int .u32 (nx.toNat : Int); rw [HNT.out]⟩
  case round =>
    obtain ⟨k, hk, rfl, rfl⟩ := hrel
    by_cases hlt : k < s.size
    · have HT : Hid (takes nx (s.data.toList.take (k + 1)) = takeB (takes nx (s.data.toList.take k)) s[k]) := by
        have hl : k < s.data.toList.length := by rw [Array.length_toList]; exact hlt
        show _ = _
        rw [List.take_succ_eq_append_getElem hl, takes, List.foldl_append, List.foldl_cons, List.foldl_nil, ← takes]
        rfl
      go_wp2_with fail
      refine (taken_any _ _ _).mono ?_
      rintro e w' ⟨rfl, rfl⟩
      go_wp2
      refine ⟨⟨k + 1, by omega, by go_num, by rw [HT.out]⟩, by simp [intOf]; omega⟩
    · obtain rfl : k = s.size := by omega
      have ht : s.data.toList.take s.size = s.data.toList := List.take_of_length_le (by rw [Array.length_toList]; exact Nat.le_refl _)
      rw [ht]
      obtain ⟨z, hz⟩ : ∃ z, z = takes nx s.data.toList := ⟨_, rfl⟩
      obtain ⟨nz, hnz⟩ : ∃ nz, nz = ~~~ z := ⟨_, rfl⟩
      have hnot2 := not_u32 z
      rw [← hnz] at hnot2
      rw [← hz]
      have HE : Hid (more x s.data.toList = nz) := by show _ = _; rw [hnz, hz, HNX.out]; rfl
      have HN2 := Lib.hid hnot2
      have bz := u32_lt z
      clear hz hnz ht hnot2
      go_wp2
      go_ret
      exact ⟨by rw [HE.out, HN2.out]; rfl, rfl⟩
theorem refSum_any (s : ByteArray) (w : World) (hs : s.size ≤ maxLen) :
    Calls Tryd.prog 31 #[.string s] w fun e w' => e = .returned (.int .u32 (more 0#32 s.data.toList).toNat) ∧ w = w' := by
  have h := refMore_any 0#32 s w hs
  have HH := Lib.hid h
  clear h
  go_enter Tryd.func31, Tryd.ntmps31
  go_wp2_with fail
  refine HH.out.mono ?_
  rintro e w' ⟨rfl, rfl⟩
  go_wp2
  go_ret
  exact ⟨rfl, rfl⟩
/-- The four bytes of a sum, the lowest first. -/
def sumB (x : Nat) : List UInt8 := [x.toUInt8, (x / 256).toUInt8, (x / 65536).toUInt8, (x / 16777216).toUInt8]
def crcN (p : ByteArray) : Nat := (more 0#32 p.data.toList).toNat
theorem sum_cells (x : Nat) (hx : (x : Int) ≤ 4294967295) : (sumB x).map c8 = [.int .u8 ((x : Int) % 256), .int .u8 ((x : Int) / 256 % 256), .int .u8 ((x : Int) / 65536 % 256), .int .u8 ((x : Int) / 16777216)] := by
  unfold sumB c8
  simp only [List.map_cons, List.map_nil, Nat.toUInt8_eq, UInt8.toNat_ofNat']
  have e : (x : Int) / 16777216 = ((x / 16777216 % 2 ^ 8 : Nat) : Int) := by omega
  rw [e]
  rfl
theorem sum_conv (x : Nat) (w : World) (hx : (x : Int) ≤ 4294967295) :
    (convert 41 9 (.slice (some ⟨w.heap.size, 0, none⟩) 4 4)).run Tryd.prog (w.alloc (.cells #[.int .u8 ((x : Int) % 256), .int .u8 ((x : Int) / 256 % 256), .int .u8 ((x : Int) / 65536 % 256), .int .u8 ((x : Int) / 16777216)] 5))
      = .ok (.string ⟨(sumB x).toArray⟩) (w.alloc (.cells #[.int .u8 ((x : Int) % 256), .int .u8 ((x : Int) / 256 % 256), .int .u8 ((x : Int) / 65536 % 256), .int .u8 ((x : Int) / 16777216)] 5)) := by
  have hb : Blk (w.alloc (.cells ((sumB x).map c8).toArray 5)) w.heap.size 5 ((sumB x).map c8) := Blk.new _ _ _
  have h := run_str_buf (P := Tryd.prog) _ Tryd.underlying41 Tryd.underlying5 Tryd.underlying9 (hb.own 4 rfl (by unfold maxLen; omega))
  rw [sum_cells x hx] at h
  exact h
set_option maxRecDepth 100000 in
set_option maxHeartbeats 1000000 in
theorem sumBytes_any (p : ByteArray) (w : World) (hm : Mv w) (hp : p.size ≤ maxLen) :
    Calls Tryd.prog 20 #[.string p] w fun e w' => e = .returned (.string ⟨(sumB (crcN p)).toArray⟩) ∧ w.grownBy w' none := by
  have gA := World.grownBy_alloc w (.cells #[.string p] 9) none
  have rA := RowAt.lit w ([p].map Value.string) 9 1 1 rfl
  simp only [List.map_cons, List.map_nil] at rA
  have hpm : ∀ s ∈ [p], s.size ≤ maxLen := by
    intro s hs; rw [List.mem_singleton] at hs; rw [hs]; exact hp
  have HPM := Lib.hid hpm
  clear hpm hp
  go_enter Tryd.func20, Tryd.ntmps20
  go_wp2_with fail
  refine (Sum_any _ [p] _ (hm.kept gA) rA HPM.out (by show 1 ≤ 2^63-1; omega)).mono ?_
  rintro e w2 ⟨rfl, rfl⟩
  have e1 : (more 0#32 (allB [p])).toNat = crcN p := by unfold crcN allB; simp
  rw [e1]
  clear rA
  have hb : ((crcN p : Nat) : Int) ≤ 4294967295 := by
    have := (more 0#32 p.data.toList).isLt
    unfold crcN; omega
  obtain ⟨x, hx⟩ : ∃ x, x = crcN p := ⟨_, rfl⟩
  rw [← hx] at hb ⊢
  have HX := Lib.hid hx
  generalize w.alloc (.cells #[.string p] 9) = w1 at gA ⊢
  have hconv := sum_conv x w1 hb
  have gB := World.grownBy_alloc w1 (.cells #[.int .u8 ((x : Int) % 256), .int .u8 ((x : Int) / 256 % 256), .int .u8 ((x : Int) / 65536 % 256), .int .u8 ((x : Int) / 16777216)] 5) none
  clear hx e1
  go_wp2
  go_ret
  exact ⟨by rw [← HX.out]; rfl, grow_none gA gB⟩
end Go.Proofs.YtljhghlginachaaDoor
