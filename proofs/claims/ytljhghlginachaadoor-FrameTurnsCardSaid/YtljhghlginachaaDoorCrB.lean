/- What the package crc does. -/
import Derived.Test.YtljhghlginachaaDoorChecked
import Derived.Test.YtljhghlginachaaDoorCrA
namespace Go.Proofs.YtljhghlginachaaDoor
open Go.RowKit
set_option linter.unusedVariables false
/-- The table's numbers. -/
def tabN (j : Nat) : Nat := (mvs 4 (BitVec.ofNat 32 j)).toNat
/-- The table lies as it was laid. -/
def Mv (w : World) : Prop := ∀ j, j < 16 → w.cell? ⟨0, j, none⟩ = some (.int .u32 (tabN j : Nat))
theorem Mv.kept {w w' : World} (h : Mv w) (g : w.grownBy w' none) : Mv w' := fun j hj => by
  rw [← h j hj]
  exact World.cell?_of_block (g.block _ (World.block_lt_of_cell? w _ (h j hj)) (by simp))
theorem u32_lt (x : BitVec 32) : x.toNat < 4294967296 := x.isLt
theorem xor_u32 (x y : BitVec 32) : bits .xor .u32 (x.toNat : Int) (y.toNat : Int) = ((x ^^^ y).toNat : Int) := by
  rw [u32_xor_nat _ _ x.isLt y.isLt, BitVec.toNat_xor]
theorem and15 (x : BitVec 32) : bits .and .u32 (x.toNat : Int) 15 = ((x.toNat % 16 : Nat) : Int) := by
  have h := u32_and_nat x.toNat 15 x.isLt (by omega)
  rw [nat_mask4] at h
  exact h
theorem half_step (x : BitVec 32) : bits .xor .u32 ((x.toNat : Int) / 16) (tabN (x.toNat % 16) : Nat) = ((mvs 4 x).toNat : Int) := by
  have e1 : (x.toNat : Int) / (16 : Int) = (((x >>> 4).toNat : Nat) : Int) := by
    rw [BitVec.toNat_ushiftRight, Nat.shiftRight_eq_div_pow]; omega
  have e2 : BitVec.ofNat 32 (x.toNat % 16) = x &&& 15#32 := by
    apply BitVec.eq_of_toNat_eq
    rw [BitVec.toNat_and, BitVec.toNat_ofNat]
    have : (15#32).toNat = 15 := rfl
    rw [this, nat_mask4]
    omega
  rw [e1, tabN, e2, xor_u32, mvs4 x]
  rfl
set_option maxRecDepth 100000 in
set_option maxHeartbeats 1000000 in
theorem take_any (x : BitVec 32) (s : ByteArray) (w : World) (hm : Mv w) (hs : s.size ≤ maxLen) :
    Calls Tryd.prog 42 #[.int .u32 x.toNat, .string s] w fun e w' => e = .returned (.int .u32 (takes x s.data.toList).toNat) ∧ w = w' := by
  unfold maxLen at hs
  have hs' : (s.size : Int) ≤ 9223372036854775807 := by omega
  clear hs
  go_enter Tryd.func42, Tryd.ntmps42
  go_wp2
  go_loop [0, 8] (fun r i => ∃ k : Nat, k ≤ s.size ∧ i = .int .i64 k ∧ r = .int .u32 (takes x (s.data.toList.take k)).toNat) (fun _ i => s.size - (intOf i).toNat)
  case atStart => exact ⟨0, Nat.zero_le _, rfl, rfl⟩
  case round =>
    obtain ⟨k, hk, rfl, rfl⟩ := hrel
    by_cases hlt : k < s.size
    · obtain ⟨y, hy⟩ : ∃ y, y = takes x (s.data.toList.take k) := ⟨_, rfl⟩
      have hb := s[k].toNat_lt
      have ht : takes x (s.data.toList.take (k + 1)) = mvs 4 (mvs 4 (y ^^^ BitVec.ofNat 32 s[k].toNat)) := by
        have hl : k < s.data.toList.length := by rw [Array.length_toList]; exact hlt
        rw [List.take_succ_eq_append_getElem hl, takes, List.foldl_append, List.foldl_cons, List.foldl_nil, ← takes, ← hy, takeB, ← mvs_add]
        rfl
      obtain ⟨z, hz⟩ : ∃ z, z = y ^^^ BitVec.ofNat 32 s[k].toNat := ⟨_, rfl⟩
      have h1 : bits .xor .u32 (y.toNat : Int) (s[k].toNat : Int) = (z.toNat : Int) := by
        have e : (BitVec.ofNat 32 s[k].toNat).toNat = s[k].toNat := by rw [BitVec.toNat_ofNat]; omega
        rw [hz, ← xor_u32, e]
      obtain ⟨z1, hz1⟩ : ∃ z1, z1 = mvs 4 z := ⟨_, rfl⟩
      obtain ⟨z2, hz2⟩ : ∃ z2, z2 = mvs 4 z1 := ⟨_, rfl⟩
      have h2 := and15 z
      have h3 := half_step z
      have h4 := and15 z1
      have h5 := half_step z1
      rw [← hz1] at h3
      rw [← hz2] at h5
      have HT : Hid (takes x (s.data.toList.take (k + 1)) = z2) := by show _ = _; rw [ht, ← hz, ← hz1, ← hz2]
      have c1 := hm (z.toNat % 16) (by omega)
      have c2 := hm (z1.toNat % 16) (by omega)
      have bz := u32_lt z
      have bz1 := u32_lt z1
      have by_ := u32_lt y
      rw [← hy]
      clear ht hz hz1 hz2 hy
      go_wp2
      refine ⟨⟨k + 1, by omega, by go_num, by rw [HT.out]⟩, by simp [intOf]; omega⟩
    · obtain rfl : k = s.size := by omega
      have ht : Hid (s.data.toList.take s.size = s.data.toList) := by
        show _ = _
        exact List.take_of_length_le (by rw [Array.length_toList]; exact Nat.le_refl _)
      go_wp2
      go_ret
      exact ⟨by show Ending.returned (Value.int .u32 _) = _; rw [ht.out], rfl⟩
end Go.Proofs.YtljhghlginachaaDoor
