/- Several texts in one: CrB CrC. -/
import Derived.Test.YtphljjgjpkdpmaaGreatDoorChecked
import Derived.Test.YtphljjgjpkdpmaaGreatDoorK1
/- What the package crc does. -/
namespace Go.Proofs.YtphljjgjpkdpmaaGreatDoor
open Go.RowKit
set_option linter.unusedVariables false
/-- The table's numbers. -/
def tabN (j : Nat) : Nat := (mvs 4 (BitVec.ofNat 32 j)).toNat
/-- The table lies as it was laid. -/
def Mv (w : World) : Prop := ∀ j, j < 16 → w.cell? ⟨3, j, none⟩ = some (.int .u32 (tabN j : Nat))
theorem Mv.kept {w w' : World} (h : Mv w) (g : w.grownBy w' none) : Mv w' := fun j hj => by
  rw [← h j hj]
  exact World.cell?_of_block (g.block _ (World.block_lt_of_cell? w _ (h j hj)) (by simp))
theorem u32_lt (x : BitVec 32) : x.toNat < 4294967296 := x.isLt
theorem xor_u32 (x y : BitVec 32) : bits .xor .u32 (x.toNat : Int) (y.toNat : Int) = ((x ^^^ y).toNat : Int) := by
  rw [u32_xor_nat _ _ x.isLt y.isLt, BitVec.toNat_xor]
theorem and15 (x : BitVec 32) : bits .and .u32 (x.toNat : Int) 15 = ((x.toNat % 16 : Nat) : Int) := by
  have h := u32_and_nat x.toNat 15 x.isLt (by omega)
  rw [nat_mask4] at h
  exact h
theorem half_step (x : BitVec 32) : bits .xor .u32 ((x.toNat : Int) / 16) (tabN (x.toNat % 16) : Nat) = ((mvs 4 x).toNat : Int) := by
  have e1 : (x.toNat : Int) / (16 : Int) = (((x >>> 4).toNat : Nat) : Int) := by
    rw [BitVec.toNat_ushiftRight, Nat.shiftRight_eq_div_pow]; omega
  have e2 : BitVec.ofNat 32 (x.toNat % 16) = x &&& 15#32 := by
    apply BitVec.eq_of_toNat_eq
    rw [BitVec.toNat_and, BitVec.toNat_ofNat]
    have : (15#32).toNat = 15 := rfl
    rw [this, nat_mask4]
    omega
  rw [e1, tabN, e2, xor_u32, mvs4 x]
  rfl
set_option maxRecDepth 100000 in
set_option maxHeartbeats 1000000 in
theorem take_any (x : BitVec 32) (s : ByteArray) (w : World) (hm : Mv w) (hs : s.size ≤ maxLen) :
    Calls Tryz.prog 152 #[.int .u32 x.toNat, .string s] w fun e w' => e = .returned (.int .u32 (takes x s.data.toList).toNat) ∧ w = w' := by
  unfold maxLen at hs
  have hs' : (s.size : Int) ≤ 9223372036854775807 := by omega
  clear hs
  go_enter Tryz.func152, Tryz.ntmps152
  go_wp2
  go_loop [0, 8] (fun r i => ∃ k : Nat, k ≤ s.size ∧ i = .int .i64 k ∧ r = .int .u32 (takes x (s.data.toList.take k)).toNat) (fun _ i => s.size - (intOf i).toNat)
  case atStart => exact ⟨0, Nat.zero_le _, rfl, rfl⟩
  case round =>
    obtain ⟨k, hk, rfl, rfl⟩ := hrel
    by_cases hlt : k < s.size
    · obtain ⟨y, hy⟩ : ∃ y, y = takes x (s.data.toList.take k) := ⟨_, rfl⟩
      have hb := s[k].toNat_lt
      have ht : takes x (s.data.toList.take (k + 1)) = mvs 4 (mvs 4 (y ^^^ BitVec.ofNat 32 s[k].toNat)) := by
        have hl : k < s.data.toList.length := by rw [Array.length_toList]; exact hlt
        rw [List.take_succ_eq_append_getElem hl, takes, List.foldl_append, List.foldl_cons, List.foldl_nil, ← takes, ← hy, takeB, ← mvs_add]
        rfl
      obtain ⟨z, hz⟩ : ∃ z, z = y ^^^ BitVec.ofNat 32 s[k].toNat := ⟨_, rfl⟩
      have h1 : bits .xor .u32 (y.toNat : Int) (s[k].toNat : Int) = (z.toNat : Int) := by
        have e : (BitVec.ofNat 32 s[k].toNat).toNat = s[k].toNat := by rw [BitVec.toNat_ofNat]; omega
        rw [hz, ← xor_u32, e]
      obtain ⟨z1, hz1⟩ : ∃ z1, z1 = mvs 4 z := ⟨_, rfl⟩
      obtain ⟨z2, hz2⟩ : ∃ z2, z2 = mvs 4 z1 := ⟨_, rfl⟩
      have h2 := and15 z
      have h3 := half_step z
      have h4 := and15 z1
      have h5 := half_step z1
      rw [← hz1] at h3
      rw [← hz2] at h5
      have HT : Hid (takes x (s.data.toList.take (k + 1)) = z2) := by show _ = _; rw [ht, ← hz, ← hz1, ← hz2]
      have c1 := hm (z.toNat % 16) (by omega)
      have c2 := hm (z1.toNat % 16) (by omega)
      have bz := u32_lt z
      have bz1 := u32_lt z1
      have by_ := u32_lt y
      rw [← hy]
      clear ht hz hz1 hz2 hy
      go_wp2
      refine ⟨⟨k + 1, by omega, by go_num, by rw [HT.out]⟩, by simp [intOf]; omega⟩
    · obtain rfl : k = s.size := by omega
      have ht : Hid (s.data.toList.take s.size = s.data.toList) := by
        show _ = _
        exact List.take_of_length_le (by rw [Array.length_toList]; exact Nat.le_refl _)
      go_wp2
      go_ret
      exact ⟨by show Ending.returned (Value.int .u32 _) = _; rw [ht.out], rfl⟩
end Go.Proofs.YtphljjgjpkdpmaaGreatDoor
/- What the package crc does: Sum and More. -/
namespace Go.Proofs.YtphljjgjpkdpmaaGreatDoor
open Go.RowKit
set_option linter.unusedVariables false
def allB (l : List ByteArray) : List UInt8 := l.flatMap fun s => s.data.toList
theorem takes_app (x : BitVec 32) (a b : List UInt8) : takes x (a ++ b) = takes (takes x a) b := by unfold takes; rw [List.foldl_append]
theorem not_u32 (x : BitVec 32) : ((~~~ x).toNat : Int) = 4294967295 - (x.toNat : Int) := by
  have := x.isLt
  rw [BitVec.toNat_not]; omega
theorem max_xor (y : BitVec 32) : bits .xor .u32 IntKind.u32.max (y.toNat : Int) = ((~~~ y).toNat : Int) := by
  have h := xor_u32 (BitVec.allOnes 32) y
  have e : BitVec.allOnes 32 ^^^ y = ~~~ y := by
    apply BitVec.eq_of_getLsbD_eq
    intro i hi
    rw [BitVec.getLsbD_xor, BitVec.getLsbD_not, BitVec.getLsbD_allOnes]
    simp [hi]
  rw [e] at h
  exact h
theorem row_str {w : World} {a : Option Addr} {c : Nat} {l : List ByteArray} {k : Nat} (h : RowAt w (.slice a l.length c) (l.map Value.string)) (hk : k < l.length) :
    ∃ bb off, a = some ⟨bb, off, none⟩ ∧ w.cell? ⟨bb, off + k, none⟩ = some (.string l[k]) := by
  obtain ⟨a', c', e, h⟩ := h
  injection e with e1 e2 e3
  subst e1
  rcases h with h | ⟨b, off, rfl, hb, hc⟩
  · have : l = [] := by simpa using h
    subst this; simp at hk
  · exact ⟨b, off, rfl, by rw [hc k (by simpa using hk)]; simp [List.getElem?_eq_getElem hk]⟩
set_option maxRecDepth 100000 in
set_option maxHeartbeats 1000000 in
theorem More_any (x : BitVec 32) (v : Value) (l : List ByteArray) (w : World) (hm : Mv w) (hr : RowAt w v (l.map Value.string)) (hs : ∀ s ∈ l, s.size ≤ maxLen) (hl : l.length ≤ maxLen) :
    Calls Tryz.prog 138 #[.int .u32 x.toNat, v] w fun e w' => e = .returned (.int .u32 (more x (allB l)).toNat) ∧ w = w' := by
  obtain ⟨a, c, rfl⟩ := hr.len
  rw [List.length_map] at hr ⊢
  unfold maxLen at hl
  have hl' : (l.length : Int) ≤ 9223372036854775807 := by omega
  have HS := Lib.hid hs
  have bx := u32_lt x
  clear hl hs
  go_enter Tryz.func138, Tryz.ntmps138
  obtain ⟨nx, hnx⟩ : ∃ nx, nx = ~~~ x := ⟨_, rfl⟩
  have hnot := max_xor x
  rw [← hnx] at hnot
  have HNX := Lib.hid hnx
  clear hnx
  go_wp2
  go_loop [5, 12] (fun r i => ∃ k : Nat, k ≤ l.length ∧ i = .int .i64 k ∧ r = .int .u32 (takes nx (allB (l.take k))).toNat) (fun _ i => l.length - (intOf i).toNat)
  case atStart => exact ⟨0, Nat.zero_le _, rfl, by simp [allB, takes]⟩
  case round =>
    obtain ⟨k, hk, rfl, rfl⟩ := hrel
    by_cases hlt : k < l.length
    · obtain ⟨bb, off, rfl, hcell⟩ := row_str hr hlt
      have hsz := HS.out l[k] (List.getElem_mem hlt)
      have HT : Hid (allB (l.take (k + 1)) = allB (l.take k) ++ l[k].data.toList) := by
        show _ = _
        unfold allB
        rw [List.take_succ_eq_append_getElem hlt, List.flatMap_append]
        simp only [List.flatMap_cons, List.flatMap_nil, List.append_nil]
      have HZ := Lib.hid hsz
      clear hsz
      go_wp2_with fail
      refine (take_any _ _ _ hm HZ.out).mono ?_
      rintro e w' ⟨rfl, rfl⟩
      go_wp2
      refine ⟨⟨k + 1, by omega, by go_num, by rw [HT.out, takes_app]⟩, by simp [intOf]; omega⟩
    · obtain rfl : k = l.length := by omega
      have ht : l.take l.length = l := List.take_length
      rw [ht]
      obtain ⟨z, hz⟩ : ∃ z, z = takes nx (allB l) := ⟨_, rfl⟩
      obtain ⟨nz, hnz⟩ : ∃ nz, nz = ~~~ z := ⟨_, rfl⟩
      have hnot2 := max_xor z
      rw [← hnz] at hnot2
      rw [← hz]
      have HE : Hid (more x (allB l) = nz) := by show _ = _; rw [hnz, hz, HNX.out]; rfl
      clear hz hnz ht hnot
      go_wp2
      go_ret
      exact ⟨by rw [HE.out]; rfl, rfl⟩
theorem Sum_any (v : Value) (l : List ByteArray) (w : World) (hm : Mv w) (hr : RowAt w v (l.map Value.string)) (hs : ∀ s ∈ l, s.size ≤ maxLen) (hl : l.length ≤ maxLen) :
    Calls Tryz.prog 115 #[v] w fun e w' => e = .returned (.int .u32 (more 0#32 (allB l)).toNat) ∧ w = w' := by
  have h := More_any 0#32 v l w hm hr hs hl
  have HH := Lib.hid h
  clear h
  go_enter Tryz.func115, Tryz.ntmps115
  go_wp2_with fail
  refine HH.out.mono ?_
  rintro e w' ⟨rfl, rfl⟩
  go_wp2
  go_ret
  exact ⟨rfl, rfl⟩
theorem bit0 (y : BitVec 32) : y.getLsbD 0 = (y.toNat % 2 == 1) := by
  rw [BitVec.getLsbD, Nat.testBit_zero]
  rcases Nat.mod_two_eq_zero_or_one y.toNat with h | h <;> simp [h]
theorem mvs_last (k : Nat) (x : BitVec 32) : mvs (k + 1) x = mv (mvs k x) := by rw [mvs_add k 1]; rfl
theorem step_bit (y : BitVec 32) (c : Nat) (hc : c < 256) : ((y >>> 1) ^^^ (if (y.toNat % 2 == 1) != (c % 2 == 1) then poly else 0#32)) ^^^ BitVec.ofNat 32 (c / 2) = mv (y ^^^ BitVec.ofNat 32 c) := by
  have e1 : (BitVec.ofNat 32 c) >>> 1 = BitVec.ofNat 32 (c / 2) := by
    apply BitVec.eq_of_toNat_eq
    rw [BitVec.toNat_ushiftRight, BitVec.toNat_ofNat, BitVec.toNat_ofNat, Nat.shiftRight_eq_div_pow]
    omega
  have e2 : (BitVec.ofNat 32 c).getLsbD 0 = (c % 2 == 1) := by
    rw [bit0, BitVec.toNat_ofNat, Nat.mod_eq_of_lt (by omega : c < 2 ^ 32)]
  rw [mv_xor]
  unfold mv
  rw [e1, e2, bit0]
  apply BitVec.eq_of_getLsbD_eq
  intro i hi
  simp only [BitVec.getLsbD_xor]
  generalize (y >>> 1).getLsbD i = p
  generalize (BitVec.ofNat 32 (c / 2)).getLsbD i = q
  cases (y.toNat % 2 == 1) <;> cases (c % 2 == 1) <;> simp <;> cases p <;> cases q <;> cases poly.getLsbD i <;> rfl
theorem half_u32 (y : BitVec 32) : (y.toNat : Int) / (2 : Int) = (((y >>> 1).toNat : Nat) : Int) := by
  rw [BitVec.toNat_ushiftRight, Nat.shiftRight_eq_div_pow]; omega
theorem xor_poly (y : BitVec 32) : bits .xor .u32 (y.toNat : Int) 3988292384 = ((y ^^^ poly).toNat : Int) := xor_u32 y poly
set_option maxRecDepth 100000 in
set_option maxHeartbeats 1000000 in
theorem taken_any (r : BitVec 32) (b : UInt8) (w : World) :
    Calls Tryz.prog 128 #[.int .u32 r.toNat, .int .u8 b.toNat] w fun e w' => e = .returned (.int .u32 (takeB r b).toNat) ∧ w = w' := by
  go_enter Tryz.func128, Tryz.ntmps128
  go_wp2
  go_loop [0, 1, 5] (fun rr bb i => ∃ (k : Nat) (y : BitVec 32), k ≤ 8 ∧ i = .int .i64 k ∧ bb = .int .u8 (b.toNat / 2 ^ k : Nat) ∧ rr = .int .u32 y.toNat ∧ y ^^^ BitVec.ofNat 32 (b.toNat / 2 ^ k) = mvs k (r ^^^ BitVec.ofNat 32 b.toNat)) (fun _ _ i => 8 - (intOf i).toNat)
  case atStart => exact ⟨0, r, by omega, rfl, by simp, rfl, by simp [mvs]⟩
  case round =>
    obtain ⟨k, y, hk, rfl, rfl, rfl, he⟩ := hrel
    by_cases hlt : k < 8
    · obtain ⟨c, hc⟩ : ∃ c, c = b.toNat / 2 ^ k := ⟨_, rfl⟩
      have hb := b.toNat_lt
      have hc256 : c < 256 := by rw [hc]; exact Nat.lt_of_le_of_lt (Nat.div_le_self _ _) hb
      have hc2 : b.toNat / 2 ^ (k + 1) = c / 2 := by rw [hc, Nat.div_div_eq_div_mul, Nat.pow_succ]
      rw [← hc] at he ⊢
      have hst := step_bit y c hc256
      rw [he, ← mvs_last] at hst
      have HST := Lib.hid hst
      have HC2 := Lib.hid hc2
      have by_ := u32_lt y
      obtain ⟨g, hg⟩ : ∃ g, g = y >>> 1 := ⟨_, rfl⟩
      obtain ⟨g2, hg2⟩ : ∃ g2, g2 = g ^^^ poly := ⟨_, rfl⟩
      have hh := half_u32 y
      have hx := xor_poly g
      rw [← hg] at hh
      rw [← hg2] at hx
      have HG := Lib.hid hg
      have HG2 := Lib.hid hg2
      have bg := u32_lt g
      clear hst hc2 he hc hg hg2
      rcases Nat.mod_two_eq_zero_or_one y.toNat with m | m <;> rcases Nat.mod_two_eq_zero_or_one c with n | n
      · have m' : ((y.toNat : Int) % 2 == 1) = false := by rw [beq_eq_false_iff_ne]; omega
        have n' : ((c : Int) % 2 == 1) = false := by rw [beq_eq_false_iff_ne]; omega
        have HY : Hid (g ^^^ BitVec.ofNat 32 (c / 2) = mvs (k + 1) (r ^^^ BitVec.ofNat 32 b.toNat)) := by
          show _ = _
          have h := HST.out
          rw [m, n, ← HG.out] at h
          skip
          simpa using h
        clear m n HST
        go_wp2
        exact ⟨⟨k + 1, g, by omega, by go_num, by rw [HC2.out]; go_num, rfl, by rw [HC2.out]; exact HY.out⟩, by simp [intOf]; omega⟩
      · have m' : ((y.toNat : Int) % 2 == 1) = false := by rw [beq_eq_false_iff_ne]; omega
        have n' : ((c : Int) % 2 == 1) = true := by rw [beq_iff_eq]; omega
        have HY : Hid (g2 ^^^ BitVec.ofNat 32 (c / 2) = mvs (k + 1) (r ^^^ BitVec.ofNat 32 b.toNat)) := by
          show _ = _
          have h := HST.out
          rw [m, n, ← HG.out] at h
          rw [HG2.out]
          simpa using h
        clear m n HST
        go_wp2
        exact ⟨⟨k + 1, g2, by omega, by go_num, by rw [HC2.out]; go_num, rfl, by rw [HC2.out]; exact HY.out⟩, by simp [intOf]; omega⟩
      · have m' : ((y.toNat : Int) % 2 == 1) = true := by rw [beq_iff_eq]; omega
        have n' : ((c : Int) % 2 == 1) = false := by rw [beq_eq_false_iff_ne]; omega
        have HY : Hid (g2 ^^^ BitVec.ofNat 32 (c / 2) = mvs (k + 1) (r ^^^ BitVec.ofNat 32 b.toNat)) := by
          show _ = _
          have h := HST.out
          rw [m, n, ← HG.out] at h
          rw [HG2.out]
          simpa using h
        clear m n HST
        go_wp2
        exact ⟨⟨k + 1, g2, by omega, by go_num, by rw [HC2.out]; go_num, rfl, by rw [HC2.out]; exact HY.out⟩, by simp [intOf]; omega⟩
      · have m' : ((y.toNat : Int) % 2 == 1) = true := by rw [beq_iff_eq]; omega
        have n' : ((c : Int) % 2 == 1) = true := by rw [beq_iff_eq]; omega
        have HY : Hid (g ^^^ BitVec.ofNat 32 (c / 2) = mvs (k + 1) (r ^^^ BitVec.ofNat 32 b.toNat)) := by
          show _ = _
          have h := HST.out
          rw [m, n, ← HG.out] at h
          skip
          simpa using h
        clear m n HST
        go_wp2
        exact ⟨⟨k + 1, g, by omega, by go_num, by rw [HC2.out]; go_num, rfl, by rw [HC2.out]; exact HY.out⟩, by simp [intOf]; omega⟩
    · obtain rfl : k = 8 := by omega
      have hb := b.toNat_lt
      have h0 : b.toNat / 2 ^ 8 = 0 := Nat.div_eq_of_lt hb
      have hy : Hid (y = takeB r b) := by
        show _ = _
        rw [h0] at he
        simpa [takeB] using he
      clear he h0
      go_wp2
      go_ret
      exact ⟨by rw [← hy.out]; rfl, rfl⟩
end Go.Proofs.YtphljjgjpkdpmaaGreatDoor
