/- Several texts in one: CrC RfA FrA RelT FrB FrC FrD FrE FrF FrG PkM FrM. -/
import Derived.Test.YtphljjgjpkdpmaaGreatDoorW3
import Derived.Test.YtphljjgjpkdpmaaGreatDoorChecked
import Derived.Test.YtphljjgjpkdpmaaGreatDoorW1
import Derived.Shelf.Strings.Builder1
import Derived.Test.YtphljjgjpkdpmaaGreatDoorW2
/- What the package crc does: Sum and More. -/
namespace Go.Proofs.YtphljjgjpkdpmaaGreatDoor
open Go.RowKit
set_option linter.unusedVariables false
def allB (l : List ByteArray) : List UInt8 := l.flatMap fun s => s.data.toList
theorem takes_app (x : BitVec 32) (a b : List UInt8) : takes x (a ++ b) = takes (takes x a) b := by unfold takes; rw [List.foldl_append]
theorem not_u32 (x : BitVec 32) : ((~~~ x).toNat : Int) = 4294967295 - (x.toNat : Int) := by
  have := x.isLt
  rw [BitVec.toNat_not]; omega
theorem max_xor (y : BitVec 32) : bits .xor .u32 IntKind.u32.max (y.toNat : Int) = ((~~~ y).toNat : Int) := by
  have h := xor_u32 (BitVec.allOnes 32) y
  have e : BitVec.allOnes 32 ^^^ y = ~~~ y := by
    apply BitVec.eq_of_getLsbD_eq
    intro i hi
    rw [BitVec.getLsbD_xor, BitVec.getLsbD_not, BitVec.getLsbD_allOnes]
    simp [hi]
  rw [e] at h
  exact h
theorem row_str {w : World} {a : Option Addr} {c : Nat} {l : List ByteArray} {k : Nat} (h : RowAt w (.slice a l.length c) (l.map Value.string)) (hk : k < l.length) :
    ∃ bb off, a = some ⟨bb, off, none⟩ ∧ w.cell? ⟨bb, off + k, none⟩ = some (.string l[k]) := by
  obtain ⟨a', c', e, h⟩ := h
  injection e with e1 e2 e3
  subst e1
  rcases h with h | ⟨b, off, rfl, hb, hc⟩
  · have : l = [] := by simpa using h
    subst this; simp at hk
  · exact ⟨b, off, rfl, by rw [hc k (by simpa using hk)]; simp [List.getElem?_eq_getElem hk]⟩
set_option maxRecDepth 100000 in
set_option maxHeartbeats 1000000 in
theorem More_any (x : BitVec 32) (v : Value) (l : List ByteArray) (w : World) (hm : Mv w) (hr : RowAt w v (l.map Value.string)) (hs : ∀ s ∈ l, s.size ≤ maxLen) (hl : l.length ≤ maxLen) :
    Calls Tryz.prog 138 #[.int .u32 x.toNat, v] w fun e w' => e = .returned (.int .u32 (more x (allB l)).toNat) ∧ w = w' := by
  obtain ⟨a, c, rfl⟩ := hr.len
  rw [List.length_map] at hr ⊢
  unfold maxLen at hl
  have hl' : (l.length : Int) ≤ 9223372036854775807 := by omega
  have HS := Lib.hid hs
  have bx := u32_lt x
  clear hl hs
  go_enter Tryz.func138, Tryz.ntmps138
  obtain ⟨nx, hnx⟩ : ∃ nx, nx = ~~~ x := ⟨_, rfl⟩
  have hnot := max_xor x
  rw [← hnx] at hnot
  have HNX := Lib.hid hnx
  clear hnx
  go_wp2
  go_loop [5, 12] (fun r i => ∃ k : Nat, k ≤ l.length ∧ i = .int .i64 k ∧ r = .int .u32 (takes nx (allB (l.take k))).toNat) (fun _ i => l.length - (intOf i).toNat)
  case atStart => exact ⟨0, Nat.zero_le _, rfl, by simp [allB, takes]⟩
  case round =>
    obtain ⟨k, hk, rfl, rfl⟩ := hrel
    by_cases hlt : k < l.length
    · obtain ⟨bb, off, rfl, hcell⟩ := row_str hr hlt
      have hsz := HS.out l[k] (List.getElem_mem hlt)
      have HT : Hid (allB (l.take (k + 1)) = allB (l.take k) ++ l[k].data.toList) := by
        show _ = _
        unfold allB
        rw [List.take_succ_eq_append_getElem hlt, List.flatMap_append]
        simp only [List.flatMap_cons, List.flatMap_nil, List.append_nil]
      have HZ := Lib.hid hsz
      clear hsz
      go_wp2_with fail
      refine (take_any _ _ _ hm HZ.out).mono ?_
      rintro e w' ⟨rfl, rfl⟩
      go_wp2
      refine ⟨⟨k + 1, by omega, by go_num, by rw [HT.out, takes_app]⟩, by simp [intOf]; omega⟩
    · obtain rfl : k = l.length := by omega
      have ht : l.take l.length = l := List.take_length
      rw [ht]
      obtain ⟨z, hz⟩ : ∃ z, z = takes nx (allB l) := ⟨_, rfl⟩
      obtain ⟨nz, hnz⟩ : ∃ nz, nz = ~~~ z := ⟨_, rfl⟩
      have hnot2 := max_xor z
      rw [← hnz] at hnot2
      rw [← hz]
      have HE : Hid (more x (allB l) = nz) := by show _ = _; rw [hnz, hz, HNX.out]; rfl
      clear hz hnz ht hnot
      go_wp2
      go_ret
      exact ⟨by rw [HE.out]; rfl, rfl⟩
theorem Sum_any (v : Value) (l : List ByteArray) (w : World) (hm : Mv w) (hr : RowAt w v (l.map Value.string)) (hs : ∀ s ∈ l, s.size ≤ maxLen) (hl : l.length ≤ maxLen) :
    Calls Tryz.prog 115 #[v] w fun e w' => e = .returned (.int .u32 (more 0#32 (allB l)).toNat) ∧ w = w' := by
  have h := More_any 0#32 v l w hm hr hs hl
  have HH := Lib.hid h
  clear h
  go_enter Tryz.func115, Tryz.ntmps115
  go_wp2_with fail
  refine HH.out.mono ?_
  rintro e w' ⟨rfl, rfl⟩
  go_wp2
  go_ret
  exact ⟨rfl, rfl⟩
theorem bit0 (y : BitVec 32) : y.getLsbD 0 = (y.toNat % 2 == 1) := by
  rw [BitVec.getLsbD, Nat.testBit_zero]
  rcases Nat.mod_two_eq_zero_or_one y.toNat with h | h <;> simp [h]
theorem mvs_last (k : Nat) (x : BitVec 32) : mvs (k + 1) x = mv (mvs k x) := by rw [mvs_add k 1]; rfl
theorem step_bit (y : BitVec 32) (c : Nat) (hc : c < 256) : ((y >>> 1) ^^^ (if (y.toNat % 2 == 1) != (c % 2 == 1) then poly else 0#32)) ^^^ BitVec.ofNat 32 (c / 2) = mv (y ^^^ BitVec.ofNat 32 c) := by
  have e1 : (BitVec.ofNat 32 c) >>> 1 = BitVec.ofNat 32 (c / 2) := by
    apply BitVec.eq_of_toNat_eq
    rw [BitVec.toNat_ushiftRight, BitVec.toNat_ofNat, BitVec.toNat_ofNat, Nat.shiftRight_eq_div_pow]
    omega
  have e2 : (BitVec.ofNat 32 c).getLsbD 0 = (c % 2 == 1) := by
    rw [bit0, BitVec.toNat_ofNat, Nat.mod_eq_of_lt (by omega : c < 2 ^ 32)]
  rw [mv_xor]
  unfold mv
  rw [e1, e2, bit0]
  apply BitVec.eq_of_getLsbD_eq
  intro i hi
  simp only [BitVec.getLsbD_xor]
  generalize (y >>> 1).getLsbD i = p
  generalize (BitVec.ofNat 32 (c / 2)).getLsbD i = q
  cases (y.toNat % 2 == 1) <;> cases (c % 2 == 1) <;> simp <;> cases p <;> cases q <;> cases poly.getLsbD i <;> rfl
theorem half_u32 (y : BitVec 32) : (y.toNat : Int) / (2 : Int) = (((y >>> 1).toNat : Nat) : Int) := by
  rw [BitVec.toNat_ushiftRight, Nat.shiftRight_eq_div_pow]; omega
theorem xor_poly (y : BitVec 32) : bits .xor .u32 (y.toNat : Int) 3988292384 = ((y ^^^ poly).toNat : Int) := xor_u32 y poly
set_option maxRecDepth 100000 in
set_option maxHeartbeats 1000000 in
theorem taken_any (r : BitVec 32) (b : UInt8) (w : World) :
    Calls Tryz.prog 128 #[.int .u32 r.toNat, .int .u8 b.toNat] w fun e w' => e = .returned (.int .u32 (takeB r b).toNat) ∧ w = w' := by
  go_enter Tryz.func128, Tryz.ntmps128
  go_wp2
  go_loop [0, 1, 5] (fun rr bb i => ∃ (k : Nat) (y : BitVec 32), k ≤ 8 ∧ i = .int .i64 k ∧ bb = .int .u8 (b.toNat / 2 ^ k : Nat) ∧ rr = .int .u32 y.toNat ∧ y ^^^ BitVec.ofNat 32 (b.toNat / 2 ^ k) = mvs k (r ^^^ BitVec.ofNat 32 b.toNat)) (fun _ _ i => 8 - (intOf i).toNat)
  case atStart => exact ⟨0, r, by omega, rfl, by simp, rfl, by simp [mvs]⟩
  case round =>
    obtain ⟨k, y, hk, rfl, rfl, rfl, he⟩ := hrel
    by_cases hlt : k < 8
    · obtain ⟨c, hc⟩ : ∃ c, c = b.toNat / 2 ^ k := ⟨_, rfl⟩
      have hb := b.toNat_lt
      have hc256 : c < 256 := by rw [hc]; exact Nat.lt_of_le_of_lt (Nat.div_le_self _ _) hb
      have hc2 : b.toNat / 2 ^ (k + 1) = c / 2 := by rw [hc, Nat.div_div_eq_div_mul, Nat.pow_succ]
      rw [← hc] at he ⊢
      have hst := step_bit y c hc256
      rw [he, ← mvs_last] at hst
      have HST := Lib.hid hst
      have HC2 := Lib.hid hc2
      have by_ := u32_lt y
      obtain ⟨g, hg⟩ : ∃ g, g = y >>> 1 := ⟨_, rfl⟩
      obtain ⟨g2, hg2⟩ : ∃ g2, g2 = g ^^^ poly := ⟨_, rfl⟩
      have hh := half_u32 y
      have hx := xor_poly g
      rw [← hg] at hh
      rw [← hg2] at hx
      have HG := Lib.hid hg
      have HG2 := Lib.hid hg2
      have bg := u32_lt g
      clear hst hc2 he hc hg hg2
      rcases Nat.mod_two_eq_zero_or_one y.toNat with m | m <;> rcases Nat.mod_two_eq_zero_or_one c with n | n
      · have m' : ((y.toNat : Int) % 2 == 1) = false := by rw [beq_eq_false_iff_ne]; omega
        have n' : ((c : Int) % 2 == 1) = false := by rw [beq_eq_false_iff_ne]; omega
        have HY : Hid (g ^^^ BitVec.ofNat 32 (c / 2) = mvs (k + 1) (r ^^^ BitVec.ofNat 32 b.toNat)) := by
          show _ = _
          have h := HST.out
          rw [m, n, ← HG.out] at h
          skip
          simpa using h
        clear m n HST
        go_wp2
        exact ⟨⟨k + 1, g, by omega, by go_num, by rw [HC2.out]; go_num, rfl, by rw [HC2.out]; exact HY.out⟩, by simp [intOf]; omega⟩
      · have m' : ((y.toNat : Int) % 2 == 1) = false := by rw [beq_eq_false_iff_ne]; omega
        have n' : ((c : Int) % 2 == 1) = true := by rw [beq_iff_eq]; omega
        have HY : Hid (g2 ^^^ BitVec.ofNat 32 (c / 2) = mvs (k + 1) (r ^^^ BitVec.ofNat 32 b.toNat)) := by
          show _ = _
          have h := HST.out
          rw [m, n, ← HG.out] at h
          rw [HG2.out]
          simpa using h
        clear m n HST
        go_wp2
        exact ⟨⟨k + 1, g2, by omega, by go_num, by rw [HC2.out]; go_num, rfl, by rw [HC2.out]; exact HY.out⟩, by simp [intOf]; omega⟩
      · have m' : ((y.toNat : Int) % 2 == 1) = true := by rw [beq_iff_eq]; omega
        have n' : ((c : Int) % 2 == 1) = false := by rw [beq_eq_false_iff_ne]; omega
        have HY : Hid (g2 ^^^ BitVec.ofNat 32 (c / 2) = mvs (k + 1) (r ^^^ BitVec.ofNat 32 b.toNat)) := by
          show _ = _
          have h := HST.out
          rw [m, n, ← HG.out] at h
          rw [HG2.out]
          simpa using h
        clear m n HST
        go_wp2
        exact ⟨⟨k + 1, g2, by omega, by go_num, by rw [HC2.out]; go_num, rfl, by rw [HC2.out]; exact HY.out⟩, by simp [intOf]; omega⟩
      · have m' : ((y.toNat : Int) % 2 == 1) = true := by rw [beq_iff_eq]; omega
        have n' : ((c : Int) % 2 == 1) = true := by rw [beq_iff_eq]; omega
        have HY : Hid (g ^^^ BitVec.ofNat 32 (c / 2) = mvs (k + 1) (r ^^^ BitVec.ofNat 32 b.toNat)) := by
          show _ = _
          have h := HST.out
          rw [m, n, ← HG.out] at h
          skip
          simpa using h
        clear m n HST
        go_wp2
        exact ⟨⟨k + 1, g, by omega, by go_num, by rw [HC2.out]; go_num, rfl, by rw [HC2.out]; exact HY.out⟩, by simp [intOf]; omega⟩
    · obtain rfl : k = 8 := by omega
      have hb := b.toNat_lt
      have h0 : b.toNat / 2 ^ 8 = 0 := Nat.div_eq_of_lt hb
      have hy : Hid (y = takeB r b) := by
        show _ = _
        rw [h0] at he
        simpa [takeB] using he
      clear he h0
      go_wp2
      go_ret
      exact ⟨by rw [← hy.out]; rfl, rfl⟩
end Go.Proofs.YtphljjgjpkdpmaaGreatDoor
/- What the document's answer for layer 1 is: Num. -/
namespace Go.Proofs.YtphljjgjpkdpmaaGreatDoor
open Go.RowKit
set_option linter.unusedVariables false
/-- One byte as a string. -/
def str1 (x : Int) : ByteArray := ⟨#[UInt8.ofNat x.toNat]⟩
theorem conv_one {P : Program} {src dst e : TypeId} (hs : P.underlying src = some (.slice e)) (he : P.underlying e = some (.int .u8)) (hd : P.underlying dst = some .string) (w : World) (x : Int) (t : TypeId) :
    (convert src dst (.slice (some ⟨w.heap.size, 0, none⟩) 1 1)).run P (w.alloc (.cells #[.int .u8 x] t)) = .ok (.string (str1 x)) (w.alloc (.cells #[.int .u8 x] t)) := by
  rw [run_convert_bytes_string _ src dst e _ _ _ hs he hd, run_bytesToString _ ⟨w.heap.size, 0, none⟩ 1 1 [x]]
  · rfl
  · have := run_loadCells_list (P := P) (w.alloc (.cells #[.int .u8 x] t)) ⟨w.heap.size, 0, none⟩ [.int .u8 x] (cells_new1 w _ t)
    exact this
theorem str1_low {z : Nat} : str1 (z : Int) = ⟨[z.toUInt8].toArray⟩ := rfl
theorem app_lists (x y : List UInt8) : (⟨x.toArray⟩ : ByteArray) ++ ⟨y.toArray⟩ = ⟨(x ++ y).toArray⟩ := ByteArray.mk_append_mk x y
theorem zig_neg {n : Int} (hn : -9223372036854775808 ≤ n ∧ n ≤ 9223372036854775807) (h : n < 0) : IntKind.u64.wrap (IntKind.u64.wrap (-IntKind.u64.wrap (IntKind.u64.wrap n * 2)) - 1) = (Lib.zigzag n : Int) := by
  rw [IntKind.wrap_u64, IntKind.wrap_u64, IntKind.wrap_u64, IntKind.wrap_u64, Lib.zigzag, if_neg (by omega)]
  omega
theorem zig_pos {n : Int} (hn : -9223372036854775808 ≤ n ∧ n ≤ 9223372036854775807) (h : ¬ n < 0) : IntKind.u64.wrap (IntKind.u64.wrap n * 2) = (Lib.zigzag n : Int) := by
  rw [IntKind.wrap_u64, IntKind.wrap_u64, Lib.zigzag, if_pos (by omega)]
  omega
set_option maxRecDepth 100000 in
set_option maxHeartbeats 1000000 in
theorem refNum_any (n : Int) (w : World) (hn : -9223372036854775808 ≤ n ∧ n ≤ 9223372036854775807) :
    Calls Tryz.prog 61 #[.int .i64 n] w fun e w' => e = .returned (.string ⟨(numB n).toArray⟩) ∧ w.grownBy w' none := by
  have hcv := conv_one (P := Tryz.prog) Tryz.underlying50 Tryz.underlying5 Tryz.underlying9
  have hL := numB_len hn
  have HZ := Lib.hid (Lib.zigzag_lt hn.1 hn.2)
  have hcase : (n < 0 ∧ IntKind.u64.wrap (IntKind.u64.wrap (-IntKind.u64.wrap (IntKind.u64.wrap n * 2)) - 1) = (Lib.zigzag n : Int)) ∨ (0 ≤ n ∧ IntKind.u64.wrap (IntKind.u64.wrap n * 2) = (Lib.zigzag n : Int)) := by
    rcases Int.lt_or_le n 0 with h | h
    · exact .inl ⟨h, zig_neg hn h⟩
    · exact .inr ⟨h, zig_pos hn (by omega)⟩
  have hdl : n < 0 → decide (n < 0) = true := by intro h; simpa using h
  have hdr : 0 ≤ n → decide (n < 0) = false := by intro h; simpa using h
  rcases hcase with ⟨h, zz⟩ | ⟨h, zz⟩
  · have hd := hdl h
    clear hdl hdr
    go_enter Tryz.func61, Tryz.ntmps61
    go_wp2
    clear zz
    go_loopw [3, 4] (fun s o wr => ∃ (z : Nat) (pre : List UInt8), z < 18446744073709551616 ∧ s = .int .u64 z ∧ o = .string ⟨pre.toArray⟩ ∧ pre ++ Lib.uvarint z = numB n ∧ w.grownBy wr none) (fun s _ _ => (intOf s).toNat)
    case atStart => exact ⟨Lib.zigzag n, [], HZ.out, by first | rfl | (congr 1; exact (Lib.zigzag_nonneg h).symm), rfl, rfl, grow_refl _ _⟩
    case round =>
      obtain ⟨z, pre, hz, rfl, rfl, hp, hg⟩ := hrel
      have hpl : pre.length + (Lib.uvarint z).length ≤ 10 := by rw [← hp, List.length_append] at hL; exact hL
      have hlp := Lib.uvarint_pos z
      have hq : (z : Int) / 128 ≤ 144115188075855872 := by omega
      have HP := Lib.hid hp
      have HZZ := Lib.hid hz
      clear hp hL hz
      have hpi : (pre.length : Int) ≤ 10 := by omega
      have hs1 : ∀ x : Int, (str1 x).size = 1 := fun _ => rfl
      by_cases h128 : z < 128
      · have h1 : ((128 : Int) ≤ (z : Int)) = False := by simp; omega
        have ew : IntKind.u8.wrap (z : Int) = (z : Int) := IntWalk.u8_in _ (by omega)
        go_wp2
        go_ret
        refine ⟨?_, grow_none hg (World.grownBy_alloc _ _ _)⟩
        show Ending.returned (Value.string _) = _
        rw [str1_low, app_lists, ← HP.out, Lib.uvarint_small h128]
      · have h1 : (128 : Int) ≤ (z : Int) := by omega
        have hp2 : (pre ++ [(z % 128 + 128).toUInt8]) ++ Lib.uvarint (z / 128) = numB n := by
          rw [← HP.out, Lib.uvarint_big (x := z) (by omega), List.append_assoc]; rfl
        have HQ := Lib.hid hp2
        clear hp2
        go_wp2
        refine ⟨⟨z / 128, pre ++ [(z % 128 + 128).toUInt8], ?_, by go_num, ?_, HQ.out, grow_none hg (World.grownBy_alloc _ _ _)⟩, by simp [intOf]; omega⟩
        · have := HZZ.out; omega
        · rw [show (z : Int) % 128 + 128 = ((z % 128 + 128 : Nat) : Int) from by omega, str1_low, app_lists]
  · have hd := hdr h
    clear hdl hdr
    go_enter Tryz.func61, Tryz.ntmps61
    go_wp2
    clear zz
    go_loopw [3, 4] (fun s o wr => ∃ (z : Nat) (pre : List UInt8), z < 18446744073709551616 ∧ s = .int .u64 z ∧ o = .string ⟨pre.toArray⟩ ∧ pre ++ Lib.uvarint z = numB n ∧ w.grownBy wr none) (fun s _ _ => (intOf s).toNat)
    case atStart => exact ⟨Lib.zigzag n, [], HZ.out, by first | rfl | (congr 1; exact (Lib.zigzag_nonneg h).symm), rfl, rfl, grow_refl _ _⟩
    case round =>
      obtain ⟨z, pre, hz, rfl, rfl, hp, hg⟩ := hrel
      have hpl : pre.length + (Lib.uvarint z).length ≤ 10 := by rw [← hp, List.length_append] at hL; exact hL
      have hlp := Lib.uvarint_pos z
      have hq : (z : Int) / 128 ≤ 144115188075855872 := by omega
      have HP := Lib.hid hp
      have HZZ := Lib.hid hz
      clear hp hL hz
      have hpi : (pre.length : Int) ≤ 10 := by omega
      have hs1 : ∀ x : Int, (str1 x).size = 1 := fun _ => rfl
      by_cases h128 : z < 128
      · have h1 : ((128 : Int) ≤ (z : Int)) = False := by simp; omega
        have ew : IntKind.u8.wrap (z : Int) = (z : Int) := IntWalk.u8_in _ (by omega)
        go_wp2
        go_ret
        refine ⟨?_, grow_none hg (World.grownBy_alloc _ _ _)⟩
        show Ending.returned (Value.string _) = _
        rw [str1_low, app_lists, ← HP.out, Lib.uvarint_small h128]
      · have h1 : (128 : Int) ≤ (z : Int) := by omega
        have hp2 : (pre ++ [(z % 128 + 128).toUInt8]) ++ Lib.uvarint (z / 128) = numB n := by
          rw [← HP.out, Lib.uvarint_big (x := z) (by omega), List.append_assoc]; rfl
        have HQ := Lib.hid hp2
        clear hp2
        go_wp2
        refine ⟨⟨z / 128, pre ++ [(z % 128 + 128).toUInt8], ?_, by go_num, ?_, HQ.out, grow_none hg (World.grownBy_alloc _ _ _)⟩, by simp [intOf]; omega⟩
        · have := HZZ.out; omega
        · rw [show (z : Int) % 128 + 128 = ((z % 128 + 128 : Nat) : Int) from by omega, str1_low, app_lists]
end Go.Proofs.YtphljjgjpkdpmaaGreatDoor
/- Stage 4: the document's sum; the four bytes of a sum; a payload's frame by the document. -/
namespace Go.Proofs.YtphljjgjpkdpmaaGreatDoor
open Go.RowKit
set_option linter.unusedVariables false
set_option maxRecDepth 100000 in
set_option maxHeartbeats 1000000 in
theorem refMore_any (x : BitVec 32) (s : ByteArray) (w : World) (hs : s.size ≤ maxLen) :
    Calls Tryz.prog 102 #[.int .u32 x.toNat, .string s] w fun e w' => e = .returned (.int .u32 (more x s.data.toList).toNat) ∧ w = w' := by
  unfold maxLen at hs
  have hs' : (s.size : Int) ≤ 9223372036854775807 := by omega
  have bx := u32_lt x
  obtain ⟨nx, hnx⟩ : ∃ nx, nx = ~~~ x := ⟨_, rfl⟩
  have hnot := not_u32 x
  rw [← hnx] at hnot
  have HNX := Lib.hid hnx
  have HNT := Lib.hid hnot
  clear hnx hs hnot
  go_enter Tryz.func102, Tryz.ntmps102
  go_wp2
  go_loop [5, 6] (fun r i => ∃ k : Nat, k ≤ s.size ∧ i = .int .i64 k ∧ r = .int .u32 (takes nx (s.data.toList.take k)).toNat) (fun _ i => s.size - (intOf i).toNat)
  case atStart => exact ⟨0, Nat.zero_le _, rfl, by show Value.int .u32 _ = .int .u32 (nx.toNat : Int); rw [HNT.out]⟩
  case round =>
    obtain ⟨k, hk, rfl, rfl⟩ := hrel
    by_cases hlt : k < s.size
    · have HT : Hid (takes nx (s.data.toList.take (k + 1)) = takeB (takes nx (s.data.toList.take k)) s[k]) := by
        have hl : k < s.data.toList.length := by rw [Array.length_toList]; exact hlt
        show _ = _
        rw [List.take_succ_eq_append_getElem hl, takes, List.foldl_append, List.foldl_cons, List.foldl_nil, ← takes]
        rfl
      go_wp2_with fail
      refine (taken_any _ _ _).mono ?_
      rintro e w' ⟨rfl, rfl⟩
      go_wp2
      refine ⟨⟨k + 1, by omega, by go_num, by rw [HT.out]⟩, by simp [intOf]; omega⟩
    · obtain rfl : k = s.size := by omega
      have ht : s.data.toList.take s.size = s.data.toList := List.take_of_length_le (by rw [Array.length_toList]; exact Nat.le_refl _)
      rw [ht]
      obtain ⟨z, hz⟩ : ∃ z, z = takes nx s.data.toList := ⟨_, rfl⟩
      obtain ⟨nz, hnz⟩ : ∃ nz, nz = ~~~ z := ⟨_, rfl⟩
      have hnot2 := not_u32 z
      rw [← hnz] at hnot2
      rw [← hz]
      have HE : Hid (more x s.data.toList = nz) := by show _ = _; rw [hnz, hz, HNX.out]; rfl
      have HN2 := Lib.hid hnot2
      have bz := u32_lt z
      clear hz hnz ht hnot2
      go_wp2
      go_ret
      exact ⟨by rw [HE.out, HN2.out]; rfl, rfl⟩
theorem refSum_any (s : ByteArray) (w : World) (hs : s.size ≤ maxLen) :
    Calls Tryz.prog 87 #[.string s] w fun e w' => e = .returned (.int .u32 (more 0#32 s.data.toList).toNat) ∧ w = w' := by
  have h := refMore_any 0#32 s w hs
  have HH := Lib.hid h
  clear h
  go_enter Tryz.func87, Tryz.ntmps87
  go_wp2_with fail
  refine HH.out.mono ?_
  rintro e w' ⟨rfl, rfl⟩
  go_wp2
  go_ret
  exact ⟨rfl, rfl⟩
/-- The four bytes of a sum, the lowest first. -/
def sumB (x : Nat) : List UInt8 := [x.toUInt8, (x / 256).toUInt8, (x / 65536).toUInt8, (x / 16777216).toUInt8]
def crcN (p : ByteArray) : Nat := (more 0#32 p.data.toList).toNat
theorem sum_cells (x : Nat) (hx : (x : Int) ≤ 4294967295) : (sumB x).map c8 = [.int .u8 ((x : Int) % 256), .int .u8 ((x : Int) / 256 % 256), .int .u8 ((x : Int) / 65536 % 256), .int .u8 ((x : Int) / 16777216)] := by
  unfold sumB c8
  simp only [List.map_cons, List.map_nil, Nat.toUInt8_eq, UInt8.toNat_ofNat']
  have e : (x : Int) / 16777216 = ((x / 16777216 % 2 ^ 8 : Nat) : Int) := by omega
  rw [e]
  rfl
theorem sum_conv (x : Nat) (w : World) (hx : (x : Int) ≤ 4294967295) :
    (convert 50 9 (.slice (some ⟨w.heap.size, 0, none⟩) 4 4)).run Tryz.prog (w.alloc (.cells #[.int .u8 ((x : Int) % 256), .int .u8 ((x : Int) / 256 % 256), .int .u8 ((x : Int) / 65536 % 256), .int .u8 ((x : Int) / 16777216)] 5))
      = .ok (.string ⟨(sumB x).toArray⟩) (w.alloc (.cells #[.int .u8 ((x : Int) % 256), .int .u8 ((x : Int) / 256 % 256), .int .u8 ((x : Int) / 65536 % 256), .int .u8 ((x : Int) / 16777216)] 5)) := by
  have hb : Blk (w.alloc (.cells ((sumB x).map c8).toArray 5)) w.heap.size 5 ((sumB x).map c8) := Blk.new _ _ _
  have h := run_str_buf (P := Tryz.prog) _ Tryz.underlying50 Tryz.underlying5 Tryz.underlying9 (hb.own 4 rfl (by unfold maxLen; omega))
  rw [sum_cells x hx] at h
  exact h
set_option maxRecDepth 100000 in
set_option maxHeartbeats 1000000 in
theorem sumBytes_any (p : ByteArray) (w : World) (hm : Mv w) (hp : p.size ≤ maxLen) :
    Calls Tryz.prog 97 #[.string p] w fun e w' => e = .returned (.string ⟨(sumB (crcN p)).toArray⟩) ∧ w.grownBy w' none := by
  have gA := World.grownBy_alloc w (.cells #[.string p] 9) none
  have rA := RowAt.lit w ([p].map Value.string) 9 1 1 rfl
  simp only [List.map_cons, List.map_nil] at rA
  have hpm : ∀ s ∈ [p], s.size ≤ maxLen := by
    intro s hs; rw [List.mem_singleton] at hs; rw [hs]; exact hp
  have HPM := Lib.hid hpm
  clear hpm hp
  go_enter Tryz.func97, Tryz.ntmps97
  go_wp2_with fail
  refine (Sum_any _ [p] _ (hm.kept gA) rA HPM.out (by show 1 ≤ 2^63-1; omega)).mono ?_
  rintro e w2 ⟨rfl, rfl⟩
  have e1 : (more 0#32 (allB [p])).toNat = crcN p := by unfold crcN allB; simp
  rw [e1]
  clear rA
  have hb : ((crcN p : Nat) : Int) ≤ 4294967295 := by
    have := (more 0#32 p.data.toList).isLt
    unfold crcN; omega
  obtain ⟨x, hx⟩ : ∃ x, x = crcN p := ⟨_, rfl⟩
  rw [← hx] at hb ⊢
  have HX := Lib.hid hx
  generalize w.alloc (.cells #[.string p] 9) = w1 at gA ⊢
  have hconv := sum_conv x w1 hb
  have gB := World.grownBy_alloc w1 (.cells #[.int .u8 ((x : Int) % 256), .int .u8 ((x : Int) / 256 % 256), .int .u8 ((x : Int) / 65536 % 256), .int .u8 ((x : Int) / 16777216)] 5) none
  clear hx e1
  go_wp2
  go_ret
  exact ⟨by rw [← HX.out]; rfl, grow_none gA gB⟩
end Go.Proofs.YtphljjgjpkdpmaaGreatDoor
/- A region that draws its order and ends in one operation behind all others (a store, an assignment): the others each alone, the last one as in a plain statement. -/
namespace Go.Proofs.YtphljjgjpkdpmaaGreatDoor
open Go.RowKit
set_option linter.unusedVariables false
section
variable {P : Program} {ops : Array Oper} {I : World → Prop} {R : World → World → Prop}
/-- The last operation waits for all others. -/
def tailOk (ops : Array Oper) (m : Nat) : Bool :=
  (ops.size == m + 1) && match ops[m]? with
    | none => false
    | some o => o.guard.isNone && (List.range m).all fun j => o.after.toList.any fun e => Region.binds .any e && (e.on == j)
theorem tailOk_parts {m : Nat} (h : tailOk ops m = true) : ops.size = m + 1 ∧ ∃ o, ops[m]? = some o ∧ o.guard = none ∧ ∀ j, j < m → ∃ e ∈ o.after, Region.binds .any e = true ∧ e.on = j := by
  unfold tailOk at h
  rw [Bool.and_eq_true, beq_iff_eq] at h
  obtain ⟨h1, h2⟩ := h
  refine ⟨h1, ?_⟩
  cases ho : ops[m]? with
  | none => rw [ho] at h2; cases h2
  | some o =>
    rw [ho] at h2
    simp only [Bool.and_eq_true, List.all_eq_true, List.any_eq_true, beq_iff_eq, List.mem_range] at h2
    refine ⟨o, rfl, by simpa using h2.1, fun j hj => ?_⟩
    obtain ⟨e, he, hb, hon⟩ := h2.2 j hj
    exact ⟨e, by simpa using he, hb, hon⟩
structure RelAllT (P : Program) (ops : Array Oper) (m : Nat) (I : World → Prop) (R : World → World → Prop) (a0 : Act) (Vf : List (Value → World → Prop)) : Prop where
  len : Vf.length = m
  stable : ∀ V ∈ Vf, ∀ v w w', R w w' → V v w → V v w'
  step : ∀ (i : Nat) o, i < m → ops[i]? = some o → ∀ w, I w → relDeps ops (Vf.take i) w o.after.toList (relStep P ops o I R (Vf.getD i (fun _ _ => False)) w) a0
theorem relAllT_of (a0 : Act) (m : Nat) {K : List (Value → World → Prop) → Prop} : ∀ (l : List Oper) (Vs : List (Value → World → Prop)), (∀ j, j < l.length → l[j]? = ops[Vs.length + j]?) → Vs.length + l.length = m →
    (∀ V ∈ Vs, ∀ v w w', R w w' → V v w → V v w') → (∀ (i : Nat) o, i < Vs.length → ops[i]? = some o → ∀ w, I w → relDeps ops (Vs.take i) w o.after.toList (relStep P ops o I R (Vs.getD i (fun _ _ => False)) w) a0) →
    wpRel P ops I R a0 K l Vs → ∃ Vf, RelAllT P ops m I R a0 Vf ∧ K Vf
  | [], Vs, _, hl, hs, hst, h => ⟨Vs, ⟨by simpa using hl, hs, fun i o hi ho => hst i o (by simp at hl; omega) ho⟩, h⟩
  | o :: l, Vs, ho, hl, hs, hst, ⟨V, h1, h2, h3⟩ => by
    refine relAllT_of a0 m l (Vs ++ [V]) (fun j hj => ?_) (by simp at hl ⊢; omega) (fun V' hV' => ?_) (fun i o' hi ho' => ?_) h3
    · have := ho (j + 1) (by simp; omega)
      rw [List.getElem?_cons_succ] at this
      rw [this, List.length_append, List.length_singleton]
      congr 1; omega
    · rcases List.mem_append.1 hV' with h | h
      · exact hs V' h
      · rw [List.mem_singleton] at h; rw [h]; exact h1
    · rw [List.length_append, List.length_singleton] at hi
      by_cases hlt : i < Vs.length
      · have e1 : (Vs ++ [V]).take i = Vs.take i := List.take_append_of_le_length (by omega)
        have e2 : (Vs ++ [V]).getD i (fun _ _ => False) = Vs.getD i (fun _ _ => False) := by
          rw [List.getD, List.getD, List.getElem?_append_left hlt]
        rw [e1, e2]
        exact hst i o' hlt ho'
      · obtain rfl : i = Vs.length := by omega
        have e1 : (Vs ++ [V]).take Vs.length = Vs := List.take_left
        have e2 : (Vs ++ [V]).getD Vs.length (fun _ _ => False) = V := by
          rw [List.getD, List.getElem?_append_right (Nat.le_refl _)]; simp
        rw [e1, e2]
        have h0 := ho 0 (by simp)
        simp at h0
        rw [ho'] at h0
        injection h0 with h0
        subst h0
        exact h2
/-- Every operation but the last is listed. -/
def AllBut (ops : Array Oper) (m : Nat) : Array Bool := (Array.replicate ops.size true).setIfInBounds m false
theorem relT_sound {a0 : Act} {m : Nat} {Vf : List (Value → World → Prop)} {Q : Exit → Act → World → Prop} (hok : relOk ops a0.tmps.size = true) (ht : tailOk ops m = true) (hA : RelAllT P ops m I R a0 Vf) (hR : ∀ w, R w w)
    (hend : ∀ o, ops[m]? = some o → ∀ a w, I w → a.defers = a0.defers → a.tmps.size = a0.tmps.size → (∀ t, t ∉ (ops.toList.take m).filterMap (·.dst) → a.tmps[t]? = a0.tmps[t]?) →
      (∀ (j : Nat) p, j < m → ops[j]? = some p → ∃ v, (Vf.getD j (fun _ _ => False)) v w ∧ ∀ d, p.dst = some d → a.tmps[d]? = some v) → o.wp P a w (fun a' w' => Q .normal a' w') Q) :
    ∀ (fuel : Nat) (listed : Array Bool) (a : Act) (w : World), listed.toList.count false ≤ fuel → listed.getD m true = false → I w → a.defers = a0.defers → a.tmps.size = a0.tmps.size → listed.size = ops.size →
      (∀ t, t ∉ (ops.toList.take m).filterMap (·.dst) → a.tmps[t]? = a0.tmps[t]?) →
      (∀ (j : Nat) p, j < m → ops[j]? = some p → listed.getD j false = true → ∃ v, (Vf.getD j (fun _ _ => False)) v w ∧ ∀ d, p.dst = some d → a.tmps[d]? = some v) → wpAny P .any ops Q fuel listed a w := by
  obtain ⟨hd, hn, hsel, hpart⟩ := relOk_parts hok
  obtain ⟨hsz, om, hom, hgd, hwait⟩ := tailOk_parts ht
  have noReady : ∀ (listed : Array Bool), listed.getD m true = false → listed.size = ops.size → Region.ready .any ops listed = [] → False := by
    intro listed hm hls hr
    have all : ∀ j, j < ops.size → listed.getD j false = true := by
      intro j
      induction j using Nat.strongRecOn with
      | _ j ih =>
        intro hj
        by_cases hf : listed.getD j false = true
        · exact hf
        · exfalso
          have hjl : j < listed.size := by rw [hls]; exact hj
          have hft : listed.getD j true = false := by
            simp [Array.getElem?_eq_getElem hjl] at hf ⊢
            exact hf
          have : j ∈ Region.ready .any ops listed := mem_ready.2 ⟨hft, ops[j], Array.getElem?_eq_getElem hj, fun e he hb => by
            have := (hpart j _ (Array.getElem?_eq_getElem hj)).1 e he hb
            exact ih e.on this (by omega)⟩
          rw [hr] at this
          cases this
    have h1 := all m (by omega)
    have hml := getD_false_of hm
    simp [Array.getElem?_eq_getElem hml] at hm h1
    rw [hm] at h1; cases h1
  intro fuel
  induction fuel with
  | zero =>
    intro listed a w hc hm hI _ _ hls _ _
    exfalso
    have hml := getD_false_of hm
    have hz : listed.toList.count false = 0 := by omega
    rw [List.count_eq_zero] at hz
    apply hz
    have e : listed[m] = false := by simpa [Array.getElem?_eq_getElem hml] using hm
    rw [← e]
    simp
  | succ fuel ih =>
    intro listed a w hc hm hI hdef hsize hls hrest hvals
    refine ⟨fun hr => (noReady listed hm hls hr).elim, fun i hi => ?_⟩
    obtain ⟨h0, o, ho, hafter⟩ := mem_ready.1 hi
    have hil := getD_false_of h0
    have hlt : i < ops.size := (Array.getElem?_eq_some_iff.1 ho).1
    by_cases him : i = m
    · subst him
      rw [hom] at ho
      injection ho with ho
      subst ho
      have hall : ∀ j, j < i → listed.getD j false = true := fun j hj => by
        obtain ⟨e, he, hb, hon⟩ := hwait j hj
        rw [← hon]; exact hafter e he hb
      have hw := hend om hom a w hI hdef hsize hrest (fun j p hj hp => hvals j p hj hp (hall j hj))
      unfold wpOp
      simp only [hom]
      rw [if_pos (by simp [Region.wanted, hgd])]
      refine .inl (Oper.wp_mono (fun a' w' hq => ?_) hw)
      -- all are listed now
      have hnone : Region.ready .any ops (listed.setIfInBounds i true) = [] := by
        rcases hr : Region.ready .any ops (listed.setIfInBounds i true) with _ | ⟨j, js⟩
        · rfl
        · exfalso
          have hj : j ∈ Region.ready .any ops (listed.setIfInBounds i true) := by rw [hr]; exact List.mem_cons_self ..
          obtain ⟨h1, o', ho', _⟩ := mem_ready.1 hj
          have hjs : j < ops.size := (Array.getElem?_eq_some_iff.1 ho').1
          by_cases hji : j = i
          · subst hji
            simp [hil] at h1
          · rw [getD_set_ne true (fun e => hji e.symm)] at h1
            have h2 := hall j (by omega)
            have hjl := getD_false_of h1
            simp [Array.getElem?_eq_getElem hjl] at h1 h2
            rw [h1] at h2; cases h2
      cases fuel with
      | zero => exact ⟨hnone, hq⟩
      | succ fuel => exact ⟨fun _ => hq, fun j hj => by rw [hnone] at hj; cases hj⟩
    · have him' : i < m := by omega
      obtain ⟨hback, hlook⟩ := hpart i o ho
      have hvs : ∃ vs : Nat → Value, ∀ (j : Nat) p, j < m → ops[j]? = some p → listed.getD j false = true → (Vf.getD j (fun _ _ => False)) (vs j) w ∧ ∀ d, p.dst = some d → a.tmps[d]? = some (vs j) := by
        refine Classical.axiomOfChoice (r := fun j v => ∀ p, j < m → ops[j]? = some p → listed.getD j false = true → (Vf.getD j (fun _ _ => False)) v w ∧ ∀ d, p.dst = some d → a.tmps[d]? = some v) fun j => ?_
        cases hp : ops[j]? with
        | none => exact ⟨undef, fun p _ h => by cases h⟩
        | some p =>
          by_cases hl : listed.getD j false = true
          · by_cases hjm : j < m
            · obtain ⟨v, h1, h2⟩ := hvals j p hjm hp hl
              exact ⟨v, fun p' _ h _ => by injection h with h; subst h; exact ⟨h1, h2⟩⟩
            · exact ⟨undef, fun p' h => absurd h hjm⟩
          · exact ⟨undef, fun p' _ _ h => absurd h hl⟩
      obtain ⟨vs, hvs⟩ := hvs
      have hlisted : ∀ e ∈ o.after.toList, useEdge e = true → listed.getD e.on false = true := fun e he hu => hafter e (by simpa using he) (useEdge_binds hu)
      have hbk : ∀ e ∈ o.after.toList, useEdge e = true → e.on < i := fun e he hu => hback e (by simpa using he) (useEdge_binds hu)
      have hdeps := relDeps_at (ops := ops) (Vs := Vf.take i) (w := w) vs o.after.toList a0 (fun e he hu p hp => by
        have hlt := hbk e he hu
        have e1 : (Vf.take i).getD e.on (fun _ _ => False) = Vf.getD e.on (fun _ _ => False) := by
          rw [List.getD, List.getD, List.getElem?_take, if_pos hlt]
        rw [e1]
        exact (hvs e.on p (by omega) hp (hlisted e he hu)).1) (hA.step i o him' ho w hI)
      generalize hcan : o.after.toList.foldl (fun a e => if useEdge e = true then a.put ((ops[e.on]?).bind (·.dst)) (vs e.on) else a) a0 = can at hdeps
      have hsame : ∀ t ∈ o.looksAt ops, can.tmps[t]? = a.tmps[t]? := by
        intro t ht
        rw [← hcan]
        refine fold_tmps (ops := ops) vs a o.after.toList a0 hsize.symm (fun e he hu d hd' => ?_) t ?_
        · cases hp : ops[e.on]? with
          | none => rw [hp] at hd'; cases hd'
          | some p =>
            rw [hp] at hd'
            have := hbk e he hu
            exact (hvs e.on p (by omega) hp (hlisted e he hu)).2 d hd'
        · rcases hlook t ht with h | h
          · refine .inl (hrest t fun hm' => h ?_)
            unfold relDsts
            obtain ⟨x, hx, hxd⟩ := List.mem_filterMap.1 hm'
            exact List.mem_filterMap.2 ⟨x, List.mem_of_mem_take hx, hxd⟩
          · exact .inr h
      have hsl : ∀ cs b, o.op ≠ .select cs b := fun cs b => Region.noSelect_spec hsel i o cs b ho
      obtain ⟨he1, he2⟩ := same_step (ops := ops) hsl hsame
      have hstep : relStep P ops o I R (Vf.getD i (fun _ _ => False)) w a := by
        unfold relStep at hdeps ⊢
        rw [← he1, ← he2]
        exact hdeps
      refine wpOp_of_rel ho hstep (fun v w' hv hI' hRw => ih _ _ _ (count_set hil h0 hc) (by rw [getD_set_ne true him]; exact hm) hI' (by rw [put_defers', hdef]) (by rw [put_size, hsize]) (by simpa using hls) (fun t ht => ?_) (fun j p hj hp hl => ?_)) hI (hR w)
      · cases hdo : o.dst with
        | none => exact hrest t ht
        | some d =>
          have hdm := dst_mem ho hdo
          have hdt : d ≠ t := fun e => ht (List.mem_filterMap.2 ⟨o, by
            rw [List.mem_take_iff_getElem]
            refine ⟨i, by rw [Array.length_toList]; omega, ?_⟩
            have := (Array.getElem?_eq_some_iff.1 ho).2
            rw [← this]; simp, by rw [hdo, e]⟩)
          rw [put_tmps _ _ _ _ (by rw [hsize]; exact hd d hdm), if_neg hdt]
          exact hrest t ht
      · by_cases hij : i = j
        · subst hij
          rw [ho] at hp
          injection hp with hp
          subst hp
          refine ⟨v, hv, fun d hdo => ?_⟩
          rw [hdo, put_tmps _ _ _ _ (by rw [hsize]; exact hd d (dst_mem ho hdo)), if_pos rfl]
        · rw [getD_set_ne false hij] at hl
          obtain ⟨u, hu, hud⟩ := hvals j p hj hp hl
          refine ⟨u, ?_, fun d hdp => ?_⟩
          · rcases hVj : Vf[j]? with _ | Vj
            · rw [List.getD, hVj] at hu; exact hu.elim
            · rw [List.getD, hVj] at hu ⊢
              exact hA.stable Vj (List.mem_of_getElem? hVj) _ _ _ hRw hu
          · cases hdo : o.dst with
            | none => exact hud d hdp
            | some d' =>
              have hne : d' ≠ d := by
                rintro rfl
                exact hij (nodup_dst ops.toList hn i j o p d' (by rw [Array.getElem?_toList]; exact ho) (by rw [Array.getElem?_toList]; exact hp) hdo hdp)
              rw [put_tmps _ _ _ _ (by rw [hsize]; exact hd d' (dst_mem ho hdo)), if_neg hne]
              exact hud d hdp
/-- A region that draws its order, the last operation behind all others. -/
theorem wp_region_tail {id : Nat} {Q : Exit → Act → World → Prop} {a : Act} {w : World} {l : List Oper} (o : Oper) (I : World → Prop) (R : World → World → Prop) (ho : l.getLast? = some o) (hm : P.follows .mixedOrders = true) (hok : relOk l.toArray a.tmps.size = true)
    (ht : tailOk l.toArray (l.length - 1) = true) (hR : ∀ w, R w w) (h0 : I w.drew)
    (h : wpRel P l.toArray I R a (fun Vs => ∀ w', I w' → relEnd w' (fun a' w'' => o.wp P a' w'' (fun a w => Q .normal a w) Q) l.dropLast Vs a) l.dropLast []) : (Code.region id l.toArray true).wp P Q a w := by
  obtain ⟨m, hml⟩ : ∃ m, m = l.length - 1 := ⟨_, rfl⟩
  have hsz := (tailOk_parts ht).1
  have hlen : l.length = m + 1 := by simp at hsz; omega
  rw [← hml] at ht
  have hdl : l.dropLast = l.take m := by rw [List.dropLast_eq_take, hml]
  have hlast : l[m]? = some o := by rw [List.getLast?_eq_getElem?, ← hml] at ho; exact ho
  rw [hdl] at h
  obtain ⟨Vf, hA, hK⟩ := relAllT_of (P := P) (ops := l.toArray) a m (l.take m) [] (fun j hj => by
    rw [List.length_take] at hj
    simp only [List.length_nil, Nat.zero_add, List.getElem?_toArray]
    rw [List.getElem?_take, if_pos (by omega)]) (by simp; omega) (by simp) (by simp) h
  have hmf : (Array.replicate l.length false).getD m true = false := by simp [hlen]
  refine wp_region_any hm (relT_sound hok ht hA hR (fun o' ho' a' w' hI hdef hsize hrest hvals => ?_) _ _ _ _ ?_ (by simpa using hmf) h0 rfl rfl (by simp) (fun _ _ => rfl) (fun j p hj hp hl => ?_))
  · have eo : o' = o := by
      simp only [List.getElem?_toArray] at ho'
      rw [hlast] at ho'
      injection ho' with ho'
      exact ho'.symm
    subst eo
    have hvs : ∃ vs : Nat → Value, ∀ (j : Nat) p, j < m → l.toArray[j]? = some p → (Vf.getD j (fun _ _ => False)) (vs j) w' ∧ ∀ d, p.dst = some d → a'.tmps[d]? = some (vs j) := by
      refine Classical.axiomOfChoice (r := fun j v => ∀ p, j < m → l.toArray[j]? = some p → (Vf.getD j (fun _ _ => False)) v w' ∧ ∀ d, p.dst = some d → a'.tmps[d]? = some v) fun j => ?_
      cases hp : l.toArray[j]? with
      | none => exact ⟨undef, fun p _ h => by cases h⟩
      | some p =>
        by_cases hjm : j < m
        · obtain ⟨v, h1, h2⟩ := hvals j p hjm hp
          exact ⟨v, fun p' _ h => by injection h with h; subst h; exact ⟨h1, h2⟩⟩
        · exact ⟨undef, fun p' h => absurd h hjm⟩
    obtain ⟨vs, hvs⟩ := hvs
    have hK' := hK w' hI
    refine relEnd_at (K := fun a' w'' => o'.wp P a' w'' (fun a w => Q .normal a w) Q) a' vs (l.take m) Vf 0 a (by rw [hA.len, List.length_take]; omega) (fun j V hV => ?_) hdef.symm hsize.symm (fun j p d hj hd => ?_) (fun t ht => (hrest t (by simpa using ht)).symm) hK'
    · have hj : j < m := by rw [← hA.len]; exact (List.getElem?_eq_some_iff.1 hV).1
      have hjl : j < l.length := by omega
      have := (hvs j l[j] hj (by simp [hjl])).1
      rw [List.getD, hV] at this
      rw [Nat.zero_add]
      exact this
    · have hjm : j < m := by
        have := (List.getElem?_eq_some_iff.1 hj).1
        rw [List.length_take] at this; omega
      rw [Nat.zero_add]
      refine (hvs j p hjm ?_).2 d hd
      rw [List.getElem?_take, if_pos hjm] at hj
      simpa using hj
  · simp
  · exfalso
    have hj' : j < l.length := by omega
    simp [hj'] at hl
end
end Go.Proofs.YtphljjgjpkdpmaaGreatDoor
/- Stage 4: a payload's frame, by the document (One). -/
namespace Go.Proofs.YtphljjgjpkdpmaaGreatDoor
open Go.RowKit
set_option linter.unusedVariables false
/-- A payload's frame. -/
def frB (p : ByteArray) : List UInt8 := numB (p.size : Int) ++ (sumB (crcN p) ++ p.data.toList)
theorem refNum_rel {w0 : World} (n : Int) (w : World) {A : ByteArray} (hA : A = ⟨(numB n).toArray⟩) (hn : -9223372036854775808 ≤ n ∧ n ≤ 9223372036854775807) (hI : w0.grownBy w none) :
    Calls Tryz.prog 61 #[.int .i64 n] w fun e w' => ∃ u, e = .returned u ∧ u = .string A ∧ w0.grownBy w' none ∧ w.grownBy w' none :=
  (refNum_any n w hn).mono fun e w' ⟨he, g⟩ => ⟨_, he, by rw [hA], grow_none hI g, g⟩
/-- The four bytes lie there. -/
def SumAt (x : Nat) (v : Value) (w : World) : Prop := ∃ g, v = .slice (some ⟨g, 0, none⟩) 4 4 ∧ Blk w g 5 ((sumB x).map c8)
theorem SumAt.kept {x : Nat} {v : Value} {w w' : World} (h : SumAt x v w) (g : w.grownBy w' none) : SumAt x v w' := by
  obtain ⟨b, rfl, hb⟩ := h
  exact ⟨b, rfl, hb.keep g⟩
theorem SumAt.new (x : Nat) (w : World) (hx : (x : Int) ≤ 4294967295) : SumAt x (.slice (some ⟨w.heap.size, 0, none⟩) 4 4) (w.alloc (.cells #[.int .u8 ((x : Int) % 256), .int .u8 ((x : Int) / 256 % 256), .int .u8 ((x : Int) / 65536 % 256), .int .u8 ((x : Int) / 16777216)] 5)) := by
  refine ⟨_, rfl, ?_⟩
  rw [sum_cells x hx]
  exact Blk.new _ _ _
theorem SumAt.newW (x : Nat) (w : World) (hx : (x : Int) ≤ 4294967295) : SumAt x (.slice (some ⟨w.heap.size, 0, none⟩) 4 4) (w.alloc (.cells #[.int .u8 (IntKind.u8.wrap (x : Int)), .int .u8 (IntKind.u8.wrap ((x : Int) / 256)), .int .u8 (IntKind.u8.wrap ((x : Int) / 65536)), .int .u8 (IntKind.u8.wrap ((x : Int) / 16777216))] 5)) := by
  have h := SumAt.new x w hx
  have e1 : IntKind.u8.wrap (x : Int) = (x : Int) % 256 := by rw [IntKind.wrap_u8]
  have e2 : IntKind.u8.wrap ((x : Int) / 256) = (x : Int) / 256 % 256 := by rw [IntKind.wrap_u8]
  have e3 : IntKind.u8.wrap ((x : Int) / 65536) = (x : Int) / 65536 % 256 := by rw [IntKind.wrap_u8]
  have e4 : IntKind.u8.wrap ((x : Int) / 16777216) = (x : Int) / 16777216 := by rw [IntKind.wrap_u8]; omega
  rw [e1, e2, e3, e4]
  exact h
theorem SumAt.conv {x : Nat} {v : Value} {w : World} {B : ByteArray} (hB : B = ⟨(sumB x).toArray⟩) (h : SumAt x v w) : (convert 50 9 v).run Tryz.prog w = .ok (.string B) w := by
  obtain ⟨b, rfl, hb⟩ := h
  rw [hB]
  exact run_str_buf (P := Tryz.prog) _ Tryz.underlying50 Tryz.underlying5 Tryz.underlying9 (hb.own 4 rfl (by unfold maxLen; omega))
set_option maxRecDepth 100000 in
set_option maxHeartbeats 1000000 in
theorem One_any (p : ByteArray) (w : World) (hp : p.size ≤ 1000000000) :
    Calls Tryz.prog 58 #[.string p] w fun e w' => e = .returned (.string ⟨(frB p).toArray⟩) ∧ w.grownBy w' none := by
  have hpi : (p.size : Int) ≤ 1000000000 := by omega
  have hmx : p.size ≤ maxLen := by unfold maxLen; omega
  have hnl := numB_len (n := (p.size : Int)) (by omega)
  have HPI := Lib.hid hpi
  clear hp
  go_enter Tryz.func58, Tryz.ntmps58
  go_wp2_with fail
  refine (refSum_any p _ hmx).mono ?_
  rintro e w2 ⟨rfl, rfl⟩
  have hb : (((more 0#32 p.data.toList).toNat : Nat) : Int) ≤ 4294967295 := by
    have := (more 0#32 p.data.toList).isLt
    omega
  obtain ⟨x, hx⟩ : ∃ x, x = (more 0#32 p.data.toList).toNat := ⟨_, rfl⟩
  rw [← hx] at hb ⊢
  have HX : Hid (x = crcN p) := hx
  clear hx hmx
  obtain ⟨nb, hnb⟩ : ∃ nb, nb = numB (p.size : Int) := ⟨_, rfl⟩
  rw [← hnb] at hnl
  have HNB := Lib.hid hnb
  clear hnb
  have hs1 : (⟨nb.toArray⟩ : ByteArray).size = nb.length := by show nb.toArray.size = _; simp
  have hs2 : (⟨(sumB x).toArray⟩ : ByteArray).size = 4 := rfl
  have hbs : ((⟨nb.toArray⟩ : ByteArray).size : Int) ≤ 8388608 := by rw [hs1]; omega
  have hb2 : ((⟨(sumB x).toArray⟩ : ByteArray).size : Int) ≤ 8388608 := by rw [hs2]; omega
  obtain ⟨A, hA⟩ : ∃ A : ByteArray, A = ⟨nb.toArray⟩ := ⟨_, rfl⟩
  have HA0 : Hid (A = ⟨(numB (p.size : Int)).toArray⟩) := by show _ = _; rw [hA, HNB.out]
  obtain ⟨B, hB⟩ : ∃ B : ByteArray, B = ⟨(sumB x).toArray⟩ := ⟨_, rfl⟩
  have hz1 : A.size + B.size ≤ 14 := by rw [hA, hB, hs1, hs2]; omega
  have hz2 : ¬ (9223372036854775807 < A.size + B.size) := by omega
  have hz3 : ¬ (9223372036854775807 < A.size + B.size + p.size) := by omega
  have hz4 : ¬ (9223372036854775807 < (A ++ B).size + p.size) := by rw [ByteArray.size_append]; omega
  have HA := Lib.hid hA
  have HB := Lib.hid hB
  clear hs1 hs2 hbs hb2 hA hB
  go_wp2
  refine wp_region_rel (fun W => w.grownBy W none) (fun W W' => W.grownBy W' none) (by kernel_rfl) (by kernel_rfl) (fun W => grow_refl W none) (grow_drawn (grow_refl _ _)) ?_
  repeat (refine wpRel_det ?_; apply Exists.intro; refine ⟨fun W hI => ?_, ?_⟩; focus (go_simp; first | exact ⟨rfl, grow_refl _ _⟩ | exact refNum_rel _ _ HA0.out (by have := HPI.out; omega) hI))
  refine wpRel_step (fun v W => SumAt x v W) (fun v W W' hr h => h.kept hr) (fun W hI => ?_) ?_
  focus (go_simp; exact ⟨SumAt.newW x W hb, grow_none hI (World.grownBy_alloc _ _ _), World.grownBy_alloc _ _ _⟩)
  refine wpRel_det ?_; apply Exists.intro; refine ⟨fun W hI => ?_, ?_⟩
  focus (go_simp; intro v hv; have hc := hv.conv HB.out; obtain ⟨b, rfl, _⟩ := hv; go_simp; exact ⟨rfl, grow_refl _ _⟩)
  repeat (refine wpRel_det ?_; apply Exists.intro; refine ⟨fun W hI => ?_, ?_⟩; focus (go_simp; first | exact ⟨rfl, grow_refl _ _⟩))
  refine wpRel_nil ?_
  intro w' hI
  go_simp
  intro v1 _
  go_wp2
  go_ret
  have hfin : A ++ B ++ p = ⟨(frB p).toArray⟩ := by
    have hp' : p = ⟨p.data.toList.toArray⟩ := by apply ByteArray.ext; simp
    unfold frB
    rw [← HX.out, ← HNB.out, HA.out, HB.out, app_lists, ← List.append_assoc]
    conv => lhs; rw [hp']
    rw [app_lists]
  exact ⟨congrArg (fun z => Ending.returned (.string z)) hfin, hI⟩
end Go.Proofs.YtphljjgjpkdpmaaGreatDoor
/- Stage 4: Seal, by the document; what the statements ask first: many. -/
namespace Go.Proofs.YtphljjgjpkdpmaaGreatDoor
open Go.RowKit
set_option linter.unusedVariables false
theorem Tryz.info04_uint8 : (Tryz.prog.info? 5).map (fun i => (i.zero, i.size, i.bytes)) = some (some (.int .u8 0), 1, 1) := by kernel_rfl
def framesB (l : List ByteArray) : List UInt8 := l.flatMap frB
theorem frames_snoc (l : List ByteArray) (k : Nat) (hk : k < l.length) : framesB (l.take (k + 1)) = framesB (l.take k) ++ frB l[k] := by
  unfold framesB
  rw [List.take_succ_eq_append_getElem hk, List.flatMap_append]
  simp only [List.flatMap_cons, List.flatMap_nil, List.append_nil]
theorem frB_len (p : ByteArray) (hp : p.size ≤ 1048576) : (frB p).length ≤ 1048590 := by
  have h := numB_len (n := (p.size : Int)) (by omega)
  have e : p.data.toList.length = p.size := by rw [Array.length_toList]; rfl
  have e2 : (sumB (crcN p)).length = 4 := rfl
  unfold frB
  rw [List.length_append, List.length_append, e, e2]
  omega
theorem frames_len (l : List ByteArray) (hs : ∀ s ∈ l, s.size ≤ 1048576) : ∀ k, k ≤ l.length → (framesB (l.take k)).length ≤ 1048590 * k
  | 0, _ => by simp [framesB]
  | k + 1, hk => by
    rw [frames_snoc l k (by omega), List.length_append]
    have h1 := frames_len l hs k (by omega)
    have h2 := frB_len l[k] (hs _ (List.getElem_mem (by omega)))
    omega
set_option maxRecDepth 100000 in
set_option maxHeartbeats 1000000 in
theorem refSeal_any (v : Value) (l : List ByteArray) (w : World) (hr : RowAt w v (l.map Value.string)) (hl : l.length ≤ 8192) (hs : ∀ s ∈ l, s.size ≤ 1048576) :
    Calls Tryz.prog 57 #[v] w fun e w' => e = .returned (.tuple #[.string ⟨(framesB l).toArray⟩, .int .i64 0]) ∧ w.grownBy w' none := by
  obtain ⟨i0, hi, hz0, hz1, hz2⟩ := info_parts Tryz.info04_uint8
  obtain ⟨a, c, rfl⟩ := hr.len
  rw [List.length_map] at hr ⊢
  have hli : (l.length : Int) ≤ 8192 := by omega
  have HS := Lib.hid hs
  clear hs
  go_enter Tryz.func57, Tryz.ntmps57
  go_wp2
  have r1 := hr.kept (World.grownBy_alloc w (.cells #[] 5) none)
  have o1 := own_empty w 5 1
  have g1 := World.grownBy_alloc w (.cells #[] 5) none
  obtain ⟨w1, hw1⟩ : ∃ w1, w1 = w.alloc (.cells #[] 5) := ⟨_, rfl⟩
  rw [← hw1] at r1 o1 g1 ⊢
  clear hw1
  go_loop [5] (fun i => ∃ k : Nat, k ≤ l.length ∧ i = .int .i64 k) (fun i => l.length - (intOf i).toNat)
  case atStart => exact ⟨0, Nat.zero_le _, rfl⟩
  case round =>
    obtain ⟨k, hk, rfl⟩ := hrel
    by_cases hlt : k < l.length
    · obtain ⟨bb, off, rfl, hcell⟩ := row_str r1 hlt
      have hsz := HS.out l[k] (List.getElem_mem hlt)
      have h1 : decide ((1048576 : Int) < l[k].size) = false := decide_eq_false (by omega)
      have hki : (k : Int) < l.length := by omega
      go_wp2
      go_round
      case rel => exact ⟨k + 1, by omega, by go_num⟩
      case measure => simp [intOf]; omega
    · obtain rfl : k = l.length := by omega
      go_wp2
      go_loopw [4, 6] (fun out i wr => ∃ k : Nat, k ≤ l.length ∧ i = .int .i64 k ∧ wr.ownsRow 0 5 1 out (framesB (l.take k)).length ((framesB (l.take k)).map c8) ∧ w.grownBy wr none ∧ NewBlk w out) (fun _ i _ => l.length - (intOf i).toNat)
      case atStart => exact ⟨0, Nat.zero_le _, rfl, by simpa [framesB] using o1, g1, newblk_at _ _ _ _ (Nat.le_refl _) _⟩
      case round =>
        obtain ⟨k, hk, rfl, ho, hg, hn⟩ := hrel
        by_cases hlt : k < l.length
        · obtain ⟨bb, off, rfl, hcell⟩ := row_str (hr.kept hg) hlt
          have hsz := HS.out l[k] (List.getElem_mem hlt)
          have hfl := frB_len l[k] hsz
          have hle := frames_len l HS.out k hk
          have HT := Lib.hid (frames_snoc l k hlt)
          have hki : (k : Int) < l.length := by omega
          go_wp2_with fail
          refine (One_any _ _ (by omega)).mono ?_
          rintro e w2 ⟨rfl, g2⟩
          have o2 := own_keep ho g2
          have hfs : (⟨(frB l[k]).toArray⟩ : ByteArray).size = (frB l[k]).length := by show (frB l[k]).toArray.size = _; simp
          have HFS := Lib.hid hfs
          clear hfs
          go_wp2_with (at_builtin; refine wpList_append_str _ rfl _ _ 50 9 rfl 5 i0 Tryz.underlying50 Tryz.underlying9 hi hz0 hz1 hz2 _ _ _ rfl o2 _ rfl (by rw [HFS.out]; show _ ≤ 2^63-1; omega) (by rw [HFS.out]; omega) ?_)
          intro v3 w3 ho3 hg3 hm3
          go_wp2
          go_roundw
          case rel =>
            refine ⟨k + 1, by omega, by go_num, ?_, grow_newblk (grow_none hg g2) hn hg3, hn.moved (Nat.le_trans hg.size g2.size) hm3⟩
            rw [HT.out, List.length_append, List.map_append]
            exact ho3
          case measure => simp [intOf]; omega
        · obtain rfl : k = l.length := by omega
          have hT : l.take l.length = l := List.take_length
          rw [hT] at ho
          have hconv := run_str_buf (P := Tryz.prog) wr Tryz.underlying50 Tryz.underlying5 Tryz.underlying9 ho
          go_wp2
          go_ret2
          exact ⟨rfl, hg⟩
end Go.Proofs.YtphljjgjpkdpmaaGreatDoor
/- Stage 4: strings.Builder: copyCheck, WriteString. -/
namespace Go.Proofs.YtphljjgjpkdpmaaGreatDoor
open Go.RowKit
set_option linter.unusedVariables false
theorem Tryz.builder_size : (Tryz.prog.info? 136).map (·.size) = some 2 := by kernel_rfl
theorem Tryz.builder_lies : liesAt Tryz.prog Tryz.prog.depth 136 (2 / Tryz.prog.cellsOf 136) 0 136 1 = true := by kernel_rfl
theorem Blk.shape {w : World} {g : Nat} {t : TypeId} {xs : List Value} (h : Blk w g t xs) : w.shape? g = some (t, xs.length) := by
  unfold Blk at h
  simp [World.shape?, h]
set_option maxRecDepth 100000 in
set_option maxHeartbeats 1000000 in
theorem copyCheck_used (b : Nat) (v : Value) (w : World) (h : Blk w b 136 [.pointer (some ⟨b, 0, none⟩), v]) :
    Calls Tryz.prog 114 #[.pointer (some ⟨b, 0, none⟩)] w fun e w' => e = .returned (.tuple #[]) ∧ w' = w := by
  obtain ⟨j, hj, _⟩ := Option.map_eq_some_iff.1 Tryz.builder_size
  have c0 := h.cell 0 (by simp)
  simp only [List.getD_cons_zero] at c0
  go_enter Tryz.func114, Tryz.ntmps114
  go_wp2
  rw [Lib.run_neq_ptr_same w _ Tryz.underlying134 hj]
  go_wp2
  go_end0
  exact ⟨rfl, rfl⟩
set_option maxRecDepth 100000 in
set_option maxHeartbeats 1000000 in
theorem copyCheck_fresh (b : Nat) (v : Value) (w : World) (h : Blk w b 136 [.pointer none, v]) :
    Calls Tryz.prog 114 #[.pointer (some ⟨b, 0, none⟩)] w fun e w' => e = .returned (.tuple #[]) ∧ w' = w.setCell ⟨b, 0, none⟩ (.pointer (some ⟨b, 0, none⟩)) := by
  obtain ⟨j, hj, hjs⟩ := Option.map_eq_some_iff.1 Tryz.builder_size
  have c0 := h.cell 0 (by simp)
  have f0 := h.frozen 0
  have hsh := h.shape
  simp only [List.getD_cons_zero] at c0
  go_enter Tryz.func114, Tryz.ntmps114
  go_wp2
  rw [Lib.run_to_unsafe w ⟨b, 0, none⟩ Tryz.underlying134 Tryz.underlying166 hj (by rw [hjs]; decide) hsh (Nat.zero_lt_succ 1)]
  simp only [Result.andThen]
  rw [Oper.upon_value]
  go_wp2
  rw [run_callFunc_extern Tryz.func137 (by kernel_rfl) (by kernel_rfl) (by kernel_rfl) (e := Extern.AbiNoEscape.same) (by kernel_rfl)]
  rw [Lib.run_noEscape]
  simp only [Result.andThen]
  rw [Oper.upon_value]
  go_wp2
  rw [Lib.run_from_unsafe w ⟨b, 0, none⟩ Tryz.underlying166 Tryz.underlying134 hj hsh Tryz.builder_lies]
  simp only [Result.andThen]
  rw [Oper.upon_value]
  go_wp2
  go_end0
  exact ⟨rfl, rfl⟩
/-- A builder of the call's own, that holds these bytes. -/
def BuildAt (b : Nat) (xs : List UInt8) (w0 w : World) : Prop :=
  ∃ p v, Blk w b 136 [p, v] ∧ (p = .pointer none ∨ p = .pointer (some ⟨b, 0, none⟩)) ∧ w.ownsRow 0 5 1 v xs.length (xs.map c8) ∧ v.ownBlock ≠ some b ∧ w0.heap.size ≤ b ∧ NewBlk w0 v ∧ w0.grownBy w none
theorem copyCheck_any (b : Nat) (p v : Value) (w : World) (h : Blk w b 136 [p, v]) (hp : p = .pointer none ∨ p = .pointer (some ⟨b, 0, none⟩)) :
    Calls Tryz.prog 114 #[.pointer (some ⟨b, 0, none⟩)] w fun e w' => e = .returned (.tuple #[]) ∧ Blk w' b 136 [.pointer (some ⟨b, 0, none⟩), v] ∧ w.grownBy w' (some b) ∧ (∀ w0 : World, w0.heap.size ≤ b → w0.grownBy w none → w0.grownBy w' none) := by
  rcases hp with rfl | rfl
  · refine (copyCheck_fresh b v w h).mono ?_
    rintro e w' ⟨rfl, rfl⟩
    exact ⟨rfl, h.set_ 0 _, grow_set _ _ _, fun w0 h0 g => grow_setnew g h0 _⟩
  · refine (copyCheck_used b v w h).mono ?_
    rintro e w' ⟨rfl, rfl⟩
    exact ⟨rfl, h, grow_refl _ _, fun w0 h0 g => g⟩
set_option maxRecDepth 100000 in
set_option maxHeartbeats 1000000 in
theorem WriteString_any (b : Nat) (xs : List UInt8) (s : ByteArray) (w0 w : World) (h : BuildAt b xs w0 w) (hlen : xs.length + s.size ≤ 1000000000000) :
    Calls Tryz.prog 96 #[.pointer (some ⟨b, 0, none⟩), .string s] w fun e w' => e = .returned (.tuple #[.int .i64 s.size, .nilIface]) ∧ BuildAt b (xs ++ s.data.toList) w0 w' := by
  obtain ⟨i0, hi, hz0, hz1, hz2⟩ := info_parts Tryz.info04_uint8
  obtain ⟨p, v, hb, hp, ho, hne, hb0, hn, hg⟩ := h
  have hsi : (s.size : Int) ≤ 1000000000000 := by omega
  have hds : s.data.toList.length = s.size := by rw [Array.length_toList]; rfl
  have HDS := Lib.hid hds
  clear hds
  go_enter Tryz.func96, Tryz.ntmps96
  go_wp2_with fail
  refine (copyCheck_any b p v _ hb hp).mono ?_
  rintro e w1 ⟨rfl, hb1, g1, k1⟩
  have G1 := k1 w0 hb0 hg
  have o1 := ho.kept g1 (.inr hne)
  have c1 := hb1.cell 1 (by simp)
  have f1 := hb1.frozen 1
  have hbl := hb1.lt
  simp only [List.getD_cons_succ, List.getD_cons_zero] at c1
  clear g1 k1 ho hb hp hg
  go_wp2_with (at_builtin; refine wpList_append_str _ rfl _ _ 50 9 rfl 5 i0 Tryz.underlying50 Tryz.underlying9 hi hz0 hz1 hz2 _ _ _ rfl o1 _ rfl (by show _ ≤ 2^63-1; omega) (by omega) ?_)
  intro v3 w3 o3 g3 m3
  obtain ⟨ua, ul, uc, rfl⟩ : ∃ a l c, v3 = .slice a l c := by
    obtain ⟨a', c', e⟩ := (RowAt.of_own o3).len
    exact ⟨_, _, _, e⟩
  have hb3 := hb1.kept g3 (fun e => hne e.symm)
  have f3 := hb3.frozen 1
  have c3 := hb3.cell 1 (by simp)
  simp only [List.getD_cons_succ, List.getD_cons_zero] at c3
  have G3 := grow_newblk G1 hn g3
  have N3 := hn.moved G1.size m3
  have hne3 : (Value.slice ua ul uc).ownBlock ≠ some b := by
    rcases m3 with m | ⟨j, hj, m⟩
    · rw [m]; exact hne
    · rw [m]; intro e; injection e with e; omega
  clear g3 m3 o1 c1 f1
  go_wp2
  go_ret2
  have hb4 := hb3.set_ 1 (.slice ua ul uc)
  have g4 : w3.grownBy (w3.setCell ⟨b, 1, none⟩ (.slice ua ul uc)) (some b) := grow_set _ _ _
  have o4 := o3.kept g4 (.inr hne3)
  refine ⟨rfl, .pointer (some ⟨b, 0, none⟩), .slice ua ul uc, hb4, .inr rfl, ?_, hne3, hb0, N3, grow_setnew G3 hb0 _⟩
  rw [List.length_append, HDS.out, List.map_append]
  exact o4
end Go.Proofs.YtphljjgjpkdpmaaGreatDoor
/- Stage 4: Seal. -/
namespace Go.Proofs.YtphljjgjpkdpmaaGreatDoor
open Go.RowKit
set_option linter.unusedVariables false
theorem own_base {w : World} {e : TypeId} {n B : Nat} {v : Value} {xs : List Value} (h : w.ownsRow 0 e 1 v n xs) (hb : ∀ k, v.ownBlock = some k → B ≤ k) : w.ownsRow B e 1 v n xs := by
  refine ⟨h.1, ?_⟩
  rcases h.2 with h2 | ⟨g, cap, cur, rfl, _, rest⟩
  · exact .inl h2
  · exact .inr ⟨g, cap, cur, rfl, hb g rfl, rest⟩
theorem String_any (b : Nat) (xs : List UInt8) (w0 w : World) (h : BuildAt b xs w0 w) :
    Calls Tryz.prog 98 #[.pointer (some ⟨b, 0, none⟩)] w fun e w' => e = .returned (.string ⟨xs.toArray⟩) ∧ w0.grownBy w' none := by
  obtain ⟨p, v, hb, hp, ho, hne, hb0, hn, hg⟩ := h
  have hB : Lib.IsBuilder 136 5 w0.heap.size b (Lib.byteCells xs) w := by
    have hl : (Lib.byteCells xs).length = xs.length := by simp [Lib.byteCells]
    have key : ∀ p, Blk w b 136 [p, v] → Lib.BuilderAt 136 5 w0.heap.size b p (Lib.byteCells xs) w :=
      fun p hb => ⟨hb0, v, hb, by rw [hl]; exact own_base ho hn, hne⟩
    rcases hp with rfl | rfl
    · exact .inl (key _ hb)
    · exact .inr (key _ hb)
  refine (Tryz.Builder_String_any w0.heap.size b xs w hB hg.size).mono ?_
  rintro e w' ⟨rfl, bel⟩
  exact ⟨rfl, bel.os.trans hg.os, bel.tape.trans hg.tape, bel.output.trans hg.output, Nat.le_trans hg.size bel.size, fun i hi hn' => (bel.block i hi).trans (hg.block i hi hn')⟩
theorem BuildAt.kept {b : Nat} {xs : List UInt8} {w0 w w' : World} (h : BuildAt b xs w0 w) (g : w.grownBy w' none) : BuildAt b xs w0 w' := by
  obtain ⟨p, v, hb, hp, ho, hne, hb0, hn, hg⟩ := h
  exact ⟨p, v, hb.keep g, hp, ho.kept g (Classical.em _), hne, hb0, hn, grow_none hg g⟩
theorem BuildAt.grow {b : Nat} {xs : List UInt8} {w0 w : World} (h : BuildAt b xs w0 w) : w0.grownBy w none := by
  obtain ⟨_, _, _, _, _, _, _, _, hg⟩ := h
  exact hg
set_option maxRecDepth 100000 in
set_option maxHeartbeats 1000000 in
theorem Seal_any (v : Value) (l : List ByteArray) (w : World) (hm : Mv w) (hr : RowAt w v (l.map Value.string)) (hl : l.length ≤ 8192) (hs : ∀ s ∈ l, s.size ≤ 1048576) :
    Calls Tryz.prog 76 #[v] w fun e w' => e = .returned (.tuple #[.string ⟨(framesB l).toArray⟩, .int .i64 0]) ∧ w.grownBy w' none := by
  obtain ⟨a, c, rfl⟩ := hr.len
  rw [List.length_map] at hr ⊢
  have hli : (l.length : Int) ≤ 8192 := by omega
  have HS := Lib.hid hs
  clear hs
  go_enter Tryz.func76, Tryz.ntmps76
  go_wp2
  go_loop [11] (fun i => ∃ k : Nat, k ≤ l.length ∧ i = .int .i64 k) (fun i => l.length - (intOf i).toNat)
  case atStart => exact ⟨0, Nat.zero_le _, rfl⟩
  case round =>
    obtain ⟨k, hk, rfl⟩ := hrel
    by_cases hlt : k < l.length
    · obtain ⟨bb, off, rfl, hcell⟩ := row_str hr hlt
      have hsz := HS.out l[k] (List.getElem_mem hlt)
      have h1 : decide ((1048576 : Int) < l[k].size) = false := decide_eq_false (by omega)
      have hki : (k : Int) < l.length := by omega
      go_wp2
      go_round
      case rel => exact ⟨k + 1, by omega, by go_num⟩
      case measure => simp [intOf]; omega
    · obtain rfl : k = l.length := by omega
      have hb : Blk (w.alloc (.cells #[.pointer none, .slice none 0 0] 136)) w.heap.size 136 [.pointer none, .slice none 0 0] := Blk.new _ _ _
      have t0 : BuildAt w.heap.size [] w (w.alloc (.cells #[.pointer none, .slice none 0 0] 136)) := ⟨_, _, hb, .inl rfl, World.ownsRow_nil _ _ _ _, by simp [Value.ownBlock], Nat.le_refl _, newblk_nil _, World.grownBy_alloc _ _ _⟩
      obtain ⟨b, hbe⟩ : ∃ b, b = w.heap.size := ⟨_, rfl⟩
      rw [← hbe] at t0
      have HBE := Lib.hid hbe
      clear hb hbe
      go_wp2
      rw [← HBE.out]
      go_loopw [21] (fun i wr => ∃ k : Nat, k ≤ l.length ∧ i = .int .i64 k ∧ BuildAt b (framesB (l.take k)) w wr) (fun i _ => l.length - (intOf i).toNat)
      case atStart => exact ⟨0, Nat.zero_le _, rfl, by simpa [framesB] using t0⟩
      case round =>
        obtain ⟨k, hk, rfl, ho⟩ := hrel
        clear t0
        have hg : w.grownBy wr none := by obtain ⟨_, _, _, _, _, _, _, _, hg⟩ := ho; exact hg
        by_cases hlt : k < l.length
        · obtain ⟨bb, off, rfl, hcell⟩ := row_str (hr.kept hg) hlt
          have hsz := HS.out l[k] (List.getElem_mem hlt)
          have hle := frames_len l HS.out k hk
          have HT := Lib.hid (frames_snoc l k hlt)
          have hki : (k : Int) < l.length := by omega
          go_wp2_with fail
          have hnl : (numsB [(l[k].size : Int)]).length ≤ 10 := by
            have := numB_len (n := (l[k].size : Int)) (by omega)
            simpa [numsB] using this
          have r1 := RowAt.lit wr ([(l[k].size : Int)].map i64v) 3 1 1 rfl
          have gA := World.grownBy_alloc wr (.cells ([(l[k].size : Int)].map i64v).toArray 3) none
          have b1 := ho.kept gA
          obtain ⟨F, hF⟩ : ∃ F, F = framesB (l.take k) := ⟨_, rfl⟩
          rw [← hF] at b1 hle
          have HF := Lib.hid hF
          obtain ⟨p, hp⟩ : ∃ p, p = l[k] := ⟨_, rfl⟩
          rw [← hp] at hcell hsz hnl r1 gA b1 ⊢
          have HP := Lib.hid hp
          clear hF hp ho
          refine (Nums_any _ [(p.size : Int)] _ r1 (by intro n hn; rw [List.mem_singleton] at hn; subst hn; omega) (by simp)).mono ?_
          rintro e w2 ⟨rfl, g2⟩
          have b2 := b1.kept g2
          have hz1 : (⟨(numsB [(p.size : Int)]).toArray⟩ : ByteArray).size = (numsB [(p.size : Int)]).length := by show (numsB [(p.size : Int)]).toArray.size = _; simp
          have HZ1 := Lib.hid hz1
          clear hz1 r1 b1 g2 gA
          go_wp2_with fail
          refine (WriteString_any b F _ w _ b2 (by rw [HZ1.out]; omega)).mono ?_
          rintro e w3 ⟨rfl, b3⟩
          clear b2
          have m3 := hm.kept b3.grow
          go_wp2_with fail
          refine (sumBytes_any p _ m3 (by unfold maxLen; omega)).mono ?_
          rintro e w4 ⟨rfl, g4⟩
          have b4 := b3.kept g4
          have hz2 : (⟨(sumB (crcN p)).toArray⟩ : ByteArray).size = 4 := rfl
          have HZ2 := Lib.hid hz2
          clear b3 g4 hz2
          go_wp2_with fail
          refine (WriteString_any b _ _ w _ b4 (by rw [HZ2.out, List.length_append]; show F.length + (numsB [(p.size : Int)]).length + 4 ≤ _; omega)).mono ?_
          rintro e w5 ⟨rfl, b5⟩
          clear b4
          go_wp2_with fail
          refine (WriteString_any b _ _ w _ b5 (by rw [List.length_append, List.length_append]; show F.length + (numsB [(p.size : Int)]).length + 4 + p.size ≤ _; omega)).mono ?_
          rintro e w6 ⟨rfl, b6⟩
          clear b5
          have HFIN : Hid (F ++ (⟨(numsB [(p.size : Int)]).toArray⟩ : ByteArray).data.toList ++ (⟨(sumB (crcN p)).toArray⟩ : ByteArray).data.toList ++ p.data.toList = framesB (l.take (k + 1))) := by
            show _ = _
            rw [HT.out, ← HF.out, ← HP.out]
            unfold frB
            show F ++ numsB [(p.size : Int)] ++ sumB (crcN p) ++ p.data.toList = _
            rw [show numsB [(p.size : Int)] = numB (p.size : Int) by simp [numsB]]
            simp only [List.append_assoc]
          rw [HFIN.out] at b6
          go_wp2
          go_roundw
          case rel => exact ⟨k + 1, by omega, by go_num, b6⟩
          case measure => simp [intOf]; omega
        · obtain rfl : k = l.length := by omega
          have hT : l.take l.length = l := List.take_length
          rw [hT] at ho
          go_wp2_with fail
          refine (String_any b _ w _ ho).mono ?_
          rintro e w2 ⟨rfl, g2⟩
          go_wp2
          go_ret2
          exact ⟨rfl, g2⟩
end Go.Proofs.YtphljjgjpkdpmaaGreatDoor
/- Stage 4: Open. -/
namespace Go.Proofs.YtphljjgjpkdpmaaGreatDoor
open Go.RowKit
set_option linter.unusedVariables false
/-- The payload that the length tells, and what stands behind it. -/
def payN (s : ByteArray) : Nat := (getN s).1.toNat
def payB (s : ByteArray) : ByteArray := (nextS s).extract 4 (4 + payN s)
def behB (s : ByteArray) : ByteArray := (nextS s).extract (4 + payN s) (nextS s).size
/-- The length is one that may be. -/
def lenOk (s : ByteArray) : Prop := nextBad s = false ∧ 0 ≤ (getN s).1 ∧ (getN s).1 ≤ 1048576 ∧ 4 + (getN s).1 ≤ (nextS s).size
instance (s : ByteArray) : Decidable (lenOk s) := by unfold lenOk; infer_instance
def openOk (s : ByteArray) : Prop := lenOk s ∧ (nextS s).extract 0 4 = ⟨(sumB (crcN (payB s))).toArray⟩
theorem sumBytes_rel {w0 : World} (p : ByteArray) (w : World) (hm : Mv w0) (hp : p.size ≤ maxLen) (hI : w0.grownBy w none) :
    Calls Tryz.prog 97 #[.string p] w fun e w' => ∃ u, e = .returned u ∧ u = .string ⟨(sumB (crcN p)).toArray⟩ ∧ w0.grownBy w' none ∧ w.grownBy w' none :=
  (sumBytes_any p w (hm.kept hI) hp).mono fun e w' ⟨he, g⟩ => ⟨_, he, rfl, grow_none hI g, g⟩
theorem nextS_size (s : ByteArray) : (nextS s).size = s.size - (getN s).2 := by
  have := getN_used s
  unfold nextS
  rw [ByteArray.size_extract]; omega
theorem nextS_left (s : ByteArray) : s.extract (s.size - (nextS s).size) s.size = nextS s := by
  have := getN_used s
  rw [nextS_size, show s.size - (s.size - (getN s).2) = (getN s).2 by omega]
  rfl
set_option maxRecDepth 100000 in
set_option maxHeartbeats 1000000 in
theorem Open_no (s : ByteArray) (w : World) (hs : s.size ≤ 1000000000) (h : ¬ lenOk s) :
    Calls Tryz.prog 91 #[.string s] w fun e w' => e = .returned (.tuple #[.string ⟨#[]⟩, .string ⟨#[]⟩, .int .i64 3]) ∧ w.grownBy w' none := by
  have hnb := getN_bd s
  obtain ⟨n, hn⟩ : ∃ n, n = (getN s).1 := ⟨_, rfl⟩
  obtain ⟨t, ht⟩ : ∃ t, t = nextBad s := ⟨_, rfl⟩
  have hL : (rLeft (nextS s) t : Int) = if t then 0 else ((nextS s).size : Int) := by unfold rLeft; cases t <;> simp
  have hc : t = true ∨ (t = false ∧ decide (n < 0) = true) ∨ (t = false ∧ decide (n < 0) = false ∧ decide (1048576 < n) = true) ∨ (t = false ∧ decide (n < 0) = false ∧ decide (1048576 < n) = false ∧ decide (((nextS s).size : Int) < 4 + n) = true) := by
    unfold lenOk at h
    rw [← hn, ← ht] at h
    cases t
    · simp only [decide_eq_true_eq, decide_eq_false_iff_not]
      simp only [true_and] at h
      right
      by_cases h1 : n < 0
      · exact .inl ⟨trivial, h1⟩
      · by_cases h2 : 1048576 < n
        · exact .inr (.inl ⟨trivial, h1, h2⟩)
        · exact .inr (.inr ⟨trivial, h1, h2, by omega⟩)
    · exact .inl rfl
  rw [← hn] at hnb
  have hsz : (nextS s).size ≤ 1000000000 := by rw [nextS_size]; omega
  have hszi : ((nextS s).size : Int) ≤ 1000000000 := by omega
  have HN := Lib.hid hn
  have HT := Lib.hid ht
  have HLF := Lib.hid hL
  clear hn ht h hL
  rcases hc with rfl | ⟨rfl, e1⟩ | ⟨rfl, e1, e2⟩ | ⟨rfl, e1, e2, e3⟩
  all_goals
    go_enter Tryz.func91, Tryz.ntmps91
    go_wp2_with fail
    refine (Read_any s _).mono ?_
    rintro e w2 ⟨b, rfl, x2, g2, hb0⟩
    go_wp2_with fail
    refine (Num_good b s _ x2 (by omega)).mono ?_
    rintro e w3 ⟨rfl, x3, g3⟩
    have G3 := grow_new g2 hb0 g3
    rw [← HN.out]
    rw [← HT.out] at x3
    go_wp2_with fail
    refine (Good_any b _ _ _ x3).mono ?_
    rintro e w4 ⟨rfl, x4, g4⟩
    have G4 := grow_new G3 hb0 g4
    clear g2 g3 g4 G3 x2 x3
  · go_wp2
    refine bodyPost_ret (v := .tuple #[.string ⟨#[]⟩, .string ⟨#[]⟩, .int .i64 3]) ?_ ?_ ?_
    · simp [results, go_sem]
    · rfl
    · exact ⟨rfl, G4⟩
  · go_wp2
    refine bodyPost_ret (v := .tuple #[.string ⟨#[]⟩, .string ⟨#[]⟩, .int .i64 3]) ?_ ?_ ?_
    · simp [results, go_sem]
    · rfl
    · exact ⟨rfl, G4⟩
  · go_wp2
    refine bodyPost_ret (v := .tuple #[.string ⟨#[]⟩, .string ⟨#[]⟩, .int .i64 3]) ?_ ?_ ?_
    · simp [results, go_sem]
    · rfl
    · exact ⟨rfl, G4⟩
  · have hn0 : 0 ≤ n := by have := of_decide_eq_false e1; omega
    have hn1 : n ≤ 1048576 := by have := of_decide_eq_false e2; omega
    have hl : ((rLeft (nextS s) false : Nat) : Int) = ((nextS s).size : Int) := by rw [HLF.out]; rfl
    go_wp2_with fail
    refine (Left_any b _ _ _ x4 (by omega)).mono ?_
    rintro e w5 ⟨rfl, x5, g5⟩
    have G5 := grow_new G4 hb0 g5
    rw [hl]
    clear hl
    go_wp2
    refine bodyPost_ret (v := .tuple #[.string ⟨#[]⟩, .string ⟨#[]⟩, .int .i64 3]) ?_ ?_ ?_
    · simp [results, go_sem]
    · rfl
    · exact ⟨rfl, G5⟩
end Go.Proofs.YtphljjgjpkdpmaaGreatDoor
/- Stage 4: Open, where the length is one that may be. -/
namespace Go.Proofs.YtphljjgjpkdpmaaGreatDoor
open Go.RowKit
set_option linter.unusedVariables false
set_option maxRecDepth 100000 in
set_option maxHeartbeats 1000000 in
theorem Open_len (s : ByteArray) (w : World) (hm : Mv w) (hs : s.size ≤ 1000000000) (h : lenOk s) (q : Bool) (hq : q = !(((nextS s).extract 0 4).toList == (⟨(sumB (crcN (payB s))).toArray⟩ : ByteArray).toList)) :
    Calls Tryz.prog 91 #[.string s] w fun e w' => e = .returned (if q then .tuple #[.string ⟨#[]⟩, .string ⟨#[]⟩, .int .i64 3] else .tuple #[.string (payB s), .string (behB s), .int .i64 0]) ∧ w.grownBy w' none := by
  obtain ⟨h0, h1, h2, h3⟩ := h
  obtain ⟨n, hn⟩ : ∃ n : Nat, (n : Int) = (getN s).1 := ⟨(getN s).1.toNat, by omega⟩
  rw [← hn] at h2 h3
  have hpay : payN s = n := by unfold payN; omega
  have hsz : (nextS s).size ≤ s.size := by rw [nextS_size]; omega
  have hle := nextS_left s
  obtain ⟨R, hR⟩ : ∃ R, R = nextS s := ⟨_, rfl⟩
  obtain ⟨P, hP⟩ : ∃ P, P = payB s := ⟨_, rfl⟩
  obtain ⟨B, hB⟩ : ∃ B, B = behB s := ⟨_, rfl⟩
  have hP2 : R.extract 4 (4 + n) = P := by rw [hP, hR]; unfold payB; rw [hpay]
  have hB2 : R.extract (4 + n) R.size = B := by rw [hB, hR]; unfold behB; rw [hpay]
  rw [← hR] at h3 hsz hle hq
  rw [← hP] at hq ⊢
  rw [← hB]
  have hPs : P.size ≤ maxLen := by rw [← hP2, ByteArray.size_extract]; unfold maxLen; omega
  have hsi : (s.size : Int) ≤ 1000000000 := by omega
  have hRi : (R.size : Int) ≤ s.size := by omega
  have hR0 : (0 : Int) ≤ (s.size : Int) - R.size := by omega
  have hni : (n : Int) ≤ 1048576 := h2
  have hn0 : (0 : Int) ≤ n := by omega
  have h4 : (4 : Int) + n ≤ R.size := h3
  have hex : s.extract ((s.size : Int) - (R.size : Int)).toNat s.size = R := by
    rw [show ((s.size : Int) - (R.size : Int)).toNat = s.size - R.size by omega]; exact hle
  have h44 : (4 : Int) ≤ R.size := by omega
  have h45 : (4 : Int) ≤ 4 + (n : Int) := by omega
  have h46 : (0 : Int) ≤ 4 + (n : Int) := by omega
  have hex2 : s.extract (s.size - R.size) s.size = R := hle
  have htn : ((4 : Int) + (n : Int)).toNat = 4 + n := by omega
  have d1 : decide ((n : Int) < 0) = false := decide_eq_false (by omega)
  have d2 : decide ((1048576 : Int) < n) = false := decide_eq_false (by omega)
  have d3 : decide ((R.size : Int) < 4 + (n : Int)) = false := decide_eq_false (by omega)
  have hl : ((rLeft R false : Nat) : Int) = (R.size : Int) := rfl
  have HN := Lib.hid hn
  have HT := Lib.hid h0
  have HR := Lib.hid hR
  have HL := Lib.hid hl
  have HQ := Lib.hid hq
  clear hn h0 h1 h2 h3 hR hP hB hpay hle hl hq
  go_enter Tryz.func91, Tryz.ntmps91
  go_wp2_with fail
  refine (Read_any s _).mono ?_
  rintro e w2 ⟨b, rfl, x2, g2, hb0⟩
  go_wp2_with fail
  refine (Num_good b s _ x2 (by omega)).mono ?_
  rintro e w3 ⟨rfl, x3, g3⟩
  have G3 := grow_new g2 hb0 g3
  rw [← HN.out]
  rw [HT.out, ← HR.out] at x3
  go_wp2_with fail
  refine (Good_any b _ _ _ x3).mono ?_
  rintro e w4 ⟨rfl, x4, g4⟩
  have G4 := grow_new G3 hb0 g4
  clear g2 g3 g4 G3 x2 x3
  go_wp2_with fail
  refine (Left_any b _ _ _ x4 (by omega)).mono ?_
  rintro e w5 ⟨rfl, x5, g5⟩
  have G5 := grow_new G4 hb0 g5
  rw [HL.out]
  clear x4 g5 G4
  go_wp2_with fail
  refine (Left_any b _ _ _ x5 (by omega)).mono ?_
  rintro e w6 ⟨rfl, x6, g6⟩
  have G6 := grow_new G5 hb0 g6
  rw [HL.out]
  clear x5 g6 G5 x6
  have m6 := hm.kept G6
  have hqe : (!((R.extract 0 4).toList == (⟨(sumB (crcN P)).toArray⟩ : ByteArray).toList)) = q := HQ.out.symm
  have he : (⟨(sumB (crcN P)).toArray⟩ : ByteArray).toList = sumB (crcN P) := by rw [ByteArray.toList_eq]
  rw [he] at hqe
  clear he
  have htw : IntKind.i64.wrap ((4 : Int) + n) = 4 + n := by rw [IntKind.wrap_i64]; omega
  have hsg : Hid (P.size ≤ maxLen) := hPs
  clear hPs
  go_wp2
  refine wp_region_rel (fun W => w6.grownBy W none) (fun W W' => W.grownBy W' none) (by kernel_rfl) (by kernel_rfl) (fun W => grow_refl W none) (grow_drawn (grow_refl _ _)) ?_
  repeat (refine wpRel_det ?_; apply Exists.intro; refine ⟨fun W hI => ?_, ?_⟩; focus (go_simp; first | exact ⟨rfl, grow_refl _ _⟩ | exact sumBytes_rel P _ m6 hsg.out hI))
  refine wpRel_nil ?_
  intro w7 hI
  have G7 := grow_none G6 hI
  go_simp
  cases q with
  | true =>
    go_wp2
    refine bodyPost_ret (v := .tuple #[.string ⟨#[]⟩, .string ⟨#[]⟩, .int .i64 3]) ?_ ?_ ?_
    · simp [results, go_sem]
    · rfl
    · exact ⟨rfl, G7⟩
  | false =>
    go_wp2
    refine wp_region_rel (fun W => w7.grownBy W none) (fun W W' => W.grownBy W' none) (by kernel_rfl) (by kernel_rfl) (fun W => grow_refl W none) (grow_drawn (grow_refl _ _)) ?_
    repeat (refine wpRel_det ?_; apply Exists.intro; refine ⟨fun W hI => ?_, ?_⟩; focus (go_simp; exact ⟨rfl, grow_refl _ _⟩))
    refine wpRel_nil ?_
    intro w8 hI8
    have G8 := grow_none G7 hI8
    go_simp
    go_wp2
    refine bodyPost_ret (v := .tuple #[.string P, .string B, .int .i64 0]) ?_ ?_ ?_
    · simp [results, go_sem]
    · rfl
    · exact ⟨rfl, G8⟩
end Go.Proofs.YtphljjgjpkdpmaaGreatDoor
/- Numbers are read as they were written: plain facts. -/
namespace Go.Proofs.YtphljjgjpkdpmaaGreatDoor
open Go.RowKit
set_option linter.unusedVariables false
theorem unzig_zig {n : Int} : unzig (Lib.zigzag n) = n := by
  unfold unzig Lib.zigzag
  split <;> split <;> omega
theorem zig_unzig (z : Nat) : Lib.zigzag (unzig z) = z := by
  unfold unzig Lib.zigzag
  split <;> split <;> omega
theorem numB_unzig (z : Nat) : numB (unzig z) = Lib.uvarint z := by unfold numB; rw [zig_unzig]
theorem byte_eq {b : UInt8} {x : Nat} (h : x = b.toNat) : x.toUInt8 = b := by
  subst h; exact UInt8.ofNat_toNat
/-- What is read as a number is the number's bytes. -/
theorem getL_sound : ∀ (l : List UInt8) (i z : Nat), z < 128 ^ i → (getL l i z).2 ≠ 0 →
    ∃ y, l = Lib.uvarint y ++ l.drop ((getL l i z).2 - i) ∧ (getL l i z).1 = unzig (z + y * 128 ^ i) ∧ (getL l i z).2 = i + (Lib.uvarint y).length ∧ z + y * 128 ^ i < 18446744073709551616 ∧ (0 < i → y ≠ 0)
  | [], i, z, _, h => by simp [getL] at h
  | b :: r, i, z, hz, h => by
    by_cases h1 : 10 ≤ i
    · rw [getL, if_pos h1] at h; simp at h
    by_cases h2 : i = 9 ∧ 1 < b.toNat
    · rw [getL, if_neg h1, if_pos h2] at h; simp at h
    have hs := step_lt (by omega) hz b.toNat_lt h2
    by_cases h3 : 128 ≤ b.toNat
    · have e : getL (b :: r) i z = getL r (i + 1) (z + b.toNat % 128 * 128 ^ i) := by rw [getL, if_neg h1, if_neg h2, if_pos h3]
      rw [e] at h ⊢
      obtain ⟨y, e1, e2, e3, e4, e5⟩ := getL_sound r (i + 1) _ hs.2.2 h
      have hy := e5 (by omega)
      have hb := b.toNat_lt
      have ev : Lib.uvarint (b.toNat % 128 + 128 * y) = b :: Lib.uvarint y := by
        rw [Lib.uvarint_big (by omega), show (b.toNat % 128 + 128 * y) / 128 = y from by omega, byte_eq (b := b) (by omega)]
      have ep : z + (b.toNat % 128 + 128 * y) * 128 ^ i = z + b.toNat % 128 * 128 ^ i + y * 128 ^ (i + 1) := by
        rw [Nat.pow_succ, Nat.add_mul, Nat.mul_comm 128 y, Nat.mul_assoc, Nat.mul_comm 128 (128 ^ i), Nat.add_assoc]
      refine ⟨b.toNat % 128 + 128 * y, ?_, ?_, ?_, ?_, fun _ => by omega⟩
      · rw [ev, e3, show i + 1 + (Lib.uvarint y).length - i = (Lib.uvarint y).length + 1 from by omega, List.drop_succ_cons, List.cons_append]
        rw [e3, show i + 1 + (Lib.uvarint y).length - (i + 1) = (Lib.uvarint y).length from by omega] at e1
        rw [← e1]
      · rw [e2, ep]
      · rw [e3, ev, List.length_cons]; omega
      · rw [ep]; exact e4
    · by_cases h4 : b.toNat = 0 ∧ 0 < i
      · rw [getL, if_neg h1, if_neg h2, if_neg h3, if_pos h4] at h; simp at h
      have e : getL (b :: r) i z = (unzig (z + b.toNat % 128 * 128 ^ i), i + 1) := by rw [getL, if_neg h1, if_neg h2, if_neg h3, if_neg h4]
      rw [e]
      have em : b.toNat % 128 = b.toNat := by omega
      rw [em] at hs
      refine ⟨b.toNat, ?_, by simp only [em], ?_, hs.1, by omega⟩
      · rw [Lib.uvarint_small (by omega), byte_eq (b := b) rfl]
        show _ = _ ++ List.drop (i + 1 - i) _
        rw [show i + 1 - i = 1 from by omega]
        rfl
      · rw [Lib.uvarint_small (by omega)]; rfl
/-- What was written is read as it was. -/
theorem getL_back : ∀ (y i z : Nat) (more : List UInt8), z < 128 ^ i → z + y * 128 ^ i < 18446744073709551616 → (0 < i → y ≠ 0) →
    getL (Lib.uvarint y ++ more) i z = (unzig (z + y * 128 ^ i), i + (Lib.uvarint y).length) := by
  intro y
  induction y using Nat.strongRecOn with
  | _ y ih =>
    intro i z more hz hb hi
    have hi10 : ¬ 10 ≤ i := by
      intro h
      have h1 : 128 ^ 10 ≤ 128 ^ i := Nat.pow_le_pow_right (by omega) h
      have h2 : 1 * 128 ^ i ≤ y * 128 ^ i := Nat.mul_le_mul_right _ (by have := hi (by omega); omega)
      have h3 : (128 : Nat) ^ 10 = 1180591620717411303424 := by decide
      omega
    by_cases hy : y < 128
    · rw [Lib.uvarint_small hy, List.singleton_append, getL, if_neg hi10]
      have e : y.toUInt8.toNat = y := by simp; omega
      rw [e, if_neg, if_neg (by omega), if_neg, Nat.mod_eq_of_lt hy]
      · rfl
      · rintro ⟨h1, h2⟩; exact hi h2 h1
      · rintro ⟨rfl, h2⟩
        have e9 : (128 : Nat) ^ 9 = 9223372036854775808 := by decide
        rw [e9] at hb
        omega
    · rw [Lib.uvarint_big (by omega), List.cons_append, getL, if_neg hi10]
      have e : (y % 128 + 128).toUInt8.toNat = y % 128 + 128 := by simp; omega
      have ep : z + y * 128 ^ i = z + (y % 128) * 128 ^ i + y / 128 * 128 ^ (i + 1) := by
        have h : y = y % 128 + 128 * (y / 128) := by omega
        rw [Nat.pow_succ, Nat.add_assoc, ← Nat.mul_assoc, Nat.mul_right_comm, ← Nat.add_mul]
        congr 2
        omega
      have h9 : ¬ (i = 9 ∧ 1 < y % 128 + 128) := by
        rintro ⟨rfl, _⟩
        have e9 : (128 : Nat) ^ 9 = 9223372036854775808 := by decide
        rw [e9] at hb
        omega
      have hl : z + y % 128 * 128 ^ i < 128 ^ (i + 1) := by
        have : y % 128 * 128 ^ i ≤ 127 * 128 ^ i := Nat.mul_le_mul_right _ (by omega)
        rw [Nat.pow_succ]; omega
      rw [e, if_neg h9, if_pos (by omega), show (y % 128 + 128) % 128 = y % 128 from by omega, ih (y / 128) (by omega) (i + 1) _ more hl (by rw [← ep]; exact hb) (fun _ => by omega), ep, List.length_cons]
      congr 1
      omega
theorem getN_sound {s : ByteArray} (h : (getN s).2 ≠ 0) : s.data.toList = numB (getN s).1 ++ s.data.toList.drop (getN s).2 ∧ (getN s).2 = (numB (getN s).1).length := by
  obtain ⟨y, e1, e2, e3, _⟩ := getL_sound s.data.toList 0 0 (by decide) h
  simp only [Nat.zero_add, Nat.pow_zero, Nat.mul_one, Nat.sub_zero] at e1 e2 e3
  unfold getN at *
  rw [e2, numB_unzig]
  exact ⟨e1, e3⟩
theorem getN_back {n : Int} (hn : -9223372036854775808 ≤ n ∧ n ≤ 9223372036854775807) (more : List UInt8) : getN ⟨(numB n ++ more).toArray⟩ = (n, (numB n).length) := by
  have h := getL_back (Lib.zigzag n) 0 0 more (by decide) (by have := Lib.zigzag_lt hn.1 hn.2; simpa using this) (by omega)
  simp only [Nat.zero_add, Nat.pow_zero, Nat.mul_one] at h
  unfold getN numB
  rw [unzig_zig] at h
  exact h
theorem nextS_list (s : ByteArray) : nextS s = ⟨(s.data.toList.drop (getN s).2).toArray⟩ := by
  unfold nextS
  obtain ⟨⟨l⟩⟩ := s
  rw [ByteArray.extract_mk]
  simp [ByteArray.size]
  exact List.take_of_length_le (by simp)
theorem nextS_back {n : Int} (hn : -9223372036854775808 ≤ n ∧ n ≤ 9223372036854775807) (more : List UInt8) : nextS ⟨(numB n ++ more).toArray⟩ = ⟨more.toArray⟩ := by
  rw [nextS_list, getN_back hn]
  simp
end Go.Proofs.YtphljjgjpkdpmaaGreatDoor
/- Stage 4: frames, as plain lists: what opens, what doesn't. -/
namespace Go.Proofs.YtphljjgjpkdpmaaGreatDoor
open Go.RowKit
set_option linter.unusedVariables false
/-- A list of bytes as a string. -/
def bs (l : List UInt8) : ByteArray := ⟨l.toArray⟩
theorem bs_size (l : List UInt8) : (bs l).size = l.length := by show l.toArray.size = _; simp
theorem bs_list (l : List UInt8) : (bs l).data.toList = l := by simp [bs]
theorem bs_self (s : ByteArray) : bs s.data.toList = s := by obtain ⟨⟨l⟩⟩ := s; rfl
theorem bs_inj {x y : List UInt8} (h : bs x = bs y) : x = y := by rw [← bs_list x, h, bs_list]
theorem extract_bs (l : List UInt8) (a b : Nat) : (bs l).extract a b = bs ((l.drop a).take (b - a)) := ByteArray.extract_mk l a b
theorem len_bs (s : ByteArray) : s.data.toList.length = s.size := by rw [Array.length_toList]; rfl
theorem sumB_len (x : Nat) : (sumB x).length = 4 := rfl
theorem frB_size (p : ByteArray) : (frB p).length = (numB (p.size : Int)).length + 4 + p.size := by
  unfold frB; rw [List.length_append, List.length_append, sumB_len, len_bs]; omega
/-- A frame stands first. -/
def opB (s : ByteArray) : Bool := decide (lenOk s) && (((nextS s).extract 0 4).toList == (⟨(sumB (crcN (payB s))).toArray⟩ : ByteArray).toList)
theorem open_app (p : ByteArray) (hp : p.size ≤ 1048576) (more : List UInt8) : opB (bs (frB p ++ more)) = true ∧ payB (bs (frB p ++ more)) = p ∧ behB (bs (frB p ++ more)) = bs more := by
  have hn : -9223372036854775808 ≤ (p.size : Int) ∧ (p.size : Int) ≤ 9223372036854775807 := by omega
  have e : frB p ++ more = numB (p.size : Int) ++ (sumB (crcN p) ++ p.data.toList ++ more) := by unfold frB; simp only [List.append_assoc]
  have hg : getN (bs (frB p ++ more)) = ((p.size : Int), (numB (p.size : Int)).length) := by rw [e]; exact getN_back hn _
  have hx : nextS (bs (frB p ++ more)) = bs (sumB (crcN p) ++ p.data.toList ++ more) := by rw [e]; exact nextS_back hn _
  have hpn : payN (bs (frB p ++ more)) = p.size := by unfold payN; rw [hg]; rfl
  have h4 : (sumB (crcN p)).length = 4 := rfl
  have hpay : payB (bs (frB p ++ more)) = p := by
    unfold payB
    rw [hx, hpn, extract_bs, List.append_assoc, List.drop_append_of_le_length (by rw [h4]; omega), show (sumB (crcN p)).drop 4 = [] from rfl, List.nil_append, Nat.add_sub_cancel_left, List.take_left' (len_bs p), bs_self]
  have hbeh : behB (bs (frB p ++ more)) = bs more := by
    unfold behB
    rw [hx, hpn, extract_bs, bs_size, List.drop_left' (by rw [List.length_append, h4, len_bs]), List.take_of_length_le]
    rw [List.length_append, List.length_append, h4, len_bs]; omega
  refine ⟨?_, hpay, hbeh⟩
  unfold opB
  have hl : lenOk (bs (frB p ++ more)) := by
    unfold lenOk nextBad
    rw [hg, hx, bs_size, List.length_append, List.length_append, h4, len_bs]
    have := numB_pos (p.size : Int)
    refine ⟨?_, by simp only; omega, by simp only; omega, by simp only; omega⟩
    simp only
    rw [beq_eq_false_iff_ne]; omega
  rw [decide_eq_true hl, hpay, hx, extract_bs]
  simp only [List.drop_zero, Nat.sub_zero, Bool.true_and]
  rw [List.append_assoc, List.take_left' h4]
  show ((bs _).toList == (bs _).toList) = true
  rw [beq_self_eq_true]
theorem beq_bytes {a b : ByteArray} : (a.toList == b.toList) = true ↔ a = b := by
  constructor
  · intro h
    have h2 : a.toList = b.toList := by simpa using h
    rw [ByteArray.toList_eq, ByteArray.toList_eq] at h2
    exact ByteArray.ext (Array.ext' h2)
  · intro h; rw [h, beq_self_eq_true]
/-- What lies where the length says. -/
theorem len_sound {s : ByteArray} (h : lenOk s) : ∃ a b : List UInt8, a.length = 4 ∧ ((payB s).size : Int) = (getN s).1 ∧ (payB s).size ≤ 1048576 ∧ (nextS s).extract 0 4 = bs a ∧ s.data.toList = numB ((payB s).size : Int) ++ (a ++ ((payB s).data.toList ++ b)) ∧ behB s = bs b ∧ (getN s).2 = (numB ((payB s).size : Int)).length := by
  obtain ⟨h0, h1, h2, h3⟩ := h
  have hne : (getN s).2 ≠ 0 := by
    intro e
    unfold nextBad at h0
    rw [e] at h0
    cases h0
  obtain ⟨hs1, hs2⟩ := getN_sound hne
  have hx : nextS s = bs (s.data.toList.drop (getN s).2) := nextS_list s
  obtain ⟨r, hr⟩ : ∃ r, r = s.data.toList.drop (getN s).2 := ⟨_, rfl⟩
  rw [← hr] at hx hs1
  rw [hx, bs_size] at h3
  obtain ⟨n, hn⟩ : ∃ n : Nat, (n : Int) = (getN s).1 := ⟨(getN s).1.toNat, by omega⟩
  have hpn : payN s = n := by unfold payN; omega
  have hpay : payB s = bs ((r.drop 4).take n) := by
    unfold payB
    rw [hx, hpn, extract_bs, Nat.add_sub_cancel_left]
  have hps : (payB s).size = n := by rw [hpay, bs_size, List.length_take, List.length_drop]; omega
  refine ⟨r.take 4, r.drop (4 + n), by rw [List.length_take]; omega, by rw [hps]; exact hn, by omega, ?_, ?_, ?_, ?_⟩
  · rw [hx, extract_bs, List.drop_zero]
  · rw [hps, hn, hpay, bs_list]
    conv => lhs; rw [hs1]
    congr 1
    rw [← List.drop_drop, List.take_append_drop, List.take_append_drop]
  · unfold behB
    rw [hx, hpn, extract_bs, bs_size, List.take_of_length_le]
    rw [List.length_drop]; omega
  · rw [hps, hn]; exact hs2
theorem open_sound {s : ByteArray} (h : opB s = true) : s.data.toList = frB (payB s) ++ (behB s).data.toList ∧ (payB s).size ≤ 1048576 := by
  unfold opB at h
  rw [Bool.and_eq_true] at h
  obtain ⟨hl, hsum⟩ := h
  obtain ⟨a, b, ha, hp1, hp2, hx, hs, hb, _⟩ := len_sound (of_decide_eq_true hl)
  refine ⟨?_, hp2⟩
  have e := beq_bytes.1 hsum
  rw [hx] at e
  have ea : a = sumB (crcN (payB s)) := bs_inj e
  rw [hs, hb, bs_list, ea]
  unfold frB
  simp only [List.append_assoc]
theorem frB_inj {p q : ByteArray} {x y : List UInt8} (hp : p.size ≤ 1048576) (hq : q.size ≤ 1048576) (h : frB p ++ x = frB q ++ y) : p = q ∧ x = y := by
  obtain ⟨_, h1, h2⟩ := open_app p hp x
  obtain ⟨_, h3, h4⟩ := open_app q hq y
  rw [h] at h1 h2
  exact ⟨h1.symm.trans h3, bs_inj (h2.symm.trans h4)⟩
theorem open_cut (p : ByteArray) (hp : p.size ≤ 1048576) (k : Nat) (hk : k < (frB p).length) : opB (bs ((frB p).take k)) = false := by
  by_cases h : opB (bs ((frB p).take k)) = true
  · exfalso
    obtain ⟨h1, h2⟩ := open_sound h
    rw [bs_list] at h1
    have h3 : frB p ++ [] = frB (payB (bs ((frB p).take k))) ++ ((behB (bs ((frB p).take k))).data.toList ++ (frB p).drop k) := by
      rw [← List.append_assoc, ← h1, List.take_append_drop, List.append_nil]
    obtain ⟨_, h4⟩ := frB_inj hp h2 h3
    have h5 : ((frB p).drop k).length = 0 := by
      have := congrArg List.length h4
      rw [List.length_append] at this
      simp only [List.length_nil] at this
      omega
    rw [List.length_drop] at h5
    omega
  · simpa using h
theorem open_less {s : ByteArray} (h : opB s = true) : (behB s).size + 5 ≤ s.size := by
  obtain ⟨h1, _⟩ := open_sound h
  have h2 := congrArg List.length h1
  rw [List.length_append, len_bs, len_bs, frB_size] at h2
  have := numB_pos ((payB s).size : Int)
  omega
/-- The payloads of the frames that stand there, and what is left behind them. -/
inductive Scans : ByteArray → List ByteArray → ByteArray → Prop
  | stop (s : ByteArray) : opB s = false → Scans s [] s
  | go (s : ByteArray) (l : List ByteArray) (c : ByteArray) : opB s = true → Scans (behB s) l c → Scans s (payB s :: l) c
theorem Scans.same {s c d : ByteArray} {l m : List ByteArray} (h : Scans s l c) (k : Scans s m d) : l = m ∧ c = d := by
  induction h generalizing m d with
  | stop s h =>
    cases k with
    | stop => exact ⟨rfl, rfl⟩
    | go _ _ _ h2 => rw [h] at h2; cases h2
  | go s l c h _ ih =>
    cases k with
    | stop _ h2 => rw [h] at h2; cases h2
    | go _ _ _ h2 k2 =>
      obtain ⟨e1, e2⟩ := ih k2
      exact ⟨by rw [e1], e2⟩
theorem Scans.ahead {more : List UInt8} {m : List ByteArray} {c : ByteArray} (h : Scans (bs more) m c) : ∀ l : List ByteArray, (∀ s ∈ l, s.size ≤ 1048576) → Scans (bs (framesB l ++ more)) (l ++ m) c
  | [], _ => by simpa [framesB] using h
  | p :: l, hl => by
    have e : framesB (p :: l) ++ more = frB p ++ (framesB l ++ more) := by unfold framesB; simp only [List.flatMap_cons, List.append_assoc]
    obtain ⟨h1, h2, h3⟩ := open_app p (hl p (List.mem_cons_self ..)) (framesB l ++ more)
    have ih := Scans.ahead h l (fun s hs => hl s (List.mem_cons_of_mem _ hs))
    rw [← h3] at ih
    have := Scans.go _ _ _ h1 ih
    rw [h2] at this
    rw [e]
    exact this
end Go.Proofs.YtphljjgjpkdpmaaGreatDoor
