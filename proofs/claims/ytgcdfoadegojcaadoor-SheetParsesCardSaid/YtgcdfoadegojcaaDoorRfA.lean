/- What the document's answer for layer 1 is: Num. -/
import Derived.Test.YtgcdfoadegojcaaDoorChecked
import Derived.Test.YtgcdfoadegojcaaDoorPkA
import Derived.Test.YtgcdfoadegojcaaDoorB1
namespace Go.Proofs.YtgcdfoadegojcaaDoor
open Go.RowKit
set_option linter.unusedVariables false
/-- One byte as a string. -/
def str1 (x : Int) : ByteArray := ⟨#[UInt8.ofNat x.toNat]⟩
theorem conv_one {P : Program} {src dst e : TypeId} (hs : P.underlying src = some (.slice e)) (he : P.underlying e = some (.int .u8)) (hd : P.underlying dst = some .string) (w : World) (x : Int) (t : TypeId) :
    (convert src dst (.slice (some ⟨w.heap.size, 0, none⟩) 1 1)).run P (w.alloc (.cells #[.int .u8 x] t)) = .ok (.string (str1 x)) (w.alloc (.cells #[.int .u8 x] t)) := by
  rw [run_convert_bytes_string _ src dst e _ _ _ hs he hd, run_bytesToString _ ⟨w.heap.size, 0, none⟩ 1 1 [x]]
  · rfl
  · have := run_loadCells_list (P := P) (w.alloc (.cells #[.int .u8 x] t)) ⟨w.heap.size, 0, none⟩ [.int .u8 x] (cells_new1 w _ t)
    exact this
theorem str1_low {z : Nat} : str1 (z : Int) = ⟨[z.toUInt8].toArray⟩ := rfl
theorem app_lists (x y : List UInt8) : (⟨x.toArray⟩ : ByteArray) ++ ⟨y.toArray⟩ = ⟨(x ++ y).toArray⟩ := ByteArray.mk_append_mk x y
theorem zig_neg {n : Int} (hn : -9223372036854775808 ≤ n ∧ n ≤ 9223372036854775807) (h : n < 0) : IntKind.u64.wrap (IntKind.u64.wrap (-IntKind.u64.wrap (IntKind.u64.wrap n * 2)) - 1) = (Lib.zigzag n : Int) := by
  rw [IntKind.wrap_u64, IntKind.wrap_u64, IntKind.wrap_u64, IntKind.wrap_u64, Lib.zigzag, if_neg (by omega)]
  omega
theorem zig_pos {n : Int} (hn : -9223372036854775808 ≤ n ∧ n ≤ 9223372036854775807) (h : ¬ n < 0) : IntKind.u64.wrap (IntKind.u64.wrap n * 2) = (Lib.zigzag n : Int) := by
  rw [IntKind.wrap_u64, IntKind.wrap_u64, Lib.zigzag, if_pos (by omega)]
  omega
set_option maxRecDepth 100000 in
set_option maxHeartbeats 1000000 in
theorem refNum_any (n : Int) (w : World) (hn : -9223372036854775808 ≤ n ∧ n ≤ 9223372036854775807) :
    Calls Tryd.prog 56 #[.int .i64 n] w fun e w' => e = .returned (.string ⟨(numB n).toArray⟩) ∧ w.grownBy w' none := by
  have hcv := conv_one (P := Tryd.prog) Tryd.underlying52 Tryd.underlying5 Tryd.underlying9
  have hL := numB_len hn
  have HZ := Lib.hid (Lib.zigzag_lt hn.1 hn.2)
  have hcase : (n < 0 ∧ IntKind.u64.wrap (IntKind.u64.wrap (-IntKind.u64.wrap (IntKind.u64.wrap n * 2)) - 1) = (Lib.zigzag n : Int)) ∨ (0 ≤ n ∧ IntKind.u64.wrap (IntKind.u64.wrap n * 2) = (Lib.zigzag n : Int)) := by
    rcases Int.lt_or_le n 0 with h | h
    · exact .inl ⟨h, zig_neg hn h⟩
    · exact .inr ⟨h, zig_pos hn (by omega)⟩
  have hdl : n < 0 → decide (n < 0) = true := by intro h; simpa using h
  have hdr : 0 ≤ n → decide (n < 0) = false := by intro h; simpa using h
  rcases hcase with ⟨h, zz⟩ | ⟨h, zz⟩
  · have hd := hdl h
    clear hdl hdr
    go_enter Tryd.func56, Tryd.ntmps56
    go_wp2
    clear zz
    go_loopw [3, 4] (fun s o wr => ∃ (z : Nat) (pre : List UInt8), z < 18446744073709551616 ∧ s = .int .u64 z ∧ o = .string ⟨pre.toArray⟩ ∧ pre ++ Lib.uvarint z = numB n ∧ w.grownBy wr none) (fun s _ _ => (intOf s).toNat)
    case atStart => exact ⟨Lib.zigzag n, [], HZ.out, by first | rfl | (congr 1; exact (Lib.zigzag_nonneg h).symm), rfl, rfl, grow_refl _ _⟩
    case round =>
      obtain ⟨z, pre, hz, rfl, rfl, hp, hg⟩ := hrel
      have hpl : pre.length + (Lib.uvarint z).length ≤ 10 := by rw [← hp, List.length_append] at hL; exact hL
      have hlp := Lib.uvarint_pos z
      have hq : (z : Int) / 128 ≤ 144115188075855872 := by omega
      have HP := Lib.hid hp
      have HZZ := Lib.hid hz
      clear hp hL hz
      have hpi : (pre.length : Int) ≤ 10 := by omega
      have hs1 : ∀ x : Int, (str1 x).size = 1 := fun _ => rfl
      by_cases h128 : z < 128
      · have h1 : ((128 : Int) ≤ (z : Int)) = False := by simp; omega
        have ew : IntKind.u8.wrap (z : Int) = (z : Int) := IntWalk.u8_in _ (by omega)
        go_wp2
        go_ret
        refine ⟨?_, grow_none hg (World.grownBy_alloc _ _ _)⟩
        show Ending.returned (Value.string _) = _
        rw [str1_low, app_lists, ← HP.out, Lib.uvarint_small h128]
      · have h1 : (128 : Int) ≤ (z : Int) := by omega
        have hp2 : (pre ++ [(z % 128 + 128).toUInt8]) ++ Lib.uvarint (z / 128) = numB n := by
          rw [← HP.out, Lib.uvarint_big (x := z) (by omega), List.append_assoc]; rfl
        have HQ := Lib.hid hp2
        clear hp2
        go_wp2
        refine ⟨⟨z / 128, pre ++ [(z % 128 + 128).toUInt8], ?_, by go_num, ?_, HQ.out, grow_none hg (World.grownBy_alloc _ _ _)⟩, by simp [intOf]; omega⟩
        · have := HZZ.out; omega
        · rw [show (z : Int) % 128 + 128 = ((z % 128 + 128 : Nat) : Int) from by omega, str1_low, app_lists]
  · have hd := hdr h
    clear hdl hdr
    go_enter Tryd.func56, Tryd.ntmps56
    go_wp2
    clear zz
    go_loopw [3, 4] (fun s o wr => ∃ (z : Nat) (pre : List UInt8), z < 18446744073709551616 ∧ s = .int .u64 z ∧ o = .string ⟨pre.toArray⟩ ∧ pre ++ Lib.uvarint z = numB n ∧ w.grownBy wr none) (fun s _ _ => (intOf s).toNat)
    case atStart => exact ⟨Lib.zigzag n, [], HZ.out, by first | rfl | (congr 1; exact (Lib.zigzag_nonneg h).symm), rfl, rfl, grow_refl _ _⟩
    case round =>
      obtain ⟨z, pre, hz, rfl, rfl, hp, hg⟩ := hrel
      have hpl : pre.length + (Lib.uvarint z).length ≤ 10 := by rw [← hp, List.length_append] at hL; exact hL
      have hlp := Lib.uvarint_pos z
      have hq : (z : Int) / 128 ≤ 144115188075855872 := by omega
      have HP := Lib.hid hp
      have HZZ := Lib.hid hz
      clear hp hL hz
      have hpi : (pre.length : Int) ≤ 10 := by omega
      have hs1 : ∀ x : Int, (str1 x).size = 1 := fun _ => rfl
      by_cases h128 : z < 128
      · have h1 : ((128 : Int) ≤ (z : Int)) = False := by simp; omega
        have ew : IntKind.u8.wrap (z : Int) = (z : Int) := IntWalk.u8_in _ (by omega)
        go_wp2
        go_ret
        refine ⟨?_, grow_none hg (World.grownBy_alloc _ _ _)⟩
        show Ending.returned (Value.string _) = _
        rw [str1_low, app_lists, ← HP.out, Lib.uvarint_small h128]
      · have h1 : (128 : Int) ≤ (z : Int) := by omega
        have hp2 : (pre ++ [(z % 128 + 128).toUInt8]) ++ Lib.uvarint (z / 128) = numB n := by
          rw [← HP.out, Lib.uvarint_big (x := z) (by omega), List.append_assoc]; rfl
        have HQ := Lib.hid hp2
        clear hp2
        go_wp2
        refine ⟨⟨z / 128, pre ++ [(z % 128 + 128).toUInt8], ?_, by go_num, ?_, HQ.out, grow_none hg (World.grownBy_alloc _ _ _)⟩, by simp [intOf]; omega⟩
        · have := HZZ.out; omega
        · rw [show (z : Int) % 128 + 128 = ((z % 128 + 128 : Nat) : Int) from by omega, str1_low, app_lists]
end Go.Proofs.YtgcdfoadegojcaaDoor
