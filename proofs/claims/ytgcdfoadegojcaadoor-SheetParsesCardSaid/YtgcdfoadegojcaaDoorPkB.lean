/- What the package pack's putNum does. -/
import Derived.Test.YtgcdfoadegojcaaDoorChecked
import Derived.Test.YtgcdfoadegojcaaDoorPkA
namespace Go.Proofs.YtgcdfoadegojcaaDoor
open Go.RowKit
set_option linter.unusedVariables false
theorem Tryd.info5 : (Tryd.prog.info? 5).map (fun i => (i.zero, i.size, i.bytes)) = some (some (.int .u8 0), 1, 1) := by kernel_rfl
set_option maxRecDepth 100000 in
set_option maxHeartbeats 400000 in
theorem putNum_any (v : Value) (len : Nat) (xs : List UInt8) (n : Int) (w : World)
    (hown : w.ownsRow 0 5 1 v len (xs.map c8)) (hlen : len + 10 ≤ 140737488355328) (hn : -9223372036854775808 ≤ n ∧ n ≤ 9223372036854775807) :
    Calls Tryd.prog 72 #[v, .int .i64 n] w fun e w' => ∃ v', e = .returned v' ∧ w'.ownsRow 0 5 1 v' (len + (numB n).length) ((xs ++ numB n).map c8) ∧ w.grownBy w' v.ownBlock ∧ Moved w v v' := by
  obtain ⟨i0, hi, hz0, hz1, hz2⟩ := info_parts Tryd.info5
  have zb := zig_bits hn
  have hL := numB_len hn
  go_enter Tryd.func72, Tryd.ntmps72
  go_wp2
  clear zb
  go_loopw [0, 5] (fun v1 s wr => ∃ (z : Nat) (pre : List UInt8), z < 18446744073709551616 ∧ s = .int .u64 z ∧ pre ++ Lib.uvarint z = numB n ∧ wr.ownsRow 0 5 1 v1 (len + pre.length) ((xs ++ pre).map c8) ∧ w.grownBy wr v.ownBlock ∧ Moved w v v1) (fun _ s _ => (intOf s).toNat)
  case atStart => exact ⟨Lib.zigzag n, [], Lib.zigzag_lt hn.1 hn.2, rfl, rfl, by simpa using hown, grow_refl _ _, Moved.refl _ _⟩
  case round =>
    obtain ⟨z, pre, hz, rfl, hp, ho, hg, hm⟩ := hrel
    have hpl : pre.length + (Lib.uvarint z).length ≤ 10 := by rw [← hp, List.length_append] at hL; exact hL
    have hlp := Lib.uvarint_pos z
    have HM : Hid (len + pre.length + 1 ≤ maxLen) := by show _ ≤ 2^63-1; omega
    have HP := Lib.hid hp
    have HZ := Lib.hid hz
    clear hp hL hz
    by_cases h128 : z < 128
    · have h1 : ((128 : Int) ≤ (z : Int)) = False := by simp; omega
      have ew : IntKind.u8.wrap (z : Int) = (z : Int) := IntWalk.u8_in _ (by omega)
      go_wp2_with (at_builtin; refine wpList_append_buf _ rfl _ _ 52 rfl 5 i0 (.int .u8 0) 1 1 Tryd.underlying52 hi hz0 hz1 hz2 rfl (by decide) _ _ _ rfl (ho.alloc _) ⟨wr.heap.size, 0, none⟩ 1 1 [.int .u8 z] rfl rfl (cells_new1 _ _ _) (one_u8 _) (by exact HM.out) (by omega) ?_)
      intro v' w' ho' hg' hm'
      go_wp2
      go_ret
      have e1 : numB n = pre ++ [z.toUInt8] := by rw [← HP.out, Lib.uvarint_small h128]
      refine ⟨_, rfl, ?_, ?_, ?_⟩
      · rw [e1]; simpa [c8_lowP h128, Nat.add_assoc] using ho'
      · exact grow_trans hg hm (grow_none (World.grownBy_alloc _ _ _) hg')
      · exact hm.trans hg.size (Moved_alloc hm')
    · have h1 : (128 : Int) ≤ (z : Int) := by omega
      have hp2 : (pre ++ [(z % 128 + 128).toUInt8]) ++ Lib.uvarint (z / 128) = numB n := by
        rw [← HP.out, Lib.uvarint_big (x := z) (by omega), List.append_assoc]; rfl
      have HQ := Lib.hid hp2
      have ew := or128b z
      clear hp2
      go_wp2_with (at_builtin; refine wpList_append_buf _ rfl _ _ 52 rfl 5 i0 (.int .u8 0) 1 1 Tryd.underlying52 hi hz0 hz1 hz2 rfl (by decide) _ _ _ rfl (ho.alloc _) ⟨wr.heap.size, 0, none⟩ 1 1 [.int .u8 ((z % 128 + 128 : Nat) : Int)] rfl rfl (cells_new1 _ _ _) (one_u8 _) (by exact HM.out) (by omega) ?_)
      intro v' w' ho' hg' hm'
      go_wp2
      refine ⟨⟨z / 128, pre ++ [(z % 128 + 128).toUInt8], ?_, by go_num, HQ.out, ?_, grow_trans hg hm (grow_none (World.grownBy_alloc _ _ _) hg'), hm.trans hg.size (Moved_alloc hm')⟩, by simp [intOf]; omega⟩
      · have := HZ.out; omega
      · have e : ((z % 128 + 128 : Nat) : Int) = (z : Int) % 128 + 128 := by omega
        have e2 := c8_high z
        rw [e] at e2
        rw [← List.append_assoc, List.map_append, List.map_singleton, e2]
        simpa [Nat.add_assoc] using ho'
end Go.Proofs.YtgcdfoadegojcaaDoor
