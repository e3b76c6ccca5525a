/- Stage 3: Name, Hash; the document's. -/
import Derived.Test.YtgcdfoadegojcaaDoorShA
import Derived.Test.YtgcdfoadegojcaaDoorStep
import Derived.Test.YtgcdfoadegojcaaDoorShelf
namespace Go.Proofs.YtgcdfoadegojcaaDoor
open Go.RowKit
set_option linter.unusedVariables false
theorem Tryd.info03_uint8 : (Tryd.prog.info? 5).map (fun i => (i.zero, i.size, i.bytes)) = some (some (.int .u8 0), 1, 1) := by kernel_rfl
def digL : List UInt8 := [48, 49, 50, 51, 52, 53, 54, 55, 56, 57, 97, 98, 99, 100, 101, 102]
def hexD (n : Nat) : UInt8 := digL.getD n 0
def hexP (b : UInt8) : List UInt8 := [hexD (b.toNat / 16), hexD (b.toNat % 16)]
def hexB (l : List UInt8) : List UInt8 := l.flatMap hexP
theorem hexB_len : ∀ l : List UInt8, (hexB l).length = 2 * l.length
  | [] => rfl
  | x :: l => by
    have e : hexB (x :: l) = hexP x ++ hexB l := by unfold hexB; simp only [List.flatMap_cons]
    rw [e, List.length_append, hexB_len l, List.length_cons]
    show 2 + _ = _
    omega
theorem hexB_snoc (l : List UInt8) (k : Nat) (hk : k < l.length) : hexB (l.take (k + 1)) = hexB (l.take k) ++ hexP (l.getD k 0) := by
  unfold hexB
  rw [List.take_succ_eq_append_getElem hk, List.flatMap_append, List.getD, List.getElem?_eq_getElem hk]
  simp only [List.flatMap_cons, List.flatMap_nil, List.append_nil, Option.getD_some]
def digS : ByteArray := ⟨#[48, 49, 50, 51, 52, 53, 54, 55, 56, 57, 97, 98, 99, 100, 101, 102]⟩
set_option maxRecDepth 100000 in
theorem idx_dig (n : Nat) (hn : n < 16) (W : World) : (Instr.index 9 (.string ⟨#[48, 49, 50, 51, 52, 53, 54, 55, 56, 57, 97, 98, 99, 100, 101, 102]⟩) (.int .u8 (n : Int))).run Tryd.prog W = .ok (.int .u8 ((hexD n).toNat : Int)) W := by
  match n, hn with
  | 0, _ => exact (by kernel_rfl : (Instr.index 9 (.string ⟨#[48, 49, 50, 51, 52, 53, 54, 55, 56, 57, 97, 98, 99, 100, 101, 102]⟩) (.int .u8 0)).run Tryd.prog W = .ok (.int .u8 48) W)
  | 1, _ => exact (by kernel_rfl : (Instr.index 9 (.string ⟨#[48, 49, 50, 51, 52, 53, 54, 55, 56, 57, 97, 98, 99, 100, 101, 102]⟩) (.int .u8 1)).run Tryd.prog W = .ok (.int .u8 49) W)
  | 2, _ => exact (by kernel_rfl : (Instr.index 9 (.string ⟨#[48, 49, 50, 51, 52, 53, 54, 55, 56, 57, 97, 98, 99, 100, 101, 102]⟩) (.int .u8 2)).run Tryd.prog W = .ok (.int .u8 50) W)
  | 3, _ => exact (by kernel_rfl : (Instr.index 9 (.string ⟨#[48, 49, 50, 51, 52, 53, 54, 55, 56, 57, 97, 98, 99, 100, 101, 102]⟩) (.int .u8 3)).run Tryd.prog W = .ok (.int .u8 51) W)
  | 4, _ => exact (by kernel_rfl : (Instr.index 9 (.string ⟨#[48, 49, 50, 51, 52, 53, 54, 55, 56, 57, 97, 98, 99, 100, 101, 102]⟩) (.int .u8 4)).run Tryd.prog W = .ok (.int .u8 52) W)
  | 5, _ => exact (by kernel_rfl : (Instr.index 9 (.string ⟨#[48, 49, 50, 51, 52, 53, 54, 55, 56, 57, 97, 98, 99, 100, 101, 102]⟩) (.int .u8 5)).run Tryd.prog W = .ok (.int .u8 53) W)
  | 6, _ => exact (by kernel_rfl : (Instr.index 9 (.string ⟨#[48, 49, 50, 51, 52, 53, 54, 55, 56, 57, 97, 98, 99, 100, 101, 102]⟩) (.int .u8 6)).run Tryd.prog W = .ok (.int .u8 54) W)
  | 7, _ => exact (by kernel_rfl : (Instr.index 9 (.string ⟨#[48, 49, 50, 51, 52, 53, 54, 55, 56, 57, 97, 98, 99, 100, 101, 102]⟩) (.int .u8 7)).run Tryd.prog W = .ok (.int .u8 55) W)
  | 8, _ => exact (by kernel_rfl : (Instr.index 9 (.string ⟨#[48, 49, 50, 51, 52, 53, 54, 55, 56, 57, 97, 98, 99, 100, 101, 102]⟩) (.int .u8 8)).run Tryd.prog W = .ok (.int .u8 56) W)
  | 9, _ => exact (by kernel_rfl : (Instr.index 9 (.string ⟨#[48, 49, 50, 51, 52, 53, 54, 55, 56, 57, 97, 98, 99, 100, 101, 102]⟩) (.int .u8 9)).run Tryd.prog W = .ok (.int .u8 57) W)
  | 10, _ => exact (by kernel_rfl : (Instr.index 9 (.string ⟨#[48, 49, 50, 51, 52, 53, 54, 55, 56, 57, 97, 98, 99, 100, 101, 102]⟩) (.int .u8 10)).run Tryd.prog W = .ok (.int .u8 97) W)
  | 11, _ => exact (by kernel_rfl : (Instr.index 9 (.string ⟨#[48, 49, 50, 51, 52, 53, 54, 55, 56, 57, 97, 98, 99, 100, 101, 102]⟩) (.int .u8 11)).run Tryd.prog W = .ok (.int .u8 98) W)
  | 12, _ => exact (by kernel_rfl : (Instr.index 9 (.string ⟨#[48, 49, 50, 51, 52, 53, 54, 55, 56, 57, 97, 98, 99, 100, 101, 102]⟩) (.int .u8 12)).run Tryd.prog W = .ok (.int .u8 99) W)
  | 13, _ => exact (by kernel_rfl : (Instr.index 9 (.string ⟨#[48, 49, 50, 51, 52, 53, 54, 55, 56, 57, 97, 98, 99, 100, 101, 102]⟩) (.int .u8 13)).run Tryd.prog W = .ok (.int .u8 100) W)
  | 14, _ => exact (by kernel_rfl : (Instr.index 9 (.string ⟨#[48, 49, 50, 51, 52, 53, 54, 55, 56, 57, 97, 98, 99, 100, 101, 102]⟩) (.int .u8 14)).run Tryd.prog W = .ok (.int .u8 101) W)
  | 15, _ => exact (by kernel_rfl : (Instr.index 9 (.string ⟨#[48, 49, 50, 51, 52, 53, 54, 55, 56, 57, 97, 98, 99, 100, 101, 102]⟩) (.int .u8 15)).run Tryd.prog W = .ok (.int .u8 102) W)
  | n + 16, h => exact absurd h (by omega)
theorem byte_hi (y : UInt8) : ∃ n : Nat, n < 16 ∧ n = y.toNat / 16 ∧ (y.toNat : Int) / 16 = (n : Int) := ⟨y.toNat / 16, by have := y.toNat_lt; omega, rfl, by omega⟩
theorem byte_lo (y : UInt8) : ∃ n : Nat, n < 16 ∧ n = y.toNat % 16 ∧ (y.toNat : Int) % 16 = (n : Int) ∧ bits .and .u8 (y.toNat : Int) 15 = (n : Int) := by
  refine ⟨y.toNat % 16, by omega, rfl, by omega, ?_⟩
  have h := u8_and_nat y.toNat 15 y.toNat_lt (by omega)
  rw [show ((15 : Nat) : Int) = 15 from rfl] at h
  rw [h]
  congr 1
  exact Nat.and_two_pow_sub_one_eq_mod y.toNat 4
set_option maxRecDepth 100000 in
set_option maxHeartbeats 2000000 in
theorem Name_any (s : ByteArray) (w : World) (hs : s.size ≤ 1000000) :
    Calls Tryd.prog 30 #[.string s] w fun e w' => e = .returned (.string ⟨(hexB s.data.toList).toArray⟩) ∧ w.grownBy w' none := by
  obtain ⟨i0, hi, hz0, hz1, hz2⟩ := info_parts Tryd.info03_uint8
  have hsi : (s.size : Int) ≤ 1000000 := by omega
  have hln : s.data.toList.length = s.size := by rw [Array.length_toList]; rfl
  have HLN := Lib.hid hln
  obtain ⟨T, hT⟩ : ∃ T, T = 2 * s.size := ⟨_, rfl⟩
  have h2 : 2 * (s.size : Int) = (T : Int) := by omega
  have hT2 : T ≤ 2000000 := by omega
  clear hln hT
  go_enter Tryd.func30, Tryd.ntmps30
  go_wp2_with (at_make; refine wpList_make_own _ rfl _ _ 52 rfl 0 5 i0 (.int .u8 0) 1 Tryd.underlying52 hi hz0 hz1 _ _ _ T rfl rfl rfl (by rw [hz2]; omega) (by show _ ≤ 2^63-1; omega) (Nat.zero_le _) ?_)
  intro w1 ho1 hg1
  go_wp2
  go_loopw [3, 11] (fun v i wr => ∃ k : Nat, k ≤ s.size ∧ i = .int .i64 k ∧ wr.ownsRow 0 5 1 v (2 * k) ((hexB (s.data.toList.take k)).map c8) ∧ w.grownBy wr none ∧ NewBlk w v) (fun _ i _ => s.size - (intOf i).toNat)
  case atStart => exact ⟨0, Nat.zero_le _, rfl, by simpa [hexB] using ho1, hg1, newblk_at _ _ _ _ (Nat.le_refl _) _⟩
  case round =>
    rename_i u3 _ _
    obtain ⟨k, hk, rfl, ho, hg, hn⟩ := hrel
    clear ho1 hg1
    by_cases hlt : k < s.size
    · have hki : (k : Int) < s.size := by omega
      have HSN := Lib.hid (hexB_snoc s.data.toList k (by rw [HLN.out]; exact hlt))
      rw [byte_get s k hlt] at HSN
      obtain ⟨y, hy⟩ : ∃ y, y = s[k] := ⟨_, rfl⟩
      have hix : ∀ W, (Instr.index 9 (.string s) (.int .i64 (k : Int))).run Tryd.prog W = .ok (.int .u8 (y.toNat : Int)) W := fun W => by
        rw [run_index_string (P := Tryd.prog) W 9 s .i64 k Tryd.underlying9]
        simp [hlt, hy]
      rw [← hy] at HSN
      obtain ⟨a, ha, hae, ha1⟩ := byte_hi y
      obtain ⟨b, hb, hbe, hb1, hb2⟩ := byte_lo y
      have hda := fun W => idx_dig a ha W
      have hdb := fun W => idx_dig b hb W
      have HN : Hid ([c8 (hexD a), c8 (hexD b)] = (hexP y).map c8) := by show _ = _; rw [hae, hbe]; rfl
      have hkb : k ≤ 1000000 := by omega
      clear hy hae hbe
      have gA : wr.grownBy (wr.drew.alloc (.cells #[c8 (hexD a), c8 (hexD b)] 5)) none := grow_drew _ (World.grownBy_alloc wr.drew _ none)
      have oA : (wr.drew.alloc (.cells #[c8 (hexD a), c8 (hexD b)] 5)).ownsRow 0 5 1 u3 (2 * k) ((hexB (s.data.toList.take k)).map c8) := own_keep ho gA
      have rA : RowAt (wr.drew.alloc (.cells #[c8 (hexD a), c8 (hexD b)] 5)) (.slice (some ⟨wr.heap.size, 0, none⟩) 2 2) [c8 (hexD a), c8 (hexD b)] := RowAt.lit wr.drew [c8 (hexD a), c8 (hexD b)] 5 2 2 rfl
      have GA : w.grownBy (wr.drew.alloc (.cells #[c8 (hexD a), c8 (hexD b)] 5)) none := grow_none hg (grow_drew _ (World.grownBy_alloc wr.drew _ none))
      go_wp2
      go_region_law (((with_reducible show (if Region.wanted (Oper.mk _ (Op.call { callee := .builtin .append, args := _, argTypes := _ }) _ _ _ _) _ = true then _ else _)); refine step_append_row (.tmp 14) (.tmp 25) 52 (by with_reducible rfl) 5 i0 (.int .u8 0) 1 Tryd.underlying52 hi hz0 hz1 hz2 rfl _ _ _ rfl oA _ [c8 (hexD a), c8 (hexD b)] rfl rA (one_c8 [hexD a, hexD b]) (by show 2 * k + 2 ≤ 2^63-1; omega) (by show (2 * k + 2) * 1 ≤ _; omega) rfl ?_; intro v4 w4 o4 g4 m4))
      all_goals
        have X4 := grow_newblk GA hn g4
        have N4 := hn.moved GA.size m4
        rw [HN.out, ← List.map_append, ← HSN.out] at o4
        go_wp2
        go_roundw
        case rel => exact ⟨k + 1, by omega, by go_num, o4, X4, N4⟩
        case measure => simp [intOf]; omega
    · have hki : (s.size : Int) ≤ k := by omega
      have ho2 : wr.ownsRow 0 5 1 u3 (2 * k) ((hexB s.data.toList).map c8) := by
        have e : s.data.toList.take k = s.data.toList := List.take_of_length_le (by rw [HLN.out]; omega)
        rw [e] at ho; exact ho
      have hconv := run_str_buf (P := Tryd.prog) wr Tryd.underlying52 Tryd.underlying5 Tryd.underlying9 ho2
      clear ho
      go_wp2
      go_ret
      exact ⟨rfl, hg⟩
end Go.Proofs.YtgcdfoadegojcaaDoor
