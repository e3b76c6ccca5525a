/- Several texts in one: PkB PkC PkD PkE PkF PkG PkH PkJa PkLa PkK RfA PkM RfD. -/
import Derived.Test.YtphljjgjpkdpmaaGreatDoorChecked
import Derived.Test.YtphljjgjpkdpmaaGreatDoorK6
import Derived.Test.YtphljjgjpkdpmaaGreatDoorK1
/- What the package pack's putNum does. -/
namespace Go.Proofs.YtphljjgjpkdpmaaGreatDoor
open Go.RowKit
set_option linter.unusedVariables false
theorem Tryz.info5 : (Tryz.prog.info? 5).map (fun i => (i.zero, i.size, i.bytes)) = some (some (.int .u8 0), 1, 1) := by kernel_rfl
set_option maxRecDepth 100000 in
set_option maxHeartbeats 400000 in
theorem putNum_any (v : Value) (len : Nat) (xs : List UInt8) (n : Int) (w : World)
    (hown : w.ownsRow 0 5 1 v len (xs.map c8)) (hlen : len + 10 ≤ 140737488355328) (hn : -9223372036854775808 ≤ n ∧ n ≤ 9223372036854775807) :
    Calls Tryz.prog 79 #[v, .int .i64 n] w fun e w' => ∃ v', e = .returned v' ∧ w'.ownsRow 0 5 1 v' (len + (numB n).length) ((xs ++ numB n).map c8) ∧ w.grownBy w' v.ownBlock ∧ Moved w v v' := by
  obtain ⟨i0, hi, hz0, hz1, hz2⟩ := info_parts Tryz.info5
  have zb := zig_bits hn
  have hL := numB_len hn
  go_enter Tryz.func79, Tryz.ntmps79
  go_wp2
  clear zb
  go_loopw [0, 5] (fun v1 s wr => ∃ (z : Nat) (pre : List UInt8), z < 18446744073709551616 ∧ s = .int .u64 z ∧ pre ++ Lib.uvarint z = numB n ∧ wr.ownsRow 0 5 1 v1 (len + pre.length) ((xs ++ pre).map c8) ∧ w.grownBy wr v.ownBlock ∧ Moved w v v1) (fun _ s _ => (intOf s).toNat)
  case atStart => exact ⟨Lib.zigzag n, [], Lib.zigzag_lt hn.1 hn.2, rfl, rfl, by simpa using hown, grow_refl _ _, Moved.refl _ _⟩
  case round =>
    obtain ⟨z, pre, hz, rfl, hp, ho, hg, hm⟩ := hrel
    have hpl : pre.length + (Lib.uvarint z).length ≤ 10 := by rw [← hp, List.length_append] at hL; exact hL
    have hlp := Lib.uvarint_pos z
    have HM : Hid (len + pre.length + 1 ≤ maxLen) := by show _ ≤ 2^63-1; omega
    have HP := Lib.hid hp
    have HZ := Lib.hid hz
    clear hp hL hz
    by_cases h128 : z < 128
    · have h1 : ((128 : Int) ≤ (z : Int)) = False := by simp; omega
      have ew : IntKind.u8.wrap (z : Int) = (z : Int) := IntWalk.u8_in _ (by omega)
      go_wp2_with (at_builtin; refine wpList_append_buf _ rfl _ _ 50 rfl 5 i0 (.int .u8 0) 1 1 Tryz.underlying50 hi hz0 hz1 hz2 rfl (by decide) _ _ _ rfl (ho.alloc _) ⟨wr.heap.size, 0, none⟩ 1 1 [.int .u8 z] rfl rfl (cells_new1 _ _ _) (one_u8 _) (by exact HM.out) (by omega) ?_)
      intro v' w' ho' hg' hm'
      go_wp2
      go_ret
      have e1 : numB n = pre ++ [z.toUInt8] := by rw [← HP.out, Lib.uvarint_small h128]
      refine ⟨_, rfl, ?_, ?_, ?_⟩
      · rw [e1]; simpa [c8_lowP h128, Nat.add_assoc] using ho'
      · exact grow_trans hg hm (grow_none (World.grownBy_alloc _ _ _) hg')
      · exact hm.trans hg.size (Moved_alloc hm')
    · have h1 : (128 : Int) ≤ (z : Int) := by omega
      have hp2 : (pre ++ [(z % 128 + 128).toUInt8]) ++ Lib.uvarint (z / 128) = numB n := by
        rw [← HP.out, Lib.uvarint_big (x := z) (by omega), List.append_assoc]; rfl
      have HQ := Lib.hid hp2
      have ew := or128b z
      clear hp2
      go_wp2_with (at_builtin; refine wpList_append_buf _ rfl _ _ 50 rfl 5 i0 (.int .u8 0) 1 1 Tryz.underlying50 hi hz0 hz1 hz2 rfl (by decide) _ _ _ rfl (ho.alloc _) ⟨wr.heap.size, 0, none⟩ 1 1 [.int .u8 ((z % 128 + 128 : Nat) : Int)] rfl rfl (cells_new1 _ _ _) (one_u8 _) (by exact HM.out) (by omega) ?_)
      intro v' w' ho' hg' hm'
      go_wp2
      refine ⟨⟨z / 128, pre ++ [(z % 128 + 128).toUInt8], ?_, by go_num, HQ.out, ?_, grow_trans hg hm (grow_none (World.grownBy_alloc _ _ _) hg'), hm.trans hg.size (Moved_alloc hm')⟩, by simp [intOf]; omega⟩
      · have := HZ.out; omega
      · have e : ((z % 128 + 128 : Nat) : Int) = (z : Int) % 128 + 128 := by omega
        have e2 := c8_high z
        rw [e] at e2
        rw [← List.append_assoc, List.map_append, List.map_singleton, e2]
        simpa [Nat.add_assoc] using ho'
end Go.Proofs.YtphljjgjpkdpmaaGreatDoor
/- What the package pack's Nums does. -/
namespace Go.Proofs.YtphljjgjpkdpmaaGreatDoor
open Go.RowKit
set_option linter.unusedVariables false
def i64v (n : Int) : Value := .int .i64 n
/-- The bytes of numbers. -/
def numsB (l : List Int) : List UInt8 := l.flatMap numB
theorem numsB_snoc (l : List Int) (n : Int) : numsB (l ++ [n]) = numsB l ++ numB n := by simp [numsB]
theorem numsB_len (l : List Int) (hw : ∀ n ∈ l, -9223372036854775808 ≤ n ∧ n ≤ 9223372036854775807) : (numsB l).length ≤ 10 * l.length := by
  induction l with
  | nil => simp [numsB]
  | cons n l ih =>
    have h1 := numB_len (hw n (by simp))
    have h2 := ih (fun m hm => hw m (by simp [hm]))
    simp only [numsB, List.flatMap_cons, List.length_append, List.length_cons] at *
    omega
set_option maxRecDepth 100000 in
set_option maxHeartbeats 400000 in
theorem Nums_any (v : Value) (l : List Int) (w : World) (hr : RowAt w v (l.map i64v)) (hw : ∀ n ∈ l, -9223372036854775808 ≤ n ∧ n ≤ 9223372036854775807) (hlen : l.length ≤ 1000000000000) :
    Calls Tryz.prog 77 #[v] w fun e w' => e = .returned (.string ⟨(numsB l).toArray⟩) ∧ w.grownBy w' none := by
  obtain ⟨i0, hi, hz0, hz1, hz2⟩ := info_parts Tryz.info5
  obtain ⟨a, cap, rfl, hcells⟩ := hr
  rw [List.length_map] at hcells ⊢
  go_enter Tryz.func77, Tryz.ntmps77
  go_wp2_with (at_make; refine wpList_make_own _ rfl _ _ 50 rfl 0 5 i0 (.int .u8 0) 1 Tryz.underlying50 hi hz0 hz1 _ _ _ (2 * l.length) rfl rfl (by omega) (by rw [hz2]; omega) (by show _ ≤ 2^63-1; omega) (Nat.zero_le _) ?_)
  intro w1 ho1 hg1
  go_wp2
  go_loopw [3, 12] (fun out i wr => ∃ k : Nat, k ≤ l.length ∧ i = .int .i64 k ∧ wr.ownsRow 0 5 1 out (numsB (l.take k)).length ((numsB (l.take k)).map c8) ∧ w.grownBy wr none ∧ NewBlk w out) (fun _ i _ => l.length - (intOf i).toNat)
  case atStart => exact ⟨0, Nat.zero_le _, rfl, by simpa [numsB] using ho1, hg1, newblk_at _ _ _ _ (Nat.le_refl _) _⟩
  case round =>
    obtain ⟨k, hk, rfl, ho, hg, hn⟩ := hrel
    by_cases hlt : k < l.length
    · have hl1 := numsB_len (l.take k) (fun m hm => hw m (List.mem_of_mem_take hm))
      have hl2 : (l.take k).length ≤ k := List.length_take_le _ _
      rcases hcells with h0 | ⟨b, off, rfl, hb, hc⟩
      · have : l = [] := by simpa using h0
        subst this; simp at hlt
      have hcell : wr.cell? ⟨b, off + k, none⟩ = some (.int .i64 (l[k])) := by
        rw [World.cell?_of_block (hg.block b hb (by simp)), hc k hlt]; simp [i64v, List.getElem?_eq_getElem hlt]
      have hwk := hw l[k] (List.getElem_mem hlt)
      have HT : Hid (l.take (k+1) = l.take k ++ [l[k]]) := by rw [List.take_succ_eq_append_getElem hlt]; trivial
      clear hc
      go_wp2_with (go_at_call 79; refine (putNum_any _ _ _ _ _ ho (by omega) hwk).mono ?_; rintro e w2 ⟨v2, rfl, ho2, hg2, hm2⟩)
      go_roundw
      case rel => exact ⟨k + 1, by omega, by go_num, by rw [HT.out, numsB_snoc, List.length_append]; exact ho2, grow_newblk hg hn hg2, hn.moved hg.size hm2⟩
      case measure => simp [intOf]; omega
    · obtain rfl : k = l.length := by omega
      clear hcells
      have hconv := run_str_buf (P := Tryz.prog) wr Tryz.underlying50 Tryz.underlying5 Tryz.underlying9 ho
      go_wp2
      go_ret
      exact ⟨rfl, hg⟩
end Go.Proofs.YtphljjgjpkdpmaaGreatDoor
/- What the package pack's Text does. -/
namespace Go.Proofs.YtphljjgjpkdpmaaGreatDoor
open Go.RowKit
set_option linter.unusedVariables false
def strv (s : ByteArray) : Value := .string s
/-- The bytes of texts. -/
def textsB (l : List ByteArray) : List UInt8 := l.flatMap fun s => numB s.size ++ s.data.toList
/-- How much room is asked for. -/
def roomB (l : List ByteArray) : Nat := (l.map fun s => s.size + 10).sum
theorem textsB_snoc (l : List ByteArray) (s : ByteArray) : textsB (l ++ [s]) = textsB l ++ (numB s.size ++ s.data.toList) := by simp [textsB]
theorem roomB_snoc (l : List ByteArray) (s : ByteArray) : roomB (l ++ [s]) = roomB l + (s.size + 10) := by simp [roomB]
theorem roomB_take (l : List ByteArray) (k : Nat) : roomB (l.take k) ≤ roomB l := by
  induction l generalizing k with
  | nil => simp [roomB]
  | cons s l ih =>
    cases k with
    | zero => simp [roomB]
    | succ k => have := ih k; simp [roomB] at *; omega
theorem size_toList (s : ByteArray) : s.data.toList.length = s.size := by rw [Array.length_toList]; rfl
theorem textsB_len (l : List ByteArray) (h : roomB l ≤ 1000000000000) : (textsB l).length ≤ roomB l := by
  induction l with
  | nil => simp [textsB]
  | cons s l ih =>
    have e : roomB (s :: l) = s.size + 10 + roomB l := by simp only [roomB, List.map_cons, List.sum_cons]
    have h2 := ih (by omega)
    have h1 := numB_len (n := (s.size : Int)) (by omega)
    have e2 : textsB (s :: l) = (numB s.size ++ s.data.toList) ++ textsB l := by simp only [textsB, List.flatMap_cons]
    rw [e2, List.length_append, List.length_append, size_toList]
    omega
set_option maxRecDepth 100000 in
set_option maxHeartbeats 400000 in
theorem Text_any (v : Value) (l : List ByteArray) (w : World) (hr : RowAt w v (l.map strv)) (hlen : roomB l ≤ 1000000000000) :
    Calls Tryz.prog 45 #[v] w fun e w' => e = .returned (.string ⟨(textsB l).toArray⟩) ∧ w.grownBy w' none := by
  obtain ⟨i0, hi, hz0, hz1, hz2⟩ := info_parts Tryz.info5
  obtain ⟨a, cap, rfl, hcells⟩ := hr
  rw [List.length_map] at hcells ⊢
  have hll : l.length ≤ roomB l := by
    clear hcells hlen
    induction l with
    | nil => simp
    | cons s l ih => simp [roomB] at *; omega
  go_enter Tryz.func45, Tryz.ntmps45
  go_wp2
  go_loop [3, 11] (fun sz i => ∃ k : Nat, k ≤ l.length ∧ i = .int .i64 k ∧ sz = .int .i64 (roomB (l.take k) : Nat)) (fun _ i => l.length - (intOf i).toNat)
  case atStart => exact ⟨0, Nat.zero_le _, rfl, by simp [roomB]⟩
  case round =>
    obtain ⟨k, hk, rfl, rfl⟩ := hrel
    have hrk := roomB_take l k
    by_cases hlt : k < l.length
    · have hrk1 := roomB_take l (k+1)
      have HT : Hid (roomB (l.take (k+1)) = roomB (l.take k) + (l[k].size + 10)) := by show _ = _; rw [List.take_succ_eq_append_getElem hlt, roomB_snoc]
      have hs := HT.out ▸ hrk1
      clear hrk1
      rcases hcells with h0 | ⟨b, off, rfl, hb, hc⟩
      · have : l = [] := by simpa using h0
        subst this; simp at hlt
      have hcell : w.cell? ⟨b, off + k, none⟩ = some (.string (l[k])) := by
        rw [hc k hlt]; simp [strv, List.getElem?_eq_getElem hlt]
      clear hc
      go_wp2
      go_round
      case rel => exact ⟨k + 1, by omega, by go_num, by rw [HT.out]; go_num⟩
      case measure => simp [intOf]; omega
    · obtain rfl : k = l.length := by omega
      have hll2 : l.length ≤ 1000000000000 := by omega
      clear hrk hll
      rw [List.take_length]
      go_wp2_with (at_make; refine wpList_make_own _ rfl _ _ 50 rfl 0 5 i0 (.int .u8 0) 1 Tryz.underlying50 hi hz0 hz1 _ _ _ (roomB l) rfl rfl rfl (by rw [hz2]; omega) (by show _ ≤ 2^63-1; omega) (Nat.zero_le _) ?_)
      intro w1 ho1 hg1
      go_wp2
      go_loopw [6, 25] (fun out i wr => ∃ k : Nat, k ≤ l.length ∧ i = .int .i64 k ∧ wr.ownsRow 0 5 1 out (textsB (l.take k)).length ((textsB (l.take k)).map c8) ∧ w.grownBy wr none ∧ NewBlk w out) (fun _ i _ => l.length - (intOf i).toNat)
      case atStart => exact ⟨0, Nat.zero_le _, rfl, by simpa [textsB] using ho1, hg1, newblk_at _ _ _ _ (Nat.le_refl _) _⟩
      case round =>
        obtain ⟨k, hk, rfl, ho, hg, hn⟩ := hrel
        by_cases hlt : k < l.length
        · have hrk := roomB_take l (k+1)
          rw [List.take_succ_eq_append_getElem hlt, roomB_snoc] at hrk
          have hl1 := textsB_len (l.take k) (by omega)
          rcases hcells with h0 | ⟨b, off, rfl, hb, hc⟩
          · have : l = [] := by simpa using h0
            subst this; simp at hlt
          have hcell : wr.cell? ⟨b, off + k, none⟩ = some (.string l[k]) := by
            rw [World.cell?_of_block (hg.block b hb (by simp)), hc k hlt]; simp [strv, List.getElem?_eq_getElem hlt]
          have hn10 := numB_len (n := (l[k].size : Int)) (by omega)
          have HT : Hid (l.take (k+1) = l.take k ++ [l[k]]) := by rw [List.take_succ_eq_append_getElem hlt]; trivial
          clear hc
          go_wp2_with fail
          refine (putNum_any _ _ _ _ _ ho (by omega) (by omega)).mono ?_
          rintro e w2 ⟨v2, rfl, ho2, hg2, hm2⟩
          go_wp2_with (at_builtin; refine wpList_append_str _ rfl _ _ 50 9 rfl 5 i0 Tryz.underlying50 Tryz.underlying9 hi hz0 hz1 hz2 _ _ _ rfl ho2 _ rfl (by show _ ≤ 2^63-1; omega) (by omega) ?_)
          intro v3 w3 ho3 hg3 hm3
          go_wp2
          go_roundw
          case rel =>
            refine ⟨k + 1, by omega, by go_num, ?_, grow_newblk (grow_newblk hg hn hg2) (hn.moved hg.size hm2) hg3, (hn.moved hg.size hm2).moved (Nat.le_trans hg.size hg2.size) hm3⟩
            rw [HT.out, textsB_snoc, ← List.append_assoc]
            simpa [size_toList, Nat.add_assoc] using ho3
          case measure => simp [intOf]; omega
        · obtain rfl : k = l.length := by omega
          clear hcells
          have hconv := run_str_buf (P := Tryz.prog) wr Tryz.underlying50 Tryz.underlying5 Tryz.underlying9 ho
          go_wp2
          go_ret
          exact ⟨rfl, hg⟩
end Go.Proofs.YtphljjgjpkdpmaaGreatDoor
/- How a number is read: a plain function. -/
namespace Go.Proofs.YtphljjgjpkdpmaaGreatDoor
open Go.RowKit
set_option linter.unusedVariables false
/-- The number that an unsigned one stands for. -/
def unzig (z : Nat) : Int := if z % 2 = 0 then (z / 2 : Nat) else - ((z / 2 : Nat) : Int) - 1
/-- The number with which bytes begin, of which i groups are read and gave z; and how many bytes it takes: 0, if there is none. -/
def getL : List UInt8 → Nat → Nat → Int × Nat
  | [], _, _ => (0, 0)
  | b :: r, i, z =>
    if 10 ≤ i then (0, 0) else
    if i = 9 ∧ 1 < b.toNat then (0, 0) else
    if 128 ≤ b.toNat then getL r (i + 1) (z + b.toNat % 128 * 128 ^ i) else
    if b.toNat = 0 ∧ 0 < i then (0, 0) else
    (unzig (z + b.toNat % 128 * 128 ^ i), i + 1)
def getN (s : ByteArray) : Int × Nat := getL s.data.toList 0 0
theorem getL_used : ∀ (l : List UInt8) (i z : Nat), (getL l i z).2 ≤ i + l.length ∧ (getL l i z).2 ≤ 10
  | [], i, z => by simp [getL]
  | b :: r, i, z => by
    have ih := getL_used r (i + 1) (z + b.toNat % 128 * 128 ^ i)
    unfold getL
    simp only [List.length_cons]
    split
    · simp
    split
    · simp
    split
    · omega
    split
    · simp
    · exact ⟨by show i + 1 ≤ _; omega, by show i + 1 ≤ _; omega⟩
theorem unzig_bd {z : Nat} (h : z < 18446744073709551616) : -9223372036854775808 ≤ unzig z ∧ unzig z ≤ 9223372036854775807 := by unfold unzig; split <;> omega
theorem pow128 {i : Nat} (h : i ≤ 9) : 128 ^ i ≤ 9223372036854775808 := Nat.le_trans (Nat.pow_le_pow_right (by omega) h) (by decide)
theorem step_lt {i z b : Nat} (hi : i < 10) (hz : z < 128 ^ i) (hb : b < 256) (h9 : ¬ (i = 9 ∧ 1 < b)) : z + b % 128 * 128 ^ i < 18446744073709551616 ∧ b % 128 * 128 ^ i < 18446744073709551616 ∧ z + b % 128 * 128 ^ i < 128 ^ (i + 1) := by
  have hp := pow128 (i := i) (by omega)
  have e : 128 ^ (i + 1) = 128 * 128 ^ i := by rw [Nat.pow_succ, Nat.mul_comm]
  have h3 : b % 128 * 128 ^ i ≤ 127 * 128 ^ i := Nat.mul_le_mul_right _ (by omega)
  by_cases h : i = 9
  · subst h
    have h2 : b % 128 * 128 ^ 9 ≤ 1 * 128 ^ 9 := Nat.mul_le_mul_right _ (by omega)
    have e9 : (128 : Nat) ^ 9 = 9223372036854775808 := by decide
    rw [e9] at *
    omega
  · have h8 : 128 ^ i ≤ 128 ^ 8 := Nat.pow_le_pow_right (by omega) (by omega)
    have e8 : (128 : Nat) ^ 8 = 72057594037927936 := by decide
    rw [e8] at h8
    omega
theorem getL_bd : ∀ (l : List UInt8) (i z : Nat), z < 128 ^ i → -9223372036854775808 ≤ (getL l i z).1 ∧ (getL l i z).1 ≤ 9223372036854775807
  | [], i, z, _ => by simp [getL]
  | b :: r, i, z, hz => by
    unfold getL
    by_cases h1 : 10 ≤ i
    · rw [if_pos h1]; simp
    · rw [if_neg h1]
      by_cases h2 : i = 9 ∧ 1 < b.toNat
      · rw [if_pos h2]; simp
      · rw [if_neg h2]
        have hs := step_lt (by omega) hz b.toNat_lt h2
        by_cases h3 : 128 ≤ b.toNat
        · rw [if_pos h3]; exact getL_bd r _ _ hs.2.2
        · rw [if_neg h3]
          split
          · simp
          · exact unzig_bd hs.1
theorem getN_bd (s : ByteArray) : -9223372036854775808 ≤ (getN s).1 ∧ (getN s).1 ≤ 9223372036854775807 := getL_bd _ 0 0 (by decide)
theorem getN_used (s : ByteArray) : (getN s).2 ≤ s.size := by
  have := (getL_used s.data.toList 0 0).1
  rw [size_toList] at this
  unfold getN; omega
theorem or_group (z x i : Nat) (hz : z < 128 ^ i) : z ||| (x * 128 ^ i) = z + x * 128 ^ i := by
  have e : (128 : Nat) ^ i = 2 ^ (7 * i) := by rw [Nat.pow_mul]
  rw [e] at hz ⊢
  rw [Nat.or_comm, nat_join (7 * i) _ _ (by simp) hz, Nat.add_comm]
theorem xor_same (x : Nat) (hx : x < 9223372036854775808) : bits .xor .i64 (x : Int) 0 = x := by
  show IntKind.i64.wrap ((BitVec.ofInt 64 (x : Int) ^^^ BitVec.ofInt 64 0).toNat : Int) = _
  have h2 : (BitVec.ofInt 64 (x : Int)).toNat = x := by
    rw [BitVec.ofInt_natCast, BitVec.toNat_ofNat]; exact Nat.mod_eq_of_lt (by omega)
  rw [BitVec.toNat_xor, h2, show (BitVec.ofInt 64 0).toNat = 0 from by decide, Nat.xor_zero, IntKind.wrap_i64]
  omega
theorem xor_not (x : Nat) (hx : x < 9223372036854775808) : bits .xor .i64 (x : Int) (-1) = -(x : Int) - 1 := by
  show IntKind.i64.wrap ((BitVec.ofInt 64 (x : Int) ^^^ BitVec.ofInt 64 (-1)).toNat : Int) = _
  rw [BitVec.xor_comm]
  exact Lib.i64_not x hx
theorem shr_xor (z : Nat) (hz : z < 18446744073709551616) : bits .xor .i64 ((z / 2 : Nat) : Int) (-((z % 2 : Nat) : Int)) = unzig z := by
  unfold unzig
  rcases Nat.mod_two_eq_zero_or_one z with h | h
  · rw [if_pos h, h]
    exact xor_same _ (by omega)
  · rw [if_neg (by omega), h]
    exact xor_not _ (by omega)
end Go.Proofs.YtphljjgjpkdpmaaGreatDoor
/- What the package pack's getNum does. -/
namespace Go.Proofs.YtphljjgjpkdpmaaGreatDoor
open Go.RowKit
set_option linter.unusedVariables false
/-- What holds at the head of getNum's round. -/
def GnRel (s : ByteArray) (z i : Value) : Prop := ∃ (k : Nat) (y : Nat), k ≤ s.size ∧ k ≤ 10 ∧ i = .int .i64 k ∧ z = .int .u64 y ∧ y < 128 ^ k ∧ getN s = getL (s.data.toList.drop k) k y
set_option maxHeartbeats 1000000 in
set_option maxRecDepth 100000 in
theorem getNum_any (s : ByteArray) (w : World) (hs : s.size ≤ 1000000000000000) :
    Calls Tryz.prog 136 #[.string s] w fun e w' => e = .returned (.tuple #[.int .i64 (getN s).1, .int .i64 (getN s).2]) ∧ w = w' := by
  go_enter Tryz.func136, Tryz.ntmps136
  go_wp2
  go_loop [4, 5] (fun z i => GnRel s z i) (fun _ i => 10 - (intOf i).toNat)
  case atStart => exact ⟨0, 0, Nat.zero_le _, Nat.zero_le _, rfl, rfl, by simp, by simp [getN]⟩
  case round =>
    obtain ⟨k, y, hk, hk10, rfl, rfl, hy, hg⟩ := hrel
    have HG := Lib.hid hg
    have HY := Lib.hid hy
    clear hg hy
    by_cases hend : k < s.size ∧ k < 10
    · obtain ⟨h1, h2⟩ := hend
      have hdrop : Hid (s.data.toList.drop k = s[k] :: s.data.toList.drop (k + 1)) := by show _ = _; rw [List.drop_eq_getElem_cons (by simpa [size_toList] using h1)]; rfl
      have hb := s[k].toNat_lt
      have HGL := HG.out
      rw [hdrop.out, getL, if_neg (by omega)] at HGL
      by_cases h9 : k = 9 ∧ 1 < s[k].toNat
      · rw [if_pos h9] at HGL
        have HR := Lib.hid HGL
        clear HGL
        obtain ⟨e9, h1b⟩ := h9
        subst e9
        go_wp2
        go_ret2
        rw [HR.out]
        exact ⟨rfl, rfl⟩
      · rw [if_neg h9] at HGL
        have hst := step_lt h2 HY.out hb h9
        have hor := or_group y (s[k].toNat % 128) k HY.out
        obtain ⟨x, hx⟩ : ∃ x, x = s[k].toNat % 128 := ⟨_, rfl⟩
        rw [← hx] at hst hor HGL
        have hand : bits .and .u8 (s[k].toNat : Int) 127 = (x : Int) := by
          have h := u8_and_nat s[k].toNat 127 (by omega) (by omega)
          rw [nat_mask7, ← hx] at h
          exact h
        have hx128 : x < 128 := by omega
        obtain ⟨M, hM⟩ : ∃ M, M = x * 128 ^ k := ⟨_, rfl⟩
        have hshl : IntKind.u64.wrap ((x : Int) * 2 ^ (7 * k)) = (M : Int) := by
          have e : (2 : Int) ^ (7 * k) = ((128 ^ k : Nat) : Int) := by rw [Int.pow_mul]; simp
          rw [IntKind.wrap_u64, e, ← Int.natCast_mul, ← hM, Int.emod_eq_of_lt (by omega) (by omega)]
        rw [← hM] at hst hor HGL
        have hbor : bits .or .u64 (y : Int) (M : Int) = ((y + M : Nat) : Int) := by rw [u64_or_nat _ _ (by omega) (by omega), hor]
        obtain ⟨N, hN⟩ : ∃ N, N = y + M := ⟨_, rfl⟩
        rw [← hN] at hst HGL hbor
        have HR := Lib.hid HGL
        have HST := Lib.hid hst
        have hxx : ¬ 128 ≤ s[k].toNat → x = s[k].toNat := by intro h; rw [hx]; omega
        clear HGL hst hor hM hN hx
        have HXX := Lib.hid hxx
        clear hxx
        have hsx := shr_xor N HST.out.1
        have HSX := Lib.hid hsx
        clear hsx
        by_cases h128 : 128 ≤ s[k].toNat
        · have h9d : ((k : Int) == 9) = false := by simp; omega
          go_wp2
          refine ⟨⟨k + 1, N, by omega, by omega, by go_num, rfl, HST.out.2.2, ?_⟩, by simp [intOf]; omega⟩
          rw [HR.out, if_pos h128]
        · have h128' : (s[k].toNat : Int) < 128 := by omega
          by_cases h0 : s[k].toNat = 0 ∧ 0 < k
          · obtain ⟨h0, hk0⟩ := h0
            have H0 : Hid (getN s = (0, 0)) := by show _ = _; rw [HR.out, if_neg h128, if_pos ⟨h0, hk0⟩]
            have h0' : ((s[k].toNat : Int) == 0) = true := by simp; omega
            have H1 := Lib.hid h0
            clear h0
            rcases Decidable.em (k = 9) with h9c | h9c
            · have h9d : ((k : Int) == 9) = true := by simp; omega
              have h91 : (s[k].toNat : Int) ≤ 1 := by omega
              clear h9c
              go_wp2
              go_ret2
              rw [H0.out]
              exact ⟨rfl, rfl⟩
            · have h9d : ((k : Int) == 9) = false := by simp; omega
              go_wp2
              go_ret2
              rw [H0.out]
              exact ⟨rfl, rfl⟩
          · obtain ⟨q, hq⟩ : ∃ q, q = N / 2 := ⟨_, rfl⟩
            obtain ⟨r, hr⟩ : ∃ r, r = N % 2 := ⟨_, rfl⟩
            have hN2 : (N : Int) / 2 = (q : Int) := by omega
            have hand1 : bits .and .u64 (N : Int) 1 = (r : Int) := by rw [Lib.u64_and1 _ (by omega) (by have := HST.out.1; omega), hr]; omega
            have hqb : (q : Int) ≤ 9223372036854775807 := by have := HST.out.1; omega
            have hrb : r ≤ 1 := by omega
            obtain ⟨U, hU⟩ : ∃ U, U = unzig N := ⟨_, rfl⟩
            have hxor : bits .xor .i64 (q : Int) (-(r : Int)) = U := by rw [hq, hr, hU]; exact HSX.out
            have H0 : Hid (getN s = (U, k + 1)) := by show _ = _; rw [HR.out, if_neg h128, if_neg h0, hU]
            clear hq hr hU
            have h01 : (((s[k].toNat : Int) == 0) = false) ∨ (((s[k].toNat : Int) == 0) = true ∧ k = 0) := by
              by_cases e : s[k].toNat = 0
              · exact .inr ⟨by simp; omega, by omega⟩
              · exact .inl (by simp; omega)
            rcases h01 with h01 | ⟨h01, hk0⟩
            · rcases Decidable.em (k = 9) with h9c | h9c
              · have h9d : ((k : Int) == 9) = true := by simp; omega
                have h91 : (s[k].toNat : Int) ≤ 1 := by omega
                clear h9c
                go_wp2
                go_ret2
                rw [H0.out]
                exact ⟨rfl, rfl⟩
              · have h9d : ((k : Int) == 9) = false := by simp; omega
                go_wp2
                go_ret2
                rw [H0.out]
                exact ⟨rfl, rfl⟩
            · have h9d : ((k : Int) == 9) = false := by simp; omega
              have hk00 : (k : Int) ≤ 0 := by omega
              clear hk0
              go_wp2
              go_ret2
              rw [H0.out]
              exact ⟨rfl, rfl⟩
    · have H0 : Hid (getN s = (0, 0)) := by
        show _ = _
        rw [HG.out]
        by_cases h1 : k < s.size
        · rw [List.drop_eq_getElem_cons (by simpa [size_toList] using h1), getL, if_pos (by omega)]
        · rw [List.drop_eq_nil_of_le (by rw [size_toList]; omega), getL]
      by_cases h1 : k < s.size
      · have h2 : (10 : Int) ≤ k := by omega
        go_wp2
        go_ret2
        rw [H0.out]
        exact ⟨rfl, rfl⟩
      · have h2 : (s.size : Int) ≤ k := by omega
        go_wp2
        go_ret2
        rw [H0.out]
        exact ⟨rfl, rfl⟩
end Go.Proofs.YtphljjgjpkdpmaaGreatDoor
/- What the package pack's Reader does: its parts that need a good reader. -/
namespace Go.Proofs.YtphljjgjpkdpmaaGreatDoor
open Go.RowKit
set_option linter.unusedVariables false
/-- Block b is a reader. -/
def Rd (w : World) (b : Nat) (s : ByteArray) (bad : Bool) : Prop := w.heap[b]? = some (.cells #[.string s, .bool bad] 143 (0, 0))
theorem Rd.c0 {w : World} {b : Nat} {s : ByteArray} {bad : Bool} (h : Rd w b s bad) : w.cell? ⟨b, 0, none⟩ = some (.string s) := by unfold Rd at h; simp [World.cell?, h]
theorem Rd.c1 {w : World} {b : Nat} {s : ByteArray} {bad : Bool} (h : Rd w b s bad) : w.cell? ⟨b, 1, none⟩ = some (.bool bad) := by unfold Rd at h; simp [World.cell?, h]
theorem Rd.fr {w : World} {b : Nat} {s : ByteArray} {bad : Bool} (h : Rd w b s bad) (o : Nat) : w.frozen? ⟨b, o, none⟩ = false := by unfold Rd at h; simp [World.frozen?, h]
theorem Rd.lt {w : World} {b : Nat} {s : ByteArray} {bad : Bool} (h : Rd w b s bad) : b < w.heap.size := (Array.getElem?_eq_some_iff.1 h).1
theorem Rd.set0 {w : World} {b : Nat} {s : ByteArray} {bad : Bool} (h : Rd w b s bad) (s' : ByteArray) : Rd (w.setCell ⟨b, 0, none⟩ (.string s')) b s' bad := by
  unfold Rd at h ⊢; simp [World.setCell, Array.getElem?_modify, h]
theorem Rd.set1 {w : World} {b : Nat} {s : ByteArray} {bad : Bool} (h : Rd w b s bad) (bad' : Bool) : Rd (w.setCell ⟨b, 1, none⟩ (.bool bad')) b s bad' := by
  unfold Rd at h ⊢; simp [World.setCell, Array.getElem?_modify, h]
theorem Rd.kept {w w' : World} {b : Nat} {s : ByteArray} {bad : Bool} (h : Rd w b s bad) {r : Option Nat} (g : w.grownBy w' r) (hr : r ≠ some b) : Rd w' b s bad := by
  unfold Rd at h ⊢; rw [g.block b (Array.getElem?_eq_some_iff.1 h).1 (fun e => hr e.symm)]; exact h
theorem Rd.alloc {w : World} {b : Nat} {s : ByteArray} {bad : Bool} (h : Rd w b s bad) (o : Obj) : Rd (w.alloc o) b s bad := h.kept (World.grownBy_alloc w o none) (by simp)
theorem Rd.new (w : World) (s : ByteArray) : Rd (w.alloc (.cells #[.string s, .bool false] 143)) w.heap.size s false := heap_alloc_new w _
/-- What is left behind the next number. -/
def nextS (s : ByteArray) : ByteArray := s.extract (getN s).2 s.size
def nextBad (s : ByteArray) : Bool := ((getN s).2 : Int) == 0
def sizeN (s : ByteArray) : Nat := if (getN s).1 < 0 ∨ (nextS s).size < (getN s).1 then 0 else (getN s).1.toNat
def sizeBad (s : ByteArray) : Bool := decide ((getN s).1 < 0) || decide (((nextS s).size : Int) < (getN s).1) || nextBad s
/-- What the methods tell of a reader, and what they leave of it. -/
def rNum (s : ByteArray) (bad : Bool) : Int := if bad then 0 else (getN s).1
def rNumS (s : ByteArray) (bad : Bool) : ByteArray := if bad then s else nextS s
def rNumB (s : ByteArray) (bad : Bool) : Bool := bad || nextBad s
def rCount (s : ByteArray) (bad : Bool) : Nat := if bad then 0 else sizeN s
def rCountB (s : ByteArray) (bad : Bool) : Bool := bad || sizeBad s
def rText (s : ByteArray) (bad : Bool) : ByteArray := if bad then ByteArray.empty else (nextS s).extract 0 (sizeN s)
def rTextS (s : ByteArray) (bad : Bool) : ByteArray := if bad then s else (nextS s).extract (sizeN s) (nextS s).size
theorem sizeN_le (s : ByteArray) : sizeN s ≤ (nextS s).size := by unfold sizeN; split <;> omega
set_option maxRecDepth 100000 in
theorem next_any (b : Nat) (s : ByteArray) (bad : Bool) (w : World) (h : Rd w b s bad) (hs : s.size ≤ 1000000000000000) :
    Calls Tryz.prog 110 #[.pointer (some ⟨b, 0, none⟩)] w fun e w' => e = .returned (.int .i64 (getN s).1) ∧ Rd w' b (nextS s) (nextBad s) ∧ w.grownBy w' (some b) := by
  have h0 := h.c0
  have h1 := h.c1
  have f0 := h.fr 0
  have f1 := h.fr 1
  have hu := getN_used s
  go_enter Tryz.func110, Tryz.ntmps110
  go_wp2_with (go_at_call 136; refine (getNum_any _ _ hs).mono ?_; rintro e w' ⟨rfl, rfl⟩)
  go_ret
  exact ⟨rfl, (h.set0 _).set1 _, grow_same (grow_set _ _ _) (grow_set _ _ _)⟩
set_option maxRecDepth 100000 in
theorem size_any (b : Nat) (s : ByteArray) (bad : Bool) (w : World) (h : Rd w b s bad) (hs : s.size ≤ 1000000000000000) :
    Calls Tryz.prog 112 #[.pointer (some ⟨b, 0, none⟩)] w fun e w' => e = .returned (.int .i64 (sizeN s)) ∧ Rd w' b (nextS s) (sizeBad s) ∧ w.grownBy w' (some b) := by
  go_enter Tryz.func112, Tryz.ntmps112
  go_wp2_with fail
  refine (next_any b s bad w h hs).mono ?_
  rintro e w1 ⟨rfl, h1, hg⟩
  have c0 := h1.c0
  have c1 := h1.c1
  have f1 := h1.fr 1
  by_cases hneg : (getN s).1 < 0
  · have en : sizeN s = 0 := by rw [sizeN, if_pos (.inl hneg)]
    have eb : sizeBad s = true := by simp [sizeBad, hneg]
    go_wp2
    go_ret
    rw [en, eb]
    exact ⟨rfl, h1.set1 _, grow_same hg (grow_set _ _ _)⟩
  · by_cases hbig : ((nextS s).size : Int) < (getN s).1
    · have en : sizeN s = 0 := by rw [sizeN, if_pos (.inr hbig)]
      have eb : sizeBad s = true := by simp [sizeBad, hbig]
      go_wp2
      go_ret
      rw [en, eb]
      exact ⟨rfl, h1.set1 _, grow_same hg (grow_set _ _ _)⟩
    · have en : (sizeN s : Int) = (getN s).1 := by rw [sizeN, if_neg (by omega)]; omega
      have eb : sizeBad s = nextBad s := by simp [sizeBad, hneg, hbig]
      have EN := Lib.hid en
      have EB := Lib.hid eb
      clear en eb
      go_wp2
      go_ret
      rw [EN.out, EB.out]
      exact ⟨rfl, h1, hg⟩
end Go.Proofs.YtphljjgjpkdpmaaGreatDoor
/- What the package pack's Reader does: Num, at any reader. -/
namespace Go.Proofs.YtphljjgjpkdpmaaGreatDoor
open Go.RowKit
set_option linter.unusedVariables false
set_option maxRecDepth 100000 in
theorem Num_good (b : Nat) (s : ByteArray) (w : World) (h : Rd w b s false) (hs : s.size ≤ 1000000000000000) :
    Calls Tryz.prog 93 #[.pointer (some ⟨b, 0, none⟩)] w fun e w' => e = .returned (.int .i64 (getN s).1) ∧ Rd w' b (nextS s) (nextBad s) ∧ w.grownBy w' (some b) := by
  have hmf : ∀ (fn : Fn) (first cap : Array Value) (w : World), (Instr.makeFunc fn first cap).run Tryz.prog w = .ok (.func fn first cap) w := fun _ _ _ _ => rfl
  have hb := h.lt
  have ha := (h.alloc (.cells #[.pointer (some ⟨b, 0, none⟩)] 132)).alloc (.cells #[.int .i64 0] 3)
  have c1 := ha.c1
  go_enter Tryz.func93, Tryz.ntmps93
  go_wp2_with (first | (go_at_call 110; refine (next_any b s false _ ha hs).mono ?_; rintro e w1 ⟨rfl, h1, hg1⟩; have e1 := hg1.cell (two_cell1 _ _ _ _ _) (by simp; omega); have e2 := grow_fr hg1 (two_fr1 _ _ _ _ _) (by simp) (by simp; omega); have e3 := hg1.size; simp only [World.size_alloc] at e3) | go_in)
  go_ret
  exact ⟨rfl, h1.kept (grow_set _ _ _) (by simp; omega), grow_setnew (grow_alloc _ _ (grow_alloc _ _ hg1)) (by simp) _⟩
set_option maxRecDepth 100000 in
theorem Num_bad (b : Nat) (s : ByteArray) (w : World) (h : Rd w b s true) :
    Calls Tryz.prog 93 #[.pointer (some ⟨b, 0, none⟩)] w fun e w' => e = .returned (.int .i64 0) ∧ Rd w' b s true ∧ w.grownBy w' (some b) := by
  have hmf : ∀ (fn : Fn) (first cap : Array Value) (w : World), (Instr.makeFunc fn first cap).run Tryz.prog w = .ok (.func fn first cap) w := fun _ _ _ _ => rfl
  have hb := h.lt
  have ha := (h.alloc (.cells #[.pointer (some ⟨b, 0, none⟩)] 132)).alloc (.cells #[.int .i64 0] 3)
  have c1 := ha.c1
  go_enter Tryz.func93, Tryz.ntmps93
  go_wp2
  go_ret
  exact ⟨rfl, ha, grow_alloc _ _ (World.grownBy_alloc _ _ _)⟩
set_option maxRecDepth 100000 in
theorem Num_any (b : Nat) (s : ByteArray) (bad : Bool) (w : World) (h : Rd w b s bad) (hs : s.size ≤ 1000000000000000) :
    Calls Tryz.prog 93 #[.pointer (some ⟨b, 0, none⟩)] w fun e w' => e = .returned (.int .i64 (rNum s bad)) ∧ Rd w' b (rNumS s bad) (rNumB s bad) ∧ w.grownBy w' (some b) := by
  cases bad with
  | true => exact Num_bad b s w h
  | false => exact Num_good b s w h hs
set_option maxRecDepth 100000 in
theorem Num_nil (w : World) :
    Calls Tryz.prog 93 #[.pointer none] w fun e w' => e = .returned (.int .i64 0) ∧ w.grownBy w' none := by
  have hmf : ∀ (fn : Fn) (first cap : Array Value) (w : World), (Instr.makeFunc fn first cap).run Tryz.prog w = .ok (.func fn first cap) w := fun _ _ _ _ => rfl
  go_enter Tryz.func93, Tryz.ntmps93
  go_wp2
  go_ret
  exact ⟨rfl, grow_alloc _ _ (World.grownBy_alloc _ _ _)⟩
end Go.Proofs.YtphljjgjpkdpmaaGreatDoor
/- What the package pack's Reader does: what it tells of itself. -/
namespace Go.Proofs.YtphljjgjpkdpmaaGreatDoor
open Go.RowKit
set_option linter.unusedVariables false
def rLeft (s : ByteArray) (bad : Bool) : Nat := if bad then 0 else s.size
def rDone (s : ByteArray) (bad : Bool) : Bool := if bad then false else (s.toList.isEmpty)
set_option maxRecDepth 100000 in
theorem Left_good (b : Nat) (s : ByteArray) (w : World) (h : Rd w b s false) (hs : s.size ≤ 1000000000000000) :
    Calls Tryz.prog 107 #[.pointer (some ⟨b, 0, none⟩)] w fun e w' => e = .returned (.int .i64 s.size) ∧ Rd w' b s false ∧ w.grownBy w' (some b) := by
  have hmf : ∀ (fn : Fn) (first cap : Array Value) (w : World), (Instr.makeFunc fn first cap).run Tryz.prog w = .ok (.func fn first cap) w := fun _ _ _ _ => rfl
  have hb := h.lt
  have ha := (h.alloc (.cells #[.pointer (some ⟨b, 0, none⟩)] 132)).alloc (.cells #[.int .i64 0] 3)
  have c0 := ha.c0
  have c1 := ha.c1
  have f1 := ha.fr 1
  go_enter Tryz.func107, Tryz.ntmps107
  go_wp2
  go_ret
  exact ⟨rfl, (h.alloc _).alloc _, grow_alloc _ _ (World.grownBy_alloc _ _ _)⟩
set_option maxRecDepth 100000 in
theorem Left_bad (b : Nat) (s : ByteArray) (w : World) (h : Rd w b s true) :
    Calls Tryz.prog 107 #[.pointer (some ⟨b, 0, none⟩)] w fun e w' => e = .returned (.int .i64 0) ∧ Rd w' b s true ∧ w.grownBy w' (some b) := by
  have hmf : ∀ (fn : Fn) (first cap : Array Value) (w : World), (Instr.makeFunc fn first cap).run Tryz.prog w = .ok (.func fn first cap) w := fun _ _ _ _ => rfl
  have hb := h.lt
  have ha := (h.alloc (.cells #[.pointer (some ⟨b, 0, none⟩)] 132)).alloc (.cells #[.int .i64 0] 3)
  have c0 := ha.c0
  have c1 := ha.c1
  have f1 := ha.fr 1
  go_enter Tryz.func107, Tryz.ntmps107
  go_wp2
  go_ret
  exact ⟨rfl, ha, grow_alloc _ _ (World.grownBy_alloc _ _ _)⟩
set_option maxRecDepth 100000 in
theorem Left_nil (w : World) :
    Calls Tryz.prog 107 #[.pointer none] w fun e w' => e = .returned (.int .i64 0) ∧ w.grownBy w' none := by
  have hmf : ∀ (fn : Fn) (first cap : Array Value) (w : World), (Instr.makeFunc fn first cap).run Tryz.prog w = .ok (.func fn first cap) w := fun _ _ _ _ => rfl
  go_enter Tryz.func107, Tryz.ntmps107
  go_wp2
  go_ret
  exact ⟨rfl, grow_alloc _ _ (World.grownBy_alloc _ _ _)⟩
set_option maxRecDepth 100000 in
theorem Good_good (b : Nat) (s : ByteArray) (w : World) (h : Rd w b s false) :
    Calls Tryz.prog 106 #[.pointer (some ⟨b, 0, none⟩)] w fun e w' => e = .returned (.bool true) ∧ Rd w' b s false ∧ w.grownBy w' (some b) := by
  have hmf : ∀ (fn : Fn) (first cap : Array Value) (w : World), (Instr.makeFunc fn first cap).run Tryz.prog w = .ok (.func fn first cap) w := fun _ _ _ _ => rfl
  have hb := h.lt
  have ha := h.alloc (.cells #[.bool false] 4)
  have c0 := ha.c0
  have c1 := ha.c1
  have f1 := ha.fr 1
  go_enter Tryz.func106, Tryz.ntmps106
  go_wp2
  go_ret
  exact ⟨rfl, h.alloc _, World.grownBy_alloc _ _ _⟩
set_option maxRecDepth 100000 in
theorem Good_bad (b : Nat) (s : ByteArray) (w : World) (h : Rd w b s true) :
    Calls Tryz.prog 106 #[.pointer (some ⟨b, 0, none⟩)] w fun e w' => e = .returned (.bool false) ∧ Rd w' b s true ∧ w.grownBy w' (some b) := by
  have hmf : ∀ (fn : Fn) (first cap : Array Value) (w : World), (Instr.makeFunc fn first cap).run Tryz.prog w = .ok (.func fn first cap) w := fun _ _ _ _ => rfl
  have hb := h.lt
  have ha := h.alloc (.cells #[.bool false] 4)
  have c0 := ha.c0
  have c1 := ha.c1
  have f1 := ha.fr 1
  go_enter Tryz.func106, Tryz.ntmps106
  go_wp2
  go_ret
  exact ⟨rfl, ha, World.grownBy_alloc _ _ _⟩
set_option maxRecDepth 100000 in
theorem Good_nil (w : World) :
    Calls Tryz.prog 106 #[.pointer none] w fun e w' => e = .returned (.bool false) ∧ w.grownBy w' none := by
  have hmf : ∀ (fn : Fn) (first cap : Array Value) (w : World), (Instr.makeFunc fn first cap).run Tryz.prog w = .ok (.func fn first cap) w := fun _ _ _ _ => rfl
  go_enter Tryz.func106, Tryz.ntmps106
  go_wp2
  go_ret
  exact ⟨rfl, World.grownBy_alloc _ _ _⟩
set_option maxRecDepth 100000 in
theorem Done_good (b : Nat) (s : ByteArray) (w : World) (h : Rd w b s false) :
    Calls Tryz.prog 95 #[.pointer (some ⟨b, 0, none⟩)] w fun e w' => e = .returned (.bool (s.toList.isEmpty)) ∧ Rd w' b s false ∧ w.grownBy w' (some b) := by
  have hmf : ∀ (fn : Fn) (first cap : Array Value) (w : World), (Instr.makeFunc fn first cap).run Tryz.prog w = .ok (.func fn first cap) w := fun _ _ _ _ => rfl
  have hb := h.lt
  have ha := (h.alloc (.cells #[.pointer (some ⟨b, 0, none⟩)] 132)).alloc (.cells #[.bool false] 4)
  have c0 := ha.c0
  have c1 := ha.c1
  have f1 := ha.fr 1
  go_enter Tryz.func95, Tryz.ntmps95
  go_wp2
  go_ret
  exact ⟨rfl, (h.alloc _).alloc _, grow_alloc _ _ (World.grownBy_alloc _ _ _)⟩
set_option maxRecDepth 100000 in
theorem Done_bad (b : Nat) (s : ByteArray) (w : World) (h : Rd w b s true) :
    Calls Tryz.prog 95 #[.pointer (some ⟨b, 0, none⟩)] w fun e w' => e = .returned (.bool false) ∧ Rd w' b s true ∧ w.grownBy w' (some b) := by
  have hmf : ∀ (fn : Fn) (first cap : Array Value) (w : World), (Instr.makeFunc fn first cap).run Tryz.prog w = .ok (.func fn first cap) w := fun _ _ _ _ => rfl
  have hb := h.lt
  have ha := (h.alloc (.cells #[.pointer (some ⟨b, 0, none⟩)] 132)).alloc (.cells #[.bool false] 4)
  have c0 := ha.c0
  have c1 := ha.c1
  have f1 := ha.fr 1
  go_enter Tryz.func95, Tryz.ntmps95
  go_wp2
  go_ret
  exact ⟨rfl, ha, grow_alloc _ _ (World.grownBy_alloc _ _ _)⟩
set_option maxRecDepth 100000 in
theorem Done_nil (w : World) :
    Calls Tryz.prog 95 #[.pointer none] w fun e w' => e = .returned (.bool false) ∧ w.grownBy w' none := by
  have hmf : ∀ (fn : Fn) (first cap : Array Value) (w : World), (Instr.makeFunc fn first cap).run Tryz.prog w = .ok (.func fn first cap) w := fun _ _ _ _ => rfl
  go_enter Tryz.func95, Tryz.ntmps95
  go_wp2
  go_ret
  exact ⟨rfl, grow_alloc _ _ (World.grownBy_alloc _ _ _)⟩
theorem Left_any (b : Nat) (s : ByteArray) (bad : Bool) (w : World) (h : Rd w b s bad) (hs : s.size ≤ 1000000000000000) :
    Calls Tryz.prog 107 #[.pointer (some ⟨b, 0, none⟩)] w fun e w' => e = .returned (.int .i64 (rLeft s bad)) ∧ Rd w' b s bad ∧ w.grownBy w' (some b) := by
  cases bad with
  | true => exact Left_bad b s w h
  | false => exact Left_good b s w h hs
set_option maxRecDepth 100000 in
theorem Good_any (b : Nat) (s : ByteArray) (bad : Bool) (w : World) (h : Rd w b s bad) :
    Calls Tryz.prog 106 #[.pointer (some ⟨b, 0, none⟩)] w fun e w' => e = .returned (.bool !bad) ∧ Rd w' b s bad ∧ w.grownBy w' (some b) := by
  cases bad with
  | true => exact Good_bad b s w h
  | false => exact Good_good b s w h
set_option maxRecDepth 100000 in
theorem Done_any (b : Nat) (s : ByteArray) (bad : Bool) (w : World) (h : Rd w b s bad) :
    Calls Tryz.prog 95 #[.pointer (some ⟨b, 0, none⟩)] w fun e w' => e = .returned (.bool (rDone s bad)) ∧ Rd w' b s bad ∧ w.grownBy w' (some b) := by
  cases bad with
  | true => exact Done_bad b s w h
  | false => exact Done_good b s w h
end Go.Proofs.YtphljjgjpkdpmaaGreatDoor
/- pack.Read. -/
namespace Go.Proofs.YtphljjgjpkdpmaaGreatDoor
open Go.RowKit
set_option linter.unusedVariables false
set_option maxRecDepth 100000 in
theorem Read_any (s : ByteArray) (w : World) :
    Calls Tryz.prog 92 #[.string s] w fun e w' => ∃ b, e = .returned (.pointer (some ⟨b, 0, none⟩)) ∧ Rd w' b s false ∧ w.grownBy w' none ∧ w.heap.size ≤ b := by
  go_enter Tryz.func92, Tryz.ntmps92
  go_wp2
  go_ret
  exact ⟨w.heap.size, rfl, Rd.new _ _, World.grownBy_alloc _ _ _, Nat.le_refl _⟩
end Go.Proofs.YtphljjgjpkdpmaaGreatDoor
/- What the package pack's Reader does: Text. -/
namespace Go.Proofs.YtphljjgjpkdpmaaGreatDoor
open Go.RowKit
set_option linter.unusedVariables false
theorem Rd.other {w : World} {b : Nat} {s : ByteArray} {bad : Bool} (h : Rd w b s bad) {a : Addr} (ha : a.block ≠ b) (v : Value) : Rd (w.setCell a v) b s bad := by
  unfold Rd at h ⊢; rw [Below.heap_setCell _ _ _ _ (fun e => ha e.symm)]; exact h
set_option maxRecDepth 100000 in
theorem TextIn_any (b q p : Nat) (s : ByteArray) (bad : Bool) (w0 w : World) (h : Rd w b s bad) (hs : s.size ≤ 1000000000000000) (hp : w.cell? ⟨p, 0, none⟩ = some (.pointer (some ⟨b, 0, none⟩)))
    (x : Value) (hq : w.cell? ⟨q, 0, none⟩ = some x) (fq : w.frozen? ⟨q, 0, none⟩ = false) (hqb : q ≠ b) (hpb : p ≠ b) (hpq : p ≠ q) (hq0 : w0.heap.size ≤ q) (hg : w0.grownBy w (some b)) :
    Calls Tryz.prog 111 #[.pointer (some ⟨p, 0, none⟩), .pointer (some ⟨q, 0, none⟩)] w fun e w' => e = .returned (.tuple #[]) ∧ Rd w' b ((nextS s).extract (sizeN s) (nextS s).size) (sizeBad s) ∧ w0.grownBy w' (some b) ∧ w'.cell? ⟨q, 0, none⟩ = some (.string ((nextS s).extract 0 (sizeN s))) := by
  have hsz := sizeN_le s
  go_enter Tryz.func111, Tryz.ntmps111
  go_wp2_with fail
  refine (size_any b s bad w h hs).mono ?_
  rintro e w1 ⟨rfl, h1, hg1⟩
  have hqs := World.block_lt_of_cell? w _ hq
  have hps := World.block_lt_of_cell? w _ hp
  have p1 : w1.cell? ⟨p, 0, none⟩ = some (.pointer (some ⟨b, 0, none⟩)) := hg1.cell hp (by simp; omega)
  have q1 : w1.cell? ⟨q, 0, none⟩ = some x := hg1.cell hq (by simp; omega)
  have f1 : w1.frozen? ⟨q, 0, none⟩ = false := grow_fr hg1 fq hqs (by simp; omega)
  have c0 := h1.c0
  have g0 := h1.fr 0
  go_wp2_with fail
  have h2 := h1.other (a := ⟨q, 0, none⟩) hqb (.string ((nextS s).extract 0 (sizeN s)))
  have gg := grow_setnew (grow_same hg hg1) (a := ⟨q, 0, none⟩) hq0 (.string ((nextS s).extract 0 (sizeN s)))
  have p2 : (w1.setCell ⟨q, 0, none⟩ (.string ((nextS s).extract 0 (sizeN s)))).cell? ⟨p, 0, none⟩ = some (.pointer (some ⟨b, 0, none⟩)) := by
    rw [World.cell?_of_block (w := w1) (Below.heap_setCell _ _ _ _ hpq)]; exact p1
  have q2 : (w1.setCell ⟨q, 0, none⟩ (.string ((nextS s).extract 0 (sizeN s)))).cell? ⟨q, 0, none⟩ = some (.string ((nextS s).extract 0 (sizeN s))) := by
    simp [go_sem, q1]
  clear p1 q1 f1 c0 g0 hg1 h1
  generalize (w1.setCell ⟨q, 0, none⟩ (.string ((nextS s).extract 0 (sizeN s)))) = w2 at *
  have c0 := h2.c0
  have g0 := h2.fr 0
  go_region
  all_goals (go_end0)
  all_goals (refine ⟨rfl, ?_, ?_, ?_⟩)
  all_goals (first | (exact h2.set0 _) | (exact grow_drawn (grow_same gg (grow_set _ _ _))) | (exact (World.cell?_of_block (w := w2) (Below.heap_setCell _ _ _ _ hqb)).trans q2))
set_option maxRecDepth 100000 in
theorem Text_good (b : Nat) (s : ByteArray) (w : World) (h : Rd w b s false) (hs : s.size ≤ 1000000000000000) :
    Calls Tryz.prog 94 #[.pointer (some ⟨b, 0, none⟩)] w fun e w' => e = .returned (.string ((nextS s).extract 0 (sizeN s))) ∧ Rd w' b ((nextS s).extract (sizeN s) (nextS s).size) (sizeBad s) ∧ w.grownBy w' (some b) := by
  have hmf : ∀ (fn : Fn) (first cap : Array Value) (w : World), (Instr.makeFunc fn first cap).run Tryz.prog w = .ok (.func fn first cap) w := fun _ _ _ _ => rfl
  have hb := h.lt
  have ha := (h.alloc (.cells #[.pointer (some ⟨b, 0, none⟩)] 132)).alloc (.cells #[.string ⟨#[]⟩] 9)
  have c1 := ha.c1
  have T := TextIn_any b (w.heap.size + 1) w.heap.size s false w _ ha hs (two_cell0 _ _ _ _ _) _ (two_cell1 _ _ _ _ _) (two_fr1 _ _ _ _ _) (by omega) (by omega) (by omega) (by omega) (grow_alloc _ _ (World.grownBy_alloc _ _ _))
  have HT := Lib.hid T
  clear T
  go_enter Tryz.func94, Tryz.ntmps94
  go_wp2_with (first | (go_at_call 111; refine HT.out.mono ?_; rintro e w1 ⟨rfl, h1, hg1, q1⟩) | go_in)
  go_ret
  exact ⟨rfl, h1, hg1⟩
set_option maxRecDepth 100000 in
theorem Text_bad (b : Nat) (s : ByteArray) (w : World) (h : Rd w b s true) :
    Calls Tryz.prog 94 #[.pointer (some ⟨b, 0, none⟩)] w fun e w' => e = .returned (.string ⟨#[]⟩) ∧ Rd w' b s true ∧ w.grownBy w' (some b) := by
  have hmf : ∀ (fn : Fn) (first cap : Array Value) (w : World), (Instr.makeFunc fn first cap).run Tryz.prog w = .ok (.func fn first cap) w := fun _ _ _ _ => rfl
  have hb := h.lt
  have ha := (h.alloc (.cells #[.pointer (some ⟨b, 0, none⟩)] 132)).alloc (.cells #[.string ⟨#[]⟩] 9)
  have c1 := ha.c1
  go_enter Tryz.func94, Tryz.ntmps94
  go_wp2
  go_ret
  exact ⟨rfl, ha, grow_alloc _ _ (World.grownBy_alloc _ _ _)⟩
set_option maxRecDepth 100000 in
theorem Text_nil (w : World) :
    Calls Tryz.prog 94 #[.pointer none] w fun e w' => e = .returned (.string ⟨#[]⟩) ∧ w.grownBy w' none := by
  have hmf : ∀ (fn : Fn) (first cap : Array Value) (w : World), (Instr.makeFunc fn first cap).run Tryz.prog w = .ok (.func fn first cap) w := fun _ _ _ _ => rfl
  go_enter Tryz.func94, Tryz.ntmps94
  go_wp2
  go_ret
  exact ⟨rfl, grow_alloc _ _ (World.grownBy_alloc _ _ _)⟩
set_option maxRecDepth 100000 in
theorem Text_any2 (b : Nat) (s : ByteArray) (bad : Bool) (w : World) (h : Rd w b s bad) (hs : s.size ≤ 1000000000000000) :
    Calls Tryz.prog 94 #[.pointer (some ⟨b, 0, none⟩)] w fun e w' => e = .returned (.string (rText s bad)) ∧ Rd w' b (rTextS s bad) (rCountB s bad) ∧ w.grownBy w' (some b) := by
  cases bad with
  | true => exact Text_bad b s w h
  | false => exact Text_good b s w h hs
end Go.Proofs.YtphljjgjpkdpmaaGreatDoor
/- What the document's answer for layer 1 is: Num. -/
namespace Go.Proofs.YtphljjgjpkdpmaaGreatDoor
open Go.RowKit
set_option linter.unusedVariables false
/-- One byte as a string. -/
def str1 (x : Int) : ByteArray := ⟨#[UInt8.ofNat x.toNat]⟩
theorem conv_one {P : Program} {src dst e : TypeId} (hs : P.underlying src = some (.slice e)) (he : P.underlying e = some (.int .u8)) (hd : P.underlying dst = some .string) (w : World) (x : Int) (t : TypeId) :
    (convert src dst (.slice (some ⟨w.heap.size, 0, none⟩) 1 1)).run P (w.alloc (.cells #[.int .u8 x] t)) = .ok (.string (str1 x)) (w.alloc (.cells #[.int .u8 x] t)) := by
  rw [run_convert_bytes_string _ src dst e _ _ _ hs he hd, run_bytesToString _ ⟨w.heap.size, 0, none⟩ 1 1 [x]]
  · rfl
  · have := run_loadCells_list (P := P) (w.alloc (.cells #[.int .u8 x] t)) ⟨w.heap.size, 0, none⟩ [.int .u8 x] (cells_new1 w _ t)
    exact this
theorem str1_low {z : Nat} : str1 (z : Int) = ⟨[z.toUInt8].toArray⟩ := rfl
theorem app_lists (x y : List UInt8) : (⟨x.toArray⟩ : ByteArray) ++ ⟨y.toArray⟩ = ⟨(x ++ y).toArray⟩ := ByteArray.mk_append_mk x y
theorem zig_neg {n : Int} (hn : -9223372036854775808 ≤ n ∧ n ≤ 9223372036854775807) (h : n < 0) : IntKind.u64.wrap (IntKind.u64.wrap (-IntKind.u64.wrap (IntKind.u64.wrap n * 2)) - 1) = (Lib.zigzag n : Int) := by
  rw [IntKind.wrap_u64, IntKind.wrap_u64, IntKind.wrap_u64, IntKind.wrap_u64, Lib.zigzag, if_neg (by omega)]
  omega
theorem zig_pos {n : Int} (hn : -9223372036854775808 ≤ n ∧ n ≤ 9223372036854775807) (h : ¬ n < 0) : IntKind.u64.wrap (IntKind.u64.wrap n * 2) = (Lib.zigzag n : Int) := by
  rw [IntKind.wrap_u64, IntKind.wrap_u64, Lib.zigzag, if_pos (by omega)]
  omega
set_option maxRecDepth 100000 in
set_option maxHeartbeats 1000000 in
theorem refNum_any (n : Int) (w : World) (hn : -9223372036854775808 ≤ n ∧ n ≤ 9223372036854775807) :
    Calls Tryz.prog 61 #[.int .i64 n] w fun e w' => e = .returned (.string ⟨(numB n).toArray⟩) ∧ w.grownBy w' none := by
  have hcv := conv_one (P := Tryz.prog) Tryz.underlying50 Tryz.underlying5 Tryz.underlying9
  have hL := numB_len hn
  have HZ := Lib.hid (Lib.zigzag_lt hn.1 hn.2)
  have hcase : (n < 0 ∧ IntKind.u64.wrap (IntKind.u64.wrap (-IntKind.u64.wrap (IntKind.u64.wrap n * 2)) - 1) = (Lib.zigzag n : Int)) ∨ (0 ≤ n ∧ IntKind.u64.wrap (IntKind.u64.wrap n * 2) = (Lib.zigzag n : Int)) := by
    rcases Int.lt_or_le n 0 with h | h
    · exact .inl ⟨h, zig_neg hn h⟩
    · exact .inr ⟨h, zig_pos hn (by omega)⟩
  have hdl : n < 0 → decide (n < 0) = true := by intro h; simpa using h
  have hdr : 0 ≤ n → decide (n < 0) = false := by intro h; simpa using h
  rcases hcase with ⟨h, zz⟩ | ⟨h, zz⟩
  · have hd := hdl h
    clear hdl hdr
    go_enter Tryz.func61, Tryz.ntmps61
    go_wp2
    clear zz
    go_loopw [3, 4] (fun s o wr => ∃ (z : Nat) (pre : List UInt8), z < 18446744073709551616 ∧ s = .int .u64 z ∧ o = .string ⟨pre.toArray⟩ ∧ pre ++ Lib.uvarint z = numB n ∧ w.grownBy wr none) (fun s _ _ => (intOf s).toNat)
    case atStart => exact ⟨Lib.zigzag n, [], HZ.out, by first | rfl | (congr 1; exact (Lib.zigzag_nonneg h).symm), rfl, rfl, grow_refl _ _⟩
    case round =>
      obtain ⟨z, pre, hz, rfl, rfl, hp, hg⟩ := hrel
      have hpl : pre.length + (Lib.uvarint z).length ≤ 10 := by rw [← hp, List.length_append] at hL; exact hL
      have hlp := Lib.uvarint_pos z
      have hq : (z : Int) / 128 ≤ 144115188075855872 := by omega
      have HP := Lib.hid hp
      have HZZ := Lib.hid hz
      clear hp hL hz
      have hpi : (pre.length : Int) ≤ 10 := by omega
      have hs1 : ∀ x : Int, (str1 x).size = 1 := fun _ => rfl
      by_cases h128 : z < 128
      · have h1 : ((128 : Int) ≤ (z : Int)) = False := by simp; omega
        have ew : IntKind.u8.wrap (z : Int) = (z : Int) := IntWalk.u8_in _ (by omega)
        go_wp2
        go_ret
        refine ⟨?_, grow_none hg (World.grownBy_alloc _ _ _)⟩
        show Ending.returned (Value.string _) = _
        rw [str1_low, app_lists, ← HP.out, Lib.uvarint_small h128]
      · have h1 : (128 : Int) ≤ (z : Int) := by omega
        have hp2 : (pre ++ [(z % 128 + 128).toUInt8]) ++ Lib.uvarint (z / 128) = numB n := by
          rw [← HP.out, Lib.uvarint_big (x := z) (by omega), List.append_assoc]; rfl
        have HQ := Lib.hid hp2
        clear hp2
        go_wp2
        refine ⟨⟨z / 128, pre ++ [(z % 128 + 128).toUInt8], ?_, by go_num, ?_, HQ.out, grow_none hg (World.grownBy_alloc _ _ _)⟩, by simp [intOf]; omega⟩
        · have := HZZ.out; omega
        · rw [show (z : Int) % 128 + 128 = ((z % 128 + 128 : Nat) : Int) from by omega, str1_low, app_lists]
  · have hd := hdr h
    clear hdl hdr
    go_enter Tryz.func61, Tryz.ntmps61
    go_wp2
    clear zz
    go_loopw [3, 4] (fun s o wr => ∃ (z : Nat) (pre : List UInt8), z < 18446744073709551616 ∧ s = .int .u64 z ∧ o = .string ⟨pre.toArray⟩ ∧ pre ++ Lib.uvarint z = numB n ∧ w.grownBy wr none) (fun s _ _ => (intOf s).toNat)
    case atStart => exact ⟨Lib.zigzag n, [], HZ.out, by first | rfl | (congr 1; exact (Lib.zigzag_nonneg h).symm), rfl, rfl, grow_refl _ _⟩
    case round =>
      obtain ⟨z, pre, hz, rfl, rfl, hp, hg⟩ := hrel
      have hpl : pre.length + (Lib.uvarint z).length ≤ 10 := by rw [← hp, List.length_append] at hL; exact hL
      have hlp := Lib.uvarint_pos z
      have hq : (z : Int) / 128 ≤ 144115188075855872 := by omega
      have HP := Lib.hid hp
      have HZZ := Lib.hid hz
      clear hp hL hz
      have hpi : (pre.length : Int) ≤ 10 := by omega
      have hs1 : ∀ x : Int, (str1 x).size = 1 := fun _ => rfl
      by_cases h128 : z < 128
      · have h1 : ((128 : Int) ≤ (z : Int)) = False := by simp; omega
        have ew : IntKind.u8.wrap (z : Int) = (z : Int) := IntWalk.u8_in _ (by omega)
        go_wp2
        go_ret
        refine ⟨?_, grow_none hg (World.grownBy_alloc _ _ _)⟩
        show Ending.returned (Value.string _) = _
        rw [str1_low, app_lists, ← HP.out, Lib.uvarint_small h128]
      · have h1 : (128 : Int) ≤ (z : Int) := by omega
        have hp2 : (pre ++ [(z % 128 + 128).toUInt8]) ++ Lib.uvarint (z / 128) = numB n := by
          rw [← HP.out, Lib.uvarint_big (x := z) (by omega), List.append_assoc]; rfl
        have HQ := Lib.hid hp2
        clear hp2
        go_wp2
        refine ⟨⟨z / 128, pre ++ [(z % 128 + 128).toUInt8], ?_, by go_num, ?_, HQ.out, grow_none hg (World.grownBy_alloc _ _ _)⟩, by simp [intOf]; omega⟩
        · have := HZZ.out; omega
        · rw [show (z : Int) % 128 + 128 = ((z % 128 + 128 : Nat) : Int) from by omega, str1_low, app_lists]
end Go.Proofs.YtphljjgjpkdpmaaGreatDoor
/- Numbers are read as they were written: plain facts. -/
namespace Go.Proofs.YtphljjgjpkdpmaaGreatDoor
open Go.RowKit
set_option linter.unusedVariables false
theorem unzig_zig {n : Int} : unzig (Lib.zigzag n) = n := by
  unfold unzig Lib.zigzag
  split <;> split <;> omega
theorem zig_unzig (z : Nat) : Lib.zigzag (unzig z) = z := by
  unfold unzig Lib.zigzag
  split <;> split <;> omega
theorem numB_unzig (z : Nat) : numB (unzig z) = Lib.uvarint z := by unfold numB; rw [zig_unzig]
theorem byte_eq {b : UInt8} {x : Nat} (h : x = b.toNat) : x.toUInt8 = b := by
  subst h; exact UInt8.ofNat_toNat
/-- What is read as a number is the number's bytes. -/
theorem getL_sound : ∀ (l : List UInt8) (i z : Nat), z < 128 ^ i → (getL l i z).2 ≠ 0 →
    ∃ y, l = Lib.uvarint y ++ l.drop ((getL l i z).2 - i) ∧ (getL l i z).1 = unzig (z + y * 128 ^ i) ∧ (getL l i z).2 = i + (Lib.uvarint y).length ∧ z + y * 128 ^ i < 18446744073709551616 ∧ (0 < i → y ≠ 0)
  | [], i, z, _, h => by simp [getL] at h
  | b :: r, i, z, hz, h => by
    by_cases h1 : 10 ≤ i
    · rw [getL, if_pos h1] at h; simp at h
    by_cases h2 : i = 9 ∧ 1 < b.toNat
    · rw [getL, if_neg h1, if_pos h2] at h; simp at h
    have hs := step_lt (by omega) hz b.toNat_lt h2
    by_cases h3 : 128 ≤ b.toNat
    · have e : getL (b :: r) i z = getL r (i + 1) (z + b.toNat % 128 * 128 ^ i) := by rw [getL, if_neg h1, if_neg h2, if_pos h3]
      rw [e] at h ⊢
      obtain ⟨y, e1, e2, e3, e4, e5⟩ := getL_sound r (i + 1) _ hs.2.2 h
      have hy := e5 (by omega)
      have hb := b.toNat_lt
      have ev : Lib.uvarint (b.toNat % 128 + 128 * y) = b :: Lib.uvarint y := by
        rw [Lib.uvarint_big (by omega), show (b.toNat % 128 + 128 * y) / 128 = y from by omega, byte_eq (b := b) (by omega)]
      have ep : z + (b.toNat % 128 + 128 * y) * 128 ^ i = z + b.toNat % 128 * 128 ^ i + y * 128 ^ (i + 1) := by
        rw [Nat.pow_succ, Nat.add_mul, Nat.mul_comm 128 y, Nat.mul_assoc, Nat.mul_comm 128 (128 ^ i), Nat.add_assoc]
      refine ⟨b.toNat % 128 + 128 * y, ?_, ?_, ?_, ?_, fun _ => by omega⟩
      · rw [ev, e3, show i + 1 + (Lib.uvarint y).length - i = (Lib.uvarint y).length + 1 from by omega, List.drop_succ_cons, List.cons_append]
        rw [e3, show i + 1 + (Lib.uvarint y).length - (i + 1) = (Lib.uvarint y).length from by omega] at e1
        rw [← e1]
      · rw [e2, ep]
      · rw [e3, ev, List.length_cons]; omega
      · rw [ep]; exact e4
    · by_cases h4 : b.toNat = 0 ∧ 0 < i
      · rw [getL, if_neg h1, if_neg h2, if_neg h3, if_pos h4] at h; simp at h
      have e : getL (b :: r) i z = (unzig (z + b.toNat % 128 * 128 ^ i), i + 1) := by rw [getL, if_neg h1, if_neg h2, if_neg h3, if_neg h4]
      rw [e]
      have em : b.toNat % 128 = b.toNat := by omega
      rw [em] at hs
      refine ⟨b.toNat, ?_, by simp only [em], ?_, hs.1, by omega⟩
      · rw [Lib.uvarint_small (by omega), byte_eq (b := b) rfl]
        show _ = _ ++ List.drop (i + 1 - i) _
        rw [show i + 1 - i = 1 from by omega]
        rfl
      · rw [Lib.uvarint_small (by omega)]; rfl
/-- What was written is read as it was. -/
theorem getL_back : ∀ (y i z : Nat) (more : List UInt8), z < 128 ^ i → z + y * 128 ^ i < 18446744073709551616 → (0 < i → y ≠ 0) →
    getL (Lib.uvarint y ++ more) i z = (unzig (z + y * 128 ^ i), i + (Lib.uvarint y).length) := by
  intro y
  induction y using Nat.strongRecOn with
  | _ y ih =>
    intro i z more hz hb hi
    have hi10 : ¬ 10 ≤ i := by
      intro h
      have h1 : 128 ^ 10 ≤ 128 ^ i := Nat.pow_le_pow_right (by omega) h
      have h2 : 1 * 128 ^ i ≤ y * 128 ^ i := Nat.mul_le_mul_right _ (by have := hi (by omega); omega)
      have h3 : (128 : Nat) ^ 10 = 1180591620717411303424 := by decide
      omega
    by_cases hy : y < 128
    · rw [Lib.uvarint_small hy, List.singleton_append, getL, if_neg hi10]
      have e : y.toUInt8.toNat = y := by simp; omega
      rw [e, if_neg, if_neg (by omega), if_neg, Nat.mod_eq_of_lt hy]
      · rfl
      · rintro ⟨h1, h2⟩; exact hi h2 h1
      · rintro ⟨rfl, h2⟩
        have e9 : (128 : Nat) ^ 9 = 9223372036854775808 := by decide
        rw [e9] at hb
        omega
    · rw [Lib.uvarint_big (by omega), List.cons_append, getL, if_neg hi10]
      have e : (y % 128 + 128).toUInt8.toNat = y % 128 + 128 := by simp; omega
      have ep : z + y * 128 ^ i = z + (y % 128) * 128 ^ i + y / 128 * 128 ^ (i + 1) := by
        have h : y = y % 128 + 128 * (y / 128) := by omega
        rw [Nat.pow_succ, Nat.add_assoc, ← Nat.mul_assoc, Nat.mul_right_comm, ← Nat.add_mul]
        congr 2
        omega
      have h9 : ¬ (i = 9 ∧ 1 < y % 128 + 128) := by
        rintro ⟨rfl, _⟩
        have e9 : (128 : Nat) ^ 9 = 9223372036854775808 := by decide
        rw [e9] at hb
        omega
      have hl : z + y % 128 * 128 ^ i < 128 ^ (i + 1) := by
        have : y % 128 * 128 ^ i ≤ 127 * 128 ^ i := Nat.mul_le_mul_right _ (by omega)
        rw [Nat.pow_succ]; omega
      rw [e, if_neg h9, if_pos (by omega), show (y % 128 + 128) % 128 = y % 128 from by omega, ih (y / 128) (by omega) (i + 1) _ more hl (by rw [← ep]; exact hb) (fun _ => by omega), ep, List.length_cons]
      congr 1
      omega
theorem getN_sound {s : ByteArray} (h : (getN s).2 ≠ 0) : s.data.toList = numB (getN s).1 ++ s.data.toList.drop (getN s).2 ∧ (getN s).2 = (numB (getN s).1).length := by
  obtain ⟨y, e1, e2, e3, _⟩ := getL_sound s.data.toList 0 0 (by decide) h
  simp only [Nat.zero_add, Nat.pow_zero, Nat.mul_one, Nat.sub_zero] at e1 e2 e3
  unfold getN at *
  rw [e2, numB_unzig]
  exact ⟨e1, e3⟩
theorem getN_back {n : Int} (hn : -9223372036854775808 ≤ n ∧ n ≤ 9223372036854775807) (more : List UInt8) : getN ⟨(numB n ++ more).toArray⟩ = (n, (numB n).length) := by
  have h := getL_back (Lib.zigzag n) 0 0 more (by decide) (by have := Lib.zigzag_lt hn.1 hn.2; simpa using this) (by omega)
  simp only [Nat.zero_add, Nat.pow_zero, Nat.mul_one] at h
  unfold getN numB
  rw [unzig_zig] at h
  exact h
theorem nextS_list (s : ByteArray) : nextS s = ⟨(s.data.toList.drop (getN s).2).toArray⟩ := by
  unfold nextS
  obtain ⟨⟨l⟩⟩ := s
  rw [ByteArray.extract_mk]
  simp [ByteArray.size]
  exact List.take_of_length_le (by simp)
theorem nextS_back {n : Int} (hn : -9223372036854775808 ≤ n ∧ n ≤ 9223372036854775807) (more : List UInt8) : nextS ⟨(numB n ++ more).toArray⟩ = ⟨more.toArray⟩ := by
  rw [nextS_list, getN_back hn]
  simp
end Go.Proofs.YtphljjgjpkdpmaaGreatDoor
/- What the document's answer for layer 1 is: its reader. -/
namespace Go.Proofs.YtphljjgjpkdpmaaGreatDoor
open Go.RowKit
set_option linter.unusedVariables false
/-- Block b is the document's reader: its bytes, how many are read, whether something was wrong. -/
def Rr (w : World) (b : Nat) (s : ByteArray) (at_ : Nat) (bad : Bool) : Prop := w.heap[b]? = some (.cells #[.string s, .int .i64 at_, .bool bad] 118 (0, 0))
section
variable {w : World} {b : Nat} {s : ByteArray} {p : Nat} {bad : Bool}
theorem Rr.c0 (h : Rr w b s p bad) : w.cell? ⟨b, 0, none⟩ = some (.string s) := by unfold Rr at h; simp [World.cell?, h]
theorem Rr.c1 (h : Rr w b s p bad) : w.cell? ⟨b, 1, none⟩ = some (.int .i64 p) := by unfold Rr at h; simp [World.cell?, h]
theorem Rr.c2 (h : Rr w b s p bad) : w.cell? ⟨b, 2, none⟩ = some (.bool bad) := by unfold Rr at h; simp [World.cell?, h]
theorem Rr.fr (h : Rr w b s p bad) (o : Nat) : w.frozen? ⟨b, o, none⟩ = false := by unfold Rr at h; simp [World.frozen?, h]
theorem Rr.lt (h : Rr w b s p bad) : b < w.heap.size := (Array.getElem?_eq_some_iff.1 h).1
theorem Rr.set1 (h : Rr w b s p bad) (p' : Nat) : Rr (w.setCell ⟨b, 1, none⟩ (.int .i64 p')) b s p' bad := by
  unfold Rr at h ⊢; simp [World.setCell, Array.getElem?_modify, h]
theorem Rr.set2 (h : Rr w b s p bad) (bad' : Bool) : Rr (w.setCell ⟨b, 2, none⟩ (.bool bad')) b s p bad' := by
  unfold Rr at h ⊢; simp [World.setCell, Array.getElem?_modify, h]
theorem Rr.kept {w' : World} (h : Rr w b s p bad) {r : Option Nat} (g : w.grownBy w' r) (hr : r ≠ some b) : Rr w' b s p bad := by
  unfold Rr at h ⊢; rw [g.block b (Array.getElem?_eq_some_iff.1 h).1 (fun e => hr e.symm)]; exact h
theorem Rr.drewN (h : Rr w b s p bad) (n : Nat) : Rr (w.drewN n) b s p bad := h
end
set_option maxRecDepth 100000 in
theorem refDone_any (b : Nat) (s : ByteArray) (p : Nat) (bad : Bool) (w : World) (h : Rr w b s p bad) (hs : s.size ≤ 1000000000000000) :
    Calls Tryz.prog 85 #[.pointer (some ⟨b, 0, none⟩)] w fun e w' => e = .returned (.bool (!bad && ((p : Int) == (s.size : Int)))) ∧ ∃ n, w' = w.drewN n := by
  have c0 := h.c0
  have c1 := h.c1
  have c2 := h.c2
  cases bad with
  | true =>
    go_enter Tryz.func85, Tryz.ntmps85
    go_wp2
    go_quiet (fail)
    go_wp2
    go_ret
    exact ⟨rfl, nq, rfl⟩
  | false =>
    go_enter Tryz.func85, Tryz.ntmps85
    go_wp2
    go_quiet (fail)
    go_wp2
    go_ret
    exact ⟨rfl, nq, rfl⟩
/-- Where the document's reader stands: behind a number. -/
def rest (s : ByteArray) (p : Nat) : ByteArray := ⟨(s.data.toList.drop p).toArray⟩
theorem rest_size (s : ByteArray) (p : Nat) : (rest s p).size = s.size - p := by
  show (s.data.toList.drop p).toArray.size = _
  rw [List.size_toArray, List.length_drop, size_toList]
/-- What holds at the head of the document's Num's round: k groups are read, they give y; what is read then is told. -/
def RnRel (s : ByteArray) (p : Nat) (z u i : Value) : Prop :=
  ∃ k y : Nat, k ≤ 10 ∧ p + k ≤ s.size ∧ i = .int .i64 k ∧ z = .int .u64 y ∧ (k ≤ 9 → u = .int .u64 (128 ^ k : Nat)) ∧ y < 128 ^ k ∧ getN (rest s p) = getL (s.data.toList.drop (p + k)) k y
set_option maxRecDepth 100000 in
set_option maxHeartbeats 1000000 in
theorem refRNum_bad (b : Nat) (s : ByteArray) (p : Nat) (w : World) (h : Rr w b s p true) :
    Calls Tryz.prog 83 #[.pointer (some ⟨b, 0, none⟩)] w fun e w' => e = .returned (.int .i64 0) ∧ w' = w := by
  have c2 := h.c2
  go_enter Tryz.func83, Tryz.ntmps83
  go_wp2
  go_ret
  exact ⟨rfl, rfl⟩
set_option maxRecDepth 100000 in
set_option maxHeartbeats 1000000 in
theorem refRNum_good (b : Nat) (s : ByteArray) (p : Nat) (w : World) (h : Rr w b s p false) (hp : p ≤ s.size) (hs : s.size ≤ 1000000000000000) :
    Calls Tryz.prog 83 #[.pointer (some ⟨b, 0, none⟩)] w fun e w' => e = .returned (.int .i64 (getN (rest s p)).1) ∧ Rr w' b s (p + (getN (rest s p)).2) (nextBad (rest s p)) ∧ w.grownBy w' (some b) := by
  have c2 := h.c2
  go_enter Tryz.func83, Tryz.ntmps83
  go_wp2
  clear c2
  go_loopw [3, 4, 5] (fun z u i wr => RnRel s p z u i ∧ ∃ n, wr = w.drewN n) (fun _ _ i _ => 10 - (intOf i).toNat)
  case atStart => exact ⟨⟨0, 0, by omega, by omega, rfl, rfl, fun _ => rfl, by simp, rfl⟩, 0, rfl⟩
  case round =>
    obtain ⟨⟨k, y, hk10, hpk, rfl, rfl, hu, hy, hg⟩, n0, rfl⟩ := hrel
    have c0 := h.c0
    have c1 := h.c1
    have c2 := h.c2
    have f1 := h.fr 1
    have f2 := h.fr 2
    have HG := Lib.hid hg
    have HY := Lib.hid hy
    clear hg hy
    by_cases hend : k < 10 ∧ p + k < s.size
    · obtain ⟨h1, h2⟩ := hend
      have hu := hu (by omega)
      subst hu
      have hk9 : (k : Int) < 10 := by omega
      have hin : (p : Int) + k < s.size := by omega
      have hb := s[p + k].toNat_lt
      have hdrop : s.data.toList.drop (p + k) = s[p + k] :: s.data.toList.drop (p + (k + 1)) := by
        rw [List.drop_eq_getElem_cons (by simpa [size_toList] using h2)]; rfl
      have HGL := HG.out
      rw [hdrop, getL, if_neg (by omega)] at HGL
      clear hdrop
      by_cases h9 : k = 9 ∧ 1 < s[p + k].toNat
      · rw [if_pos h9] at HGL
        have HR := Lib.hid HGL
        obtain ⟨e9, hb1⟩ := h9
        have e9' : ((k : Int) == 9) = true := by simp; omega
        have hb1' : (1 : Int) < s[p + k].toNat := by omega
        clear HGL e9 hb1 HG
        go_wp2
        go_quiet (fail)
        go_wp2
        have q1 : IntKind.i64.wrap ((p : Int) + (k : Int)) = (p : Int) + (k : Int) := IntWalk.i64_in _ (by omega)
        have q2 : (0 : Int) ≤ (p : Int) + (k : Int) := by omega
        have q3 : ((p : Int) + (k : Int)).toNat = p + k := by omega
        go_quiet (fail)
        clear q1
        go_wp2
        go_ret
        refine ⟨by rw [HR.out]; rfl, ?_, ?_⟩
        · rw [HR.out, show nextBad (rest s p) = true from by unfold nextBad; rw [HR.out]; rfl]
          exact h.set2 true
        · exact grow_same (grow_drawnN _ (grow_refl _ _)) (grow_set _ _ _)
      · rw [if_neg h9] at HGL
        have hst := step_lt h1 HY.out hb h9
        obtain ⟨x, hx⟩ : ∃ x, x = s[p + k].toNat % 128 := ⟨_, rfl⟩
        rw [← hx] at hst HGL
        obtain ⟨M, hM⟩ : ∃ M, M = x * 128 ^ k := ⟨_, rfl⟩
        have hmul : IntKind.u64.wrap ((s[p + k].toNat : Int) % 128 * 128 ^ k) = (M : Int) := by
          have e : (s[p + k].toNat : Int) % 128 * 128 ^ k = ((x * 128 ^ k : Nat) : Int) := by rw [hx]; simp
          rw [IntKind.wrap_u64, e, ← hM, Int.emod_eq_of_lt (by omega) (by omega)]
        rw [← hM] at hst HGL
        obtain ⟨N, hN⟩ : ∃ N, N = y + M := ⟨_, rfl⟩
        have hadd : IntKind.u64.wrap ((y : Int) + (M : Int)) = (N : Int) := by
          rw [IntKind.wrap_u64, Int.emod_eq_of_lt (by omega) (by omega), hN]; omega
        rw [← hN] at hst HGL
        have HR := Lib.hid HGL
        have HST := Lib.hid hst
        clear HGL hst hM hN hx HG
        have h91 : ¬ k = 9 ∨ (s[p + k].toNat : Int) ≤ 1 := by omega
        by_cases h128 : 128 ≤ s[p + k].toNat
        · have e9' : ((k : Int) == 9) = false := by simp; omega
          have h128' : (128 : Int) ≤ s[p + k].toNat := by omega
          go_wp2
          go_quiet (fail)
          go_wp2
          have q1 : IntKind.i64.wrap ((p : Int) + (k : Int)) = (p : Int) + (k : Int) := IntWalk.i64_in _ (by omega)
          have q2 : (0 : Int) ≤ (p : Int) + (k : Int) := by omega
          have q3 : ((p : Int) + (k : Int)).toNat = p + k := by omega
          go_quiet (fail)
          clear q1
          go_wp2
          refine ⟨⟨⟨k + 1, N, by omega, by omega, by go_num, rfl, fun hk8 => ?_, HST.out.2.2, by rw [HR.out, if_pos h128]⟩, ⟨_, rfl⟩⟩, by simp [intOf]; omega⟩
          have e1 : (128 : Nat) ^ (k + 1) ≤ 9223372036854775808 := pow128 hk8
          have e2 : (128 : Int) ^ k * 128 = ((128 ^ (k + 1) : Nat) : Int) := by rw [Nat.pow_succ]; simp
          obtain ⟨T, hT⟩ : ∃ T, T = 128 ^ (k + 1) := ⟨_, rfl⟩
          rw [← hT] at e1 e2 ⊢
          rw [IntKind.wrap_u64, e2, Int.emod_eq_of_lt (by omega) (by omega)]
        · have h128' : (s[p + k].toNat : Int) < 128 := by omega
          by_cases h0 : s[p + k].toNat = 0 ∧ 0 < k
          · have hR : getN (rest s p) = (0, 0) := by rw [HR.out, if_neg h128, if_pos h0]
            have HR := Lib.hid hR
            obtain ⟨h0a, h0b⟩ := h0
            have h0' : ((s[p + k].toNat : Int) == 0) = true := by simp; omega
            have h0c : (0 : Int) < k := by omega
            clear hR h0a
            rcases Decidable.em (k = 9) with h9c | h9c
            · have h9d : ((k : Int) == 9) = true := by simp; omega
              have h9e : (s[p + k].toNat : Int) ≤ 1 := by omega
              clear h9c h91
              go_wp2
              go_quiet (fail)
              go_wp2
              have q1 : IntKind.i64.wrap ((p : Int) + (k : Int)) = (p : Int) + (k : Int) := IntWalk.i64_in _ (by omega)
              have q2 : (0 : Int) ≤ (p : Int) + (k : Int) := by omega
              have q3 : ((p : Int) + (k : Int)).toNat = p + k := by omega
              go_quiet (fail)
              clear q1
              go_wp2
              go_ret
              refine ⟨by rw [HR.out]; rfl, ?_, ?_⟩
              · rw [HR.out, show nextBad (rest s p) = true from by unfold nextBad; rw [HR.out]; rfl]
                exact h.set2 true
              · exact grow_same (grow_drawnN _ (grow_refl _ _)) (grow_set _ _ _)
            · have h9d : ((k : Int) == 9) = false := by simp; omega
              clear h9c h91
              go_wp2
              go_quiet (fail)
              go_wp2
              have q1 : IntKind.i64.wrap ((p : Int) + (k : Int)) = (p : Int) + (k : Int) := IntWalk.i64_in _ (by omega)
              have q2 : (0 : Int) ≤ (p : Int) + (k : Int) := by omega
              have q3 : ((p : Int) + (k : Int)).toNat = p + k := by omega
              go_quiet (fail)
              clear q1
              go_wp2
              go_ret
              refine ⟨by rw [HR.out]; rfl, ?_, ?_⟩
              · rw [HR.out, show nextBad (rest s p) = true from by unfold nextBad; rw [HR.out]; rfl]
                exact h.set2 true
              · exact grow_same (grow_drawnN _ (grow_refl _ _)) (grow_set _ _ _)
          · obtain ⟨q, hq⟩ : ∃ q, q = N / 2 := ⟨_, rfl⟩
            have hN2 : (N : Int) / 2 = (q : Int) := by omega
            have hqb : (q : Int) ≤ 9223372036854775807 := by have := HST.out.1; omega
            have hR : getN (rest s p) = (unzig N, k + 1) := by rw [HR.out, if_neg h128, if_neg h0]
            have HR := Lib.hid hR
            have h01 : (((s[p + k].toNat : Int) == 0) = false) ∨ (((s[p + k].toNat : Int) == 0) = true ∧ (k : Int) ≤ 0) := by
              by_cases e : s[p + k].toNat = 0
              · exact .inr ⟨by simp; omega, by omega⟩
              · exact .inl (by simp; omega)
            rcases Nat.mod_two_eq_zero_or_one N with hm | hm
            · have hm' : ((N : Int) % 2 == 1) = false := by rw [beq_eq_false_iff_ne]; omega
              have hU : Hid (unzig N = (q : Int)) := by show _ = _; unfold unzig; rw [if_pos hm, hq]
              clear hR hq hm h0
              rcases h01 with h01 | ⟨h01, hk0⟩
              · rcases Decidable.em (k = 9) with h9c | h9c
                · have h9d : ((k : Int) == 9) = true := by simp; omega
                  have h9e : (s[p + k].toNat : Int) ≤ 1 := by omega
                  clear h9c h91
                  go_wp2
                  go_quiet (fail)
                  go_wp2
                  have q1 : IntKind.i64.wrap ((p : Int) + (k : Int)) = (p : Int) + (k : Int) := IntWalk.i64_in _ (by omega)
                  have q2 : (0 : Int) ≤ (p : Int) + (k : Int) := by omega
                  have q3 : ((p : Int) + (k : Int)).toNat = p + k := by omega
                  go_quiet (fail)
                  clear q1
                  go_wp2
                  all_goals
                    go_ret
                    refine ⟨by rw [HR.out, hU.out]; rfl, ?_, ?_⟩
                    · rw [HR.out, show nextBad (rest s p) = false from by unfold nextBad; rw [HR.out]; show (((k + 1 : Nat) : Int) == 0) = false; rw [beq_eq_false_iff_ne]; omega]
                      have := h.set1 (p + (k + 1))
                      rw [show (((p + (k + 1) : Nat)) : Int) = (p : Int) + ((k : Int) + 1) from by omega] at this
                      exact this
                    · exact grow_same (grow_drawnN _ (grow_refl _ _)) (grow_set _ _ _)
                · have h9d : ((k : Int) == 9) = false := by simp; omega
                  clear h9c h91
                  go_wp2
                  go_quiet (fail)
                  go_wp2
                  have q1 : IntKind.i64.wrap ((p : Int) + (k : Int)) = (p : Int) + (k : Int) := IntWalk.i64_in _ (by omega)
                  have q2 : (0 : Int) ≤ (p : Int) + (k : Int) := by omega
                  have q3 : ((p : Int) + (k : Int)).toNat = p + k := by omega
                  go_quiet (fail)
                  clear q1
                  go_wp2
                  all_goals
                    go_ret
                    refine ⟨by rw [HR.out, hU.out]; rfl, ?_, ?_⟩
                    · rw [HR.out, show nextBad (rest s p) = false from by unfold nextBad; rw [HR.out]; show (((k + 1 : Nat) : Int) == 0) = false; rw [beq_eq_false_iff_ne]; omega]
                      have := h.set1 (p + (k + 1))
                      rw [show (((p + (k + 1) : Nat)) : Int) = (p : Int) + ((k : Int) + 1) from by omega] at this
                      exact this
                    · exact grow_same (grow_drawnN _ (grow_refl _ _)) (grow_set _ _ _)
              · rcases Decidable.em (k = 9) with h9c | h9c
                · have h9d : ((k : Int) == 9) = true := by simp; omega
                  have h9e : (s[p + k].toNat : Int) ≤ 1 := by omega
                  clear h9c h91
                  go_wp2
                  go_quiet (fail)
                  go_wp2
                  have q1 : IntKind.i64.wrap ((p : Int) + (k : Int)) = (p : Int) + (k : Int) := IntWalk.i64_in _ (by omega)
                  have q2 : (0 : Int) ≤ (p : Int) + (k : Int) := by omega
                  have q3 : ((p : Int) + (k : Int)).toNat = p + k := by omega
                  go_quiet (fail)
                  clear q1
                  go_wp2
                  all_goals
                    go_ret
                    refine ⟨by rw [HR.out, hU.out]; rfl, ?_, ?_⟩
                    · rw [HR.out, show nextBad (rest s p) = false from by unfold nextBad; rw [HR.out]; show (((k + 1 : Nat) : Int) == 0) = false; rw [beq_eq_false_iff_ne]; omega]
                      have := h.set1 (p + (k + 1))
                      rw [show (((p + (k + 1) : Nat)) : Int) = (p : Int) + ((k : Int) + 1) from by omega] at this
                      exact this
                    · exact grow_same (grow_drawnN _ (grow_refl _ _)) (grow_set _ _ _)
                · have h9d : ((k : Int) == 9) = false := by simp; omega
                  clear h9c h91
                  go_wp2
                  go_quiet (fail)
                  go_wp2
                  have q1 : IntKind.i64.wrap ((p : Int) + (k : Int)) = (p : Int) + (k : Int) := IntWalk.i64_in _ (by omega)
                  have q2 : (0 : Int) ≤ (p : Int) + (k : Int) := by omega
                  have q3 : ((p : Int) + (k : Int)).toNat = p + k := by omega
                  go_quiet (fail)
                  clear q1
                  go_wp2
                  all_goals
                    go_ret
                    refine ⟨by rw [HR.out, hU.out]; rfl, ?_, ?_⟩
                    · rw [HR.out, show nextBad (rest s p) = false from by unfold nextBad; rw [HR.out]; show (((k + 1 : Nat) : Int) == 0) = false; rw [beq_eq_false_iff_ne]; omega]
                      have := h.set1 (p + (k + 1))
                      rw [show (((p + (k + 1) : Nat)) : Int) = (p : Int) + ((k : Int) + 1) from by omega] at this
                      exact this
                    · exact grow_same (grow_drawnN _ (grow_refl _ _)) (grow_set _ _ _)
            · have hm' : ((N : Int) % 2 == 1) = true := by rw [beq_iff_eq]; omega
              have hU : Hid (unzig N = -1 - (q : Int)) := by show _ = _; unfold unzig; rw [if_neg (by omega), hq]; omega
              clear hR hq hm h0
              rcases h01 with h01 | ⟨h01, hk0⟩
              · rcases Decidable.em (k = 9) with h9c | h9c
                · have h9d : ((k : Int) == 9) = true := by simp; omega
                  have h9e : (s[p + k].toNat : Int) ≤ 1 := by omega
                  clear h9c h91
                  go_wp2
                  go_quiet (fail)
                  go_wp2
                  have q1 : IntKind.i64.wrap ((p : Int) + (k : Int)) = (p : Int) + (k : Int) := IntWalk.i64_in _ (by omega)
                  have q2 : (0 : Int) ≤ (p : Int) + (k : Int) := by omega
                  have q3 : ((p : Int) + (k : Int)).toNat = p + k := by omega
                  go_quiet (fail)
                  clear q1
                  go_wp2
                  all_goals
                    go_ret
                    refine ⟨by rw [HR.out, hU.out]; rfl, ?_, ?_⟩
                    · rw [HR.out, show nextBad (rest s p) = false from by unfold nextBad; rw [HR.out]; show (((k + 1 : Nat) : Int) == 0) = false; rw [beq_eq_false_iff_ne]; omega]
                      have := h.set1 (p + (k + 1))
                      rw [show (((p + (k + 1) : Nat)) : Int) = (p : Int) + ((k : Int) + 1) from by omega] at this
                      exact this
                    · exact grow_same (grow_drawnN _ (grow_refl _ _)) (grow_set _ _ _)
                · have h9d : ((k : Int) == 9) = false := by simp; omega
                  clear h9c h91
                  go_wp2
                  go_quiet (fail)
                  go_wp2
                  have q1 : IntKind.i64.wrap ((p : Int) + (k : Int)) = (p : Int) + (k : Int) := IntWalk.i64_in _ (by omega)
                  have q2 : (0 : Int) ≤ (p : Int) + (k : Int) := by omega
                  have q3 : ((p : Int) + (k : Int)).toNat = p + k := by omega
                  go_quiet (fail)
                  clear q1
                  go_wp2
                  all_goals
                    go_ret
                    refine ⟨by rw [HR.out, hU.out]; rfl, ?_, ?_⟩
                    · rw [HR.out, show nextBad (rest s p) = false from by unfold nextBad; rw [HR.out]; show (((k + 1 : Nat) : Int) == 0) = false; rw [beq_eq_false_iff_ne]; omega]
                      have := h.set1 (p + (k + 1))
                      rw [show (((p + (k + 1) : Nat)) : Int) = (p : Int) + ((k : Int) + 1) from by omega] at this
                      exact this
                    · exact grow_same (grow_drawnN _ (grow_refl _ _)) (grow_set _ _ _)
              · rcases Decidable.em (k = 9) with h9c | h9c
                · have h9d : ((k : Int) == 9) = true := by simp; omega
                  have h9e : (s[p + k].toNat : Int) ≤ 1 := by omega
                  clear h9c h91
                  go_wp2
                  go_quiet (fail)
                  go_wp2
                  have q1 : IntKind.i64.wrap ((p : Int) + (k : Int)) = (p : Int) + (k : Int) := IntWalk.i64_in _ (by omega)
                  have q2 : (0 : Int) ≤ (p : Int) + (k : Int) := by omega
                  have q3 : ((p : Int) + (k : Int)).toNat = p + k := by omega
                  go_quiet (fail)
                  clear q1
                  go_wp2
                  all_goals
                    go_ret
                    refine ⟨by rw [HR.out, hU.out]; rfl, ?_, ?_⟩
                    · rw [HR.out, show nextBad (rest s p) = false from by unfold nextBad; rw [HR.out]; show (((k + 1 : Nat) : Int) == 0) = false; rw [beq_eq_false_iff_ne]; omega]
                      have := h.set1 (p + (k + 1))
                      rw [show (((p + (k + 1) : Nat)) : Int) = (p : Int) + ((k : Int) + 1) from by omega] at this
                      exact this
                    · exact grow_same (grow_drawnN _ (grow_refl _ _)) (grow_set _ _ _)
                · have h9d : ((k : Int) == 9) = false := by simp; omega
                  clear h9c h91
                  go_wp2
                  go_quiet (fail)
                  go_wp2
                  have q1 : IntKind.i64.wrap ((p : Int) + (k : Int)) = (p : Int) + (k : Int) := IntWalk.i64_in _ (by omega)
                  have q2 : (0 : Int) ≤ (p : Int) + (k : Int) := by omega
                  have q3 : ((p : Int) + (k : Int)).toNat = p + k := by omega
                  go_quiet (fail)
                  clear q1
                  go_wp2
                  all_goals
                    go_ret
                    refine ⟨by rw [HR.out, hU.out]; rfl, ?_, ?_⟩
                    · rw [HR.out, show nextBad (rest s p) = false from by unfold nextBad; rw [HR.out]; show (((k + 1 : Nat) : Int) == 0) = false; rw [beq_eq_false_iff_ne]; omega]
                      have := h.set1 (p + (k + 1))
                      rw [show (((p + (k + 1) : Nat)) : Int) = (p : Int) + ((k : Int) + 1) from by omega] at this
                      exact this
                    · exact grow_same (grow_drawnN _ (grow_refl _ _)) (grow_set _ _ _)
    · have hR : getN (rest s p) = (0, 0) := by
        rw [HG.out]
        by_cases h1 : p + k < s.size
        · rw [List.drop_eq_getElem_cons (by simpa [size_toList] using h1), getL, if_pos (by omega)]
        · rw [List.drop_eq_nil_of_le (by rw [size_toList]; omega), getL]
      have HR := Lib.hid hR
      clear hR
      by_cases h1 : k < 10
      · have h2 : (s.size : Int) ≤ (p : Int) + k := by omega
        have h3 : (k : Int) < 10 := by omega
        go_wp2
        go_quiet (fail)
        go_wp2
        go_ret
        refine ⟨by rw [HR.out]; rfl, ?_, ?_⟩
        · rw [HR.out, show nextBad (rest s p) = true from by unfold nextBad; rw [HR.out]; rfl]
          exact h.set2 true
        · exact grow_same (grow_drawnN _ (grow_refl _ _)) (grow_set _ _ _)
      · have h3 : decide ((k : Int) < 10) = false := by simp; omega
        have h4 : (10 : Int) ≤ k := by omega
        go_wp2
        go_quiet (fail)
        go_wp2
        go_ret
        refine ⟨by rw [HR.out]; rfl, ?_, ?_⟩
        · rw [HR.out, show nextBad (rest s p) = true from by unfold nextBad; rw [HR.out]; rfl]
          exact h.set2 true
        · exact grow_same (grow_drawnN _ (grow_refl _ _)) (grow_set _ _ _)
theorem rest_next (s : ByteArray) (p : Nat) : nextS (rest s p) = rest s (p + (getN (rest s p)).2) := by
  rw [nextS_list]
  show (⟨(List.drop _ (s.data.toList.drop p).toArray.toList).toArray⟩ : ByteArray) = _
  unfold rest
  rw [List.drop_drop]
end Go.Proofs.YtphljjgjpkdpmaaGreatDoor
