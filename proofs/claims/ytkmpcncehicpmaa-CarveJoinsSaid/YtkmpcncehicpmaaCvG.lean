/- What the statements ask first: awake; the law CarveCuts: its walk. -/
import Derived.Test.YtkmpcncehicpmaaCvF
import Derived.Test.YtkmpcncehicpmaaRel
namespace Go.Proofs.Ytkmpcncehicpmaa
open Go.RowKit
set_option linter.unusedVariables false
theorem capok_lit (p : Option Addr) (n : Nat) : CapOk (.slice p n n) := by
  intro p n c e; injection e with _ e2 e3; omega
theorem chunks_len (l : List UInt8) : (chunks l).length = cntN l.length := by unfold chunks; simp
theorem cnt_same (n : Nat) : cntI (n : Int) = ((cntN n : Nat) : Int) := by unfold cntI cntN; split <;> omega
set_option maxRecDepth 100000 in
set_option maxHeartbeats 1000000 in
theorem awake07_any (w : World) :
    Calls Try.prog 56 #[] w fun e w' => e = .returned (.bool true) ∧ w.grownBy w' none := by
  obtain ⟨i0, hi, hz0, hz1, hz2⟩ := info_parts Try.info07_uint8
  obtain ⟨o, ho⟩ : ∃ o, o = Obj.cells (List.replicate 65 (Value.int .u8 0)).toArray 5 := ⟨_, rfl⟩
  have hmk : ∀ W : World, (Instr.makeSlice 49 (.int .i64 65) (.int .i64 65)).run Try.prog W = .ok (.slice (some ⟨W.heap.size, 0, none⟩) 65 65) (W.alloc o) := fun W => by
    rw [ho]
    exact run_make_one (P := Try.prog) 49 5 i0 (.int .u8 0) 1 Try.underlying49 hi hz0 rfl hz1 hz2 .i64 .i64 65 65 (Nat.le_refl _) (by omega) (by omega) W
  obtain ⟨x, hx⟩ : ∃ x : ByteArray, x = ⟨(List.replicate 65 (0 : UInt8)).toArray⟩ := ⟨_, rfl⟩
  have hb : Blk (w.alloc o) w.heap.size 5 ((List.replicate 65 (0 : UInt8)).map c8) := by
    rw [ho, replicate_c8]
    exact Blk.new _ _ _
  have hown := hb.own 65 (by rw [List.length_map, List.length_replicate]) (by unfold maxLen; omega)
  have hconv := run_str_buf (P := Try.prog) (w.alloc o) Try.underlying49 Try.underlying5 Try.underlying9 hown
  rw [← hx] at hconv
  have gx := World.grownBy_alloc w o none
  have HX := Lib.hid hx
  clear ho hx hb hown
  go_enter Try.func56, Try.ntmps56
  go_wp2_with fail
  refine (Cut_any x _ (by rw [HX.out]; decide)).mono ?_
  rintro e w2 ⟨v, rfl, r2, _, g2, _⟩
  have G2 := grow_none gx g2
  have hch : chunks x.data.toList = [⟨(List.replicate 64 (0 : UInt8)).toArray⟩, ⟨#[0]⟩] := by rw [HX.out]; decide +kernel
  rw [hch] at r2
  obtain ⟨p, c, rfl⟩ := row_form r2
  obtain ⟨b1, o1, rfl, c1, _⟩ := row_string r2 rfl (show 1 < [(⟨(List.replicate 64 (0 : UInt8)).toArray⟩ : ByteArray), ⟨#[0]⟩].length by decide)
  have c1' : w2.cell? ⟨b1, o1 + 1, none⟩ = some (.string ⟨#[0]⟩) := c1
  have hls : [(⟨(List.replicate 64 (0 : UInt8)).toArray⟩ : ByteArray), ⟨#[0]⟩].length = 2 := rfl
  rw [hls]
  clear g2 r2 hch hls hconv hmk c1
  go_wp2_with fail
  refine (Count_any 65 _ (by omega)).mono ?_
  rintro e w3 ⟨rfl, rfl⟩
  rw [show cntI 65 = 2 from by decide]
  go_wp2_with fail
  refine (Count_any 64 _ (by omega)).mono ?_
  rintro e w3 ⟨rfl, rfl⟩
  rw [show cntI 64 = 1 from by decide]
  have r5 := RowAt.lit w2 ([⟨#[97]⟩, ⟨#[]⟩, ⟨#[98]⟩].map Value.string) 9 3 3 rfl
  have G5 := grow_none G2 (World.grownBy_alloc w2 (.cells ([⟨#[97]⟩, ⟨#[]⟩, ⟨#[98]⟩].map Value.string).toArray 9) none)
  simp only [List.map_cons, List.map_nil] at r5 G5
  go_wp2_with fail
  refine (Join_any _ [⟨#[97]⟩, ⟨#[]⟩, ⟨#[98]⟩] _ r5 (capok_lit _ _) (by decide) (by decide)).mono ?_
  rintro e w5 ⟨rfl, g5⟩
  rw [show (⟨(allB [⟨#[97]⟩, ⟨#[]⟩, ⟨#[98]⟩]).toArray⟩ : ByteArray) = ⟨#[97, 98]⟩ from rfl]
  have H5 := grow_none G5 g5
  have r6 := RowAt.lit w5 ([⟨#[97]⟩, ⟨#[98]⟩].map Value.string) 9 2 2 rfl
  have G6 := grow_none H5 (World.grownBy_alloc w5 (.cells ([⟨#[97]⟩, ⟨#[98]⟩].map Value.string).toArray 9) none)
  simp only [List.map_cons, List.map_nil] at r6 G6
  clear r5 G5 g5 H5
  go_wp2_with fail
  refine (Fits_any _ [⟨#[97]⟩, ⟨#[98]⟩] _ r6 (by unfold maxLen; decide) (by unfold maxLen; decide)).mono ?_
  rintro e w6 ⟨rfl, rfl⟩
  rw [show fitsB [⟨#[97]⟩, ⟨#[98]⟩] = false from by decide]
  clear r6
  go_wp2_with fail
  refine (Fits_any _ [] _ ⟨none, 0, rfl, .inl rfl⟩ (by unfold maxLen; decide) (by simp)).mono ?_
  rintro e w7 ⟨rfl, rfl⟩
  rw [show fitsB [] = true from rfl]
  go_wp2
  go_ret
  exact ⟨rfl, G6⟩
set_option maxRecDepth 100000 in
set_option maxHeartbeats 1000000 in
theorem law_CarveCuts (s : ByteArray) (hs : s.size ≤ maxLen) (n : Int) (hn : -9223372036854775808 ≤ n ∧ n ≤ 9223372036854775807) (w : World) :
    Calls Try.prog 13 #[.string s, .int .i64 n] w fun e w' => e = .returned (.bool true) ∧ Below w.heap.size w w' := by
  have hsi : (s.size : Int) ≤ 9223372036854775807 := by unfold maxLen at hs; omega
  clear hs
  by_cases h2 : 8192 < s.size
  · have h2' : decide ((8192 : Int) < s.size) = true := decide_eq_true (by omega)
    go_enter Try.func13, Try.ntmps13
    go_wp2_with fail
    refine (awake07_any _).mono ?_
    rintro e w2 ⟨rfl, g2⟩
    go_wp2_with fail
    refine (awake07_any _).mono ?_
    rintro e w3 ⟨rfl, g3⟩
    have G3 := grow_none g2 g3
    clear g2 g3
    go_wp2
    go_ret
    exact ⟨rfl, below_of_none G3⟩
  · have h2' : decide ((8192 : Int) < s.size) = false := decide_eq_false (by omega)
    have hs1 : s.size ≤ 8192 := by omega
    have hs2 : (s.size : Int) ≤ 8192 := by omega
    have HL : Hid (s.data.toList.length = s.size) := by show _ = _; rw [Array.length_toList]; rfl
    go_enter Try.func13, Try.ntmps13
    go_wp2_with fail
    refine (awake07_any _).mono ?_
    rintro e w2 ⟨rfl, g2⟩
    go_wp2_with fail
    refine (Cut_any s _ (by omega)).mono ?_
    rintro e w3 ⟨v3, rfl, r3, _, g3, _⟩
    have G3 := grow_none g2 g3
    clear g2 g3
    obtain ⟨p, c, rfl⟩ := row_form r3
    go_wp2_with fail
    refine (refCut_any s _ (by omega)).mono ?_
    rintro e w4 ⟨v4, rfl, r4, _, g4, _⟩
    have G4 := grow_none G3 g4
    have r3' := r3.kept g4
    have hml : (chunks s.data.toList).length ≤ maxLen := by rw [chunks_len, HL.out]; unfold cntN maxLen; omega
    have hcl : ((chunks s.data.toList).length : Int) = cntI (s.size : Int) := by rw [cnt_same, chunks_len, HL.out]
    clear G3 g4 r3
    go_wp2_with fail
    refine (Same_any _ _ _ _ _ r3' r4 hml hml).mono ?_
    rintro e w5 ⟨rfl, g5⟩
    rw [decide_eq_true rfl]
    have G5 := grow_none G4 g5
    clear G4 g5 r3' r4
    go_wp2_with fail
    refine (Count_any _ _ (by omega)).mono ?_
    rintro e w6 ⟨rfl, rfl⟩
    go_wp2_with fail
    refine (Count_any n _ hn).mono ?_
    rintro e w6 ⟨rfl, rfl⟩
    go_wp2_with fail
    refine (refCount_any n _ hn).mono ?_
    rintro e w6 ⟨rfl, rfl⟩
    go_wp2
    go_ret
    exact ⟨rfl, below_of_none G5⟩
end Go.Proofs.Ytkmpcncehicpmaa
