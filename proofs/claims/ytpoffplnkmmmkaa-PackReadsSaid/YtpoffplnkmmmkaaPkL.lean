/- What the statements of layer 1 ask first: awake. -/
import Derived.Test.YtpoffplnkmmmkaaPkH
import Derived.Test.YtpoffplnkmmmkaaPkI
import Derived.Test.YtpoffplnkmmmkaaPkJ
import Derived.Test.YtpoffplnkmmmkaaPkK
namespace Go.Proofs.Ytpoffplnkmmmkaa
open Go.RowKit
set_option linter.unusedVariables false
theorem Read_any (s : ByteArray) (w : World) :
    Calls Try.prog 17 #[.string s] w fun e w' => ∃ b, e = .returned (.pointer (some ⟨b, 0, none⟩)) ∧ Rd w' b s false ∧ w.grownBy w' none ∧ w.heap.size ≤ b := by
  go_enter Try.func17, Try.ntmps17
  go_wp2
  go_ret
  exact ⟨w.heap.size, rfl, Rd.new _ _, World.grownBy_alloc _ _ _, Nat.le_refl _⟩
theorem s0_get : getN ⟨#[3, 4, 97, 98, 33]⟩ = (-2, 1) := by decide
theorem s0_next : nextS ⟨#[3, 4, 97, 98, 33]⟩ = ⟨#[4, 97, 98, 33]⟩ := by unfold nextS; rw [s0_get]; decide
theorem s1_get : getN ⟨#[4, 97, 98, 33]⟩ = (2, 1) := by decide
theorem s1_next : nextS ⟨#[4, 97, 98, 33]⟩ = ⟨#[97, 98, 33]⟩ := by unfold nextS; rw [s1_get]; decide
theorem s1_size : sizeN ⟨#[4, 97, 98, 33]⟩ = 2 := by unfold sizeN; rw [s1_get, s1_next]; decide
theorem s1_bad : sizeBad ⟨#[4, 97, 98, 33]⟩ = false := by unfold sizeBad nextBad; rw [s1_get, s1_next]; decide
theorem awake_nums : numsB [0, -1, 1, 64] = [0, 1, 2, 128, 1] := by
  simp [numsB, numB, Lib.zigzag, Lib.uvarint_small, Lib.uvarint_big]
theorem awake_texts : textsB [⟨#[97, 98]⟩, ⟨#[]⟩] = [4, 97, 98, 0] := by
  show (numB 2 ++ [97, 98]) ++ ((numB 0 ++ []) ++ []) = _
  simp [numB, Lib.zigzag, Lib.uvarint_small]
set_option maxRecDepth 100000 in
set_option maxHeartbeats 1000000 in
theorem awake_any (w : World) :
    Calls Try.prog 11 #[] w fun e w' => e = .returned (.bool true) ∧ w.grownBy w' none := by
  go_enter Try.func11, Try.ntmps11
  go_wp2_with fail
  refine (Read_any _ _).mono ?_
  rintro e w1 ⟨b, rfl, r1, g1, hb⟩
  go_wp2_with fail
  refine (Num_any b _ _ _ r1 (by decide)).mono ?_
  rintro e w2 ⟨rfl, r2, g2⟩
  rw [show rNum ⟨#[3, 4, 97, 98, 33]⟩ false = -2 from congrArg Prod.fst s0_get]
  rw [show rNumS ⟨#[3, 4, 97, 98, 33]⟩ false = _ from s0_next, show rNumB ⟨#[3, 4, 97, 98, 33]⟩ false = false from by unfold rNumB nextBad; rw [s0_get]; rfl] at r2
  go_wp2_with fail
  refine (Text_any2 b _ _ _ r2 (by decide)).mono ?_
  rintro e w3 ⟨rfl, r3, g3⟩
  rw [show rText ⟨#[4, 97, 98, 33]⟩ false = ⟨#[97, 98]⟩ from by unfold rText; rw [s1_next, s1_size]; decide]
  rw [show rTextS ⟨#[4, 97, 98, 33]⟩ false = ⟨#[33]⟩ from by unfold rTextS; rw [s1_next, s1_size]; decide, show rCountB ⟨#[4, 97, 98, 33]⟩ false = false from by unfold rCountB; rw [s1_bad]; rfl] at r3
  go_wp2_with fail
  refine (Left_any b _ _ _ r3 (by decide)).mono ?_
  rintro e w4 ⟨rfl, r4, g4⟩
  have G4 := grow_new (grow_new (grow_new g1 hb g2) hb g3) hb g4
  clear g1 g2 g3 g4 r1 r2 r3
  rw [show rLeft ⟨#[33]⟩ false = 1 from rfl]
  go_wp2_with fail
  refine (Nums_any _ [0, -1, 1, 64] _ (RowAt.lit _ _ _ _ _ rfl) (by decide) (by decide)).mono ?_
  rintro e w5 ⟨rfl, g5⟩
  rw [awake_nums]
  have G5 := grow_none G4 (grow_alloc _ _ g5)
  have r5 := (r4.alloc (.cells #[.int .i64 0, .int .i64 (-1), .int .i64 1, .int .i64 64] 3)).kept g5 (by simp)
  clear g5 G4 r4
  go_wp2_with fail
  refine (Text_any _ [⟨#[97, 98]⟩, ⟨#[]⟩] _ (RowAt.lit _ _ _ _ _ rfl) (by decide)).mono ?_
  rintro e w6 ⟨rfl, g6⟩
  rw [awake_texts]
  have G6 := grow_none G5 (grow_alloc _ _ g6)
  have r6 := (r5.alloc (.cells #[.string ⟨#[97, 98]⟩, .string ⟨#[]⟩] 9)).kept g6 (by simp)
  clear g6 G5 r5
  go_wp2_with fail
  refine (Good_any b _ _ _ r6).mono ?_
  rintro e w7 ⟨rfl, r7, g7⟩
  go_wp2_with fail
  refine (Done_any b _ _ _ r7).mono ?_
  rintro e w8 ⟨rfl, r8, g8⟩
  rw [show rDone ⟨#[33]⟩ false = false from by unfold rDone; simp [ByteArray.toList_eq]]
  go_wp2
  go_ret
  exact ⟨rfl, grow_new (grow_new G6 hb g7) hb g8⟩
end Go.Proofs.Ytpoffplnkmmmkaa
