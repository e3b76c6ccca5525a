/- What the statements on seam ask first: own, awake; the law SeamHints. -/
import Derived.Test.YtkmpcncehicpmaaSmE
import Derived.Test.YtkmpcncehicpmaaStep
import Derived.Test.YtkmpcncehicpmaaRel
import Derived.Laws.StructEq
namespace Go.Proofs.Ytkmpcncehicpmaa
open Go.RowKit
set_option linter.unusedVariables false
theorem Try.info17_int : (Try.prog.info? 3).map (fun i => (i.zero, i.size, i.bytes)) = some (some (.int .i64 0), 1, 8) := by kernel_rfl
/-- A list of its own. -/
def OwnAt (w : World) (l : List Int) (e : Ending) (w' : World) : Prop := ∃ v, e = .returned v ∧ RowAt w' v (l.map (Value.int .i64)) ∧ NewBlk w v ∧ w.grownBy w' none
set_option maxRecDepth 100000 in
theorem own_any (v : Value) (l : List Int) (w : World) (hr : RowAt w v (l.map (Value.int .i64))) (hl : l.length ≤ 1000000) :
    Calls Try.prog 76 #[v] w (OwnAt w l) := by
  obtain ⟨i0, hi, hz0, hz1, hz2⟩ := info_parts Try.info17_int
  have r1 := hr.kept (World.grownBy_alloc w (.cells #[] 3) none)
  obtain ⟨a, c, rfl⟩ := hr.len
  rw [List.length_map] at hr r1 ⊢
  go_enter Try.func76, Try.ntmps76
  go_wp2_with (at_builtin; refine wpList_append_row _ rfl _ _ 29 rfl 3 i0 (.int .i64 0) 8 Try.underlying29 hi hz0 hz1 hz2 rfl _ _ _ rfl (own_empty _ _ _) _ (l.map (Value.int .i64)) rfl r1 (ones_i64 l) (by rw [List.length_map]; show _ ≤ 2^63-1; omega) (by rw [List.length_map]; omega) ?_)
  intro v3 w3 o3 g3 mv3
  have X3 := grow_newblk (World.grownBy_alloc w (.cells #[] 3) none) (newblk_at w w.heap.size 0 0 (Nat.le_refl _) 0) g3
  have N3 := (newblk_at w w.heap.size 0 0 (Nat.le_refl _) 0).moved (World.grownBy_alloc w (.cells #[] 3) none).size mv3
  go_wp2
  go_ret
  exact ⟨v3, rfl, by simpa using RowAt.of_own o3, N3, X3⟩
@[go_sem] theorem Try.eqSpot (a b c d : Int) (w : World) : (Op.equalIn 10000 108 (.agg #[.int .i64 a, .int .i64 b]) (.agg #[.int .i64 c, .int .i64 d])).run Try.prog w = .ok (a == c && b == d) w := by
  have u3 := Try.underlying3
  have hS : Try.prog.underlying 108 = some (.struct (Try.prog.fieldsOf 108)) := by kernel_rfl
  rw [show (10000 : Nat) = 9999 + 1 from rfl, run_equalIn_agg w 9999 108 _ _ hS (by kernel_rfl)]
  simp only [Program.fieldsOf, Try.underlying108]
  go_simp
  by_cases h1 : a = c <;> by_cases h2 : b = d <;> simp [h1, h2]
theorem lit3 (w : World) (a b c : Int) (t : TypeId) : RowAt (w.alloc (.cells #[.int .i64 a, .int .i64 b, .int .i64 c] t)) (.slice (some ⟨w.heap.size, 0, none⟩) 3 3) ([a, b, c].map (Value.int .i64)) := RowAt.lit w ([a, b, c].map (Value.int .i64)) t 3 3 rfl
theorem lit4 (w : World) (a b c d : Int) (t : TypeId) : RowAt (w.alloc (.cells #[.int .i64 a, .int .i64 b, .int .i64 c, .int .i64 d] t)) (.slice (some ⟨w.heap.size, 0, none⟩) 4 4) ([a, b, c, d].map (Value.int .i64)) := RowAt.lit w ([a, b, c, d].map (Value.int .i64)) t 4 4 rfl
set_option maxRecDepth 100000 in
set_option maxHeartbeats 1000000 in
theorem awake17_any (w : World) : Calls Try.prog 75 #[] w fun e w' => e = .returned (.bool true) ∧ w.grownBy w' none := by
  have A1 := lit3 w 1 1 2 3
  have g1 := World.grownBy_alloc w (.cells #[.int .i64 1, .int .i64 1, .int .i64 2] 3) none
  obtain ⟨w1, hw1⟩ : ∃ w1, w1 = w.alloc (.cells #[.int .i64 1, .int .i64 1, .int .i64 2] 3) := ⟨_, rfl⟩
  have s1 : w1.heap.size = w.heap.size + 1 := by rw [hw1]; simp
  rw [← hw1] at A1 g1
  have A2 := lit4 w1 1 1 1 3 3
  have g2 := World.grownBy_alloc w1 (.cells #[.int .i64 1, .int .i64 1, .int .i64 1, .int .i64 3] 3) none
  obtain ⟨w2, hw2⟩ : ∃ w2, w2 = w1.alloc (.cells #[.int .i64 1, .int .i64 1, .int .i64 1, .int .i64 3] 3) := ⟨_, rfl⟩
  have s2 : w2.heap.size = w.heap.size + 2 := by rw [hw2]; simp [s1]
  rw [← hw2] at A2 g2
  rw [s1] at A2
  have A3 := RowAt.lit w2 [.slice (some ⟨w.heap.size, 0, none⟩) 3 3, .slice (some ⟨w.heap.size + 1, 0, none⟩) 4 4] 29 2 2 rfl
  have g3 := World.grownBy_alloc w2 (.cells #[.slice (some ⟨w.heap.size, 0, none⟩) 3 3, .slice (some ⟨w.heap.size + 1, 0, none⟩) 4 4] 29) none
  have R : Rows2 .i64 (w2.alloc (.cells #[.slice (some ⟨w.heap.size, 0, none⟩) 3 3, .slice (some ⟨w.heap.size + 1, 0, none⟩) 4 4] 29)) (.slice (some ⟨w2.heap.size, 0, none⟩) 2 2) [[1, 1, 2], [1, 1, 1, 3]] := by
    refine ⟨[.slice (some ⟨w.heap.size, 0, none⟩) 3 3, .slice (some ⟨w.heap.size + 1, 0, none⟩) 4 4], A3, rfl, fun j hj => ?_⟩
    rcases j with _ | _ | j
    · exact (A1.kept g2).kept g3
    · exact A2.kept g3
    · exact absurd hj (by simp)
  rw [s2] at R
  have G3 := grow_none (grow_none g1 g2) g3
  rw [hw2, hw1] at R G3
  have RH := Lib.hid R
  have GH := Lib.hid G3
  clear hw1 hw2 s1 s2 A1 A2 A3 g1 g2 g3 R G3
  go_enter Try.func75, Try.ntmps75
  go_wp2_with fail
  refine (Common_any _ [[1, 1, 2], [1, 1, 1, 3]] _ RH.out (by decide) (by decide)).mono ?_
  rintro e w4 ⟨rfl, g4⟩
  rw [show cmN [[1, 1, 2], [1, 1, 1, 3]] = 2 from by decide]
  have G4 := grow_none GH.out g4
  have A5 := lit4 w4 1 1 1 3 3
  have G5 := grow_none G4 (World.grownBy_alloc w4 (.cells #[.int .i64 1, .int .i64 1, .int .i64 1, .int .i64 3] 3) none)
  clear g4 G4
  go_wp2_with fail
  refine (Hint_any _ [1, 1, 1, 3] 3 2 _ A5 (by decide) (by omega)).mono ?_
  rintro e w6 ⟨rfl, g6⟩
  rw [show hintN [1, 1, 1, 3] 3 2 = 2 from by decide, show hintE [1, 1, 1, 3] 3 2 = 1 from by decide]
  have G6 := grow_none G5 g6
  have A7 := lit3 w6 1 1 2 3
  have G7 := grow_none G6 (World.grownBy_alloc w6 (.cells #[.int .i64 1, .int .i64 1, .int .i64 2] 3) none)
  clear g6 G6 G5
  go_wp2_with fail
  refine (Next_any _ [1, 1, 2] 2 1 _ A7 (by decide) (by omega)).mono ?_
  rintro e w8 ⟨rfl, g8⟩
  rw [show nextN [1, 1, 2] 2 1 = 2 from by decide]
  go_wp2
  go_ret
  exact ⟨rfl, grow_none G7 g8⟩
end Go.Proofs.Ytkmpcncehicpmaa
