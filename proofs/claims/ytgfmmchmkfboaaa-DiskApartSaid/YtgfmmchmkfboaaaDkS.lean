/- Stage 5: a bit that turns. -/
import Derived.Test.YtgfmmchmkfboaaaDkR
namespace Go.Proofs.Ytgfmmchmkfboaaa
open Go.RowKit
set_option linter.unusedVariables false
def bitB (x : UInt8) (j : Nat) : UInt8 := x ^^^ ((1 : UInt8) <<< UInt8.ofNat j)
theorem bits_all : ∀ (x : Fin 256) (j : Fin 8), bits BinOp.xor IntKind.u8 ((x.val : Nat) : Int) (IntKind.u8.wrap (2 ^ j.val)) = (((bitB (UInt8.ofNat x.val) j.val).toNat : Nat) : Int) := by decide +kernel
theorem bits_any (x : UInt8) (j : Nat) (hj : j < 8) : bits BinOp.xor IntKind.u8 (x.toNat : Int) (IntKind.u8.wrap (2 ^ j)) = ((bitB x j).toNat : Int) := by
  have := bits_all ⟨x.toNat, x.toNat_lt⟩ ⟨j, hj⟩
  simpa using this
/-- The text with a byte of it turned. -/
def turnB (s : ByteArray) (a j : Nat) : ByteArray := (s.extract 0 a ++ ⟨#[bitB (s.data.toList.getD a 0) j]⟩) ++ s.extract (a + 1) s.size
set_option maxRecDepth 100000 in
set_option maxHeartbeats 1000000 in
theorem turned_any (s : ByteArray) (a j : Nat) (w : World) (ha : a < s.size) (hj : j < 8) (hs : s.size ≤ 1048576) :
    Calls Try.prog 53 #[.string s, .int .i64 a, .int .i64 j] w fun e w' => e = .returned (.string (turnB s a j)) ∧ w.grownBy w' none := by
  have i1 : (a : Int) < s.size := by omega
  have i0 : (0 : Int) ≤ a := by omega
  have i2 : (a : Int) ≤ s.size := by omega
  have i3 : (a : Int) + 1 ≤ s.size := by omega
  have i4 : (0 : Int) ≤ (a : Int) + 1 := by omega
  have j0 : (0 : Int) ≤ j := by omega
  have w1 : IntKind.i64.wrap ((a : Int) + 1) = (a : Int) + 1 := by rw [IntKind.wrap_i64]; omega
  have hbit := bits_any s[a] j hj
  obtain ⟨c, hc⟩ : ∃ c, c = bitB s[a] j := ⟨_, rfl⟩
  rw [← hc] at hbit
  have HT : Hid (turnB s a j = (s.extract 0 a ++ ⟨#[c]⟩) ++ s.extract (a + 1) s.size) := by
    show _ = _
    unfold turnB; rw [hc, byte_get s a ha]
  have hown : ∀ W : World, (W.alloc (.cells #[.int .u8 (c.toNat : Int)] 5)).ownsRow 0 5 1 (.slice (some ⟨W.heap.size, 0, none⟩) 1 1) 1 ([c].map c8) := fun W => (Blk.new W 5 ([c].map c8)).own 1 rfl (by decide)
  have q0 := run_str_buf (P := Try.prog) (w.alloc (.cells #[.int .u8 (c.toNat : Int)] 5)) Try.underlying49 Try.underlying5 Try.underlying9 (hown w)
  have q1 := run_str_buf (P := Try.prog) (w.alloc (.cells #[.int .u8 (c.toNat : Int)] 5)).drew Try.underlying49 Try.underlying5 Try.underlying9 (hown w)
  have q2 := fun k : Nat => run_str_buf (P := Try.prog) ((w.alloc (.cells #[.int .u8 (c.toNat : Int)] 5)).drewN k) Try.underlying49 Try.underlying5 Try.underlying9 (hown w)
  have z1 : (s.extract 0 a).size = a := by rw [ByteArray.size_extract]; omega
  have z2 : (s.extract (a + 1) s.size).size = s.size - (a + 1) := by rw [ByteArray.size_extract]; omega
  have z3 : (⟨#[c]⟩ : ByteArray).size = 1 := rfl
  have b1 : ¬ 9223372036854775807 < a + 1 := by omega
  have b2 : ¬ 9223372036854775807 < a + 1 + (s.size - (a + 1)) := by omega
  clear hc hown hs
  go_enter Try.func53, Try.ntmps53
  go_wp2
  go_region_law (fail)
  all_goals
    go_wp2
    go_ret
    exact ⟨by rw [HT.out]; rfl, by first | exact grow_drawn (World.grownBy_alloc _ _ _) | exact grow_drawnN _ (World.grownBy_alloc _ _ _) | exact World.grownBy_alloc _ _ _⟩
end Go.Proofs.Ytgfmmchmkfboaaa
