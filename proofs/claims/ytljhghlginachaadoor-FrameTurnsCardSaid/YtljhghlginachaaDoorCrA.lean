/- The check sum as plain functions: a register of 32 bits. -/
import Derived.Test.YtljhghlginachaaDoorB1
namespace Go.Proofs.YtljhghlginachaaDoor
open Go.RowKit
set_option linter.unusedVariables false
/-- The polynomial. -/
def poly : BitVec 32 := 0xedb88320#32
/-- A register is moved down by a bit. -/
def mv (x : BitVec 32) : BitVec 32 := (x >>> 1) ^^^ (if x.getLsbD 0 then poly else 0#32)
theorem mv_xor (x y : BitVec 32) : mv (x ^^^ y) = mv x ^^^ mv y := by
  unfold mv
  rw [BitVec.ushiftRight_xor_distrib, BitVec.getLsbD_xor]
  apply BitVec.eq_of_getLsbD_eq
  intro i hi
  simp only [BitVec.getLsbD_xor]
  generalize (x >>> 1).getLsbD i = p
  generalize (y >>> 1).getLsbD i = q
  cases x.getLsbD 0 <;> cases y.getLsbD 0 <;> simp <;> cases p <;> cases q <;> cases poly.getLsbD i <;> rfl
/-- Moved down k times. -/
def mvs : Nat → BitVec 32 → BitVec 32
  | 0, x => x
  | k + 1, x => mvs k (mv x)
theorem mvs_xor (k : Nat) : ∀ x y : BitVec 32, mvs k (x ^^^ y) = mvs k x ^^^ mvs k y := by
  induction k with
  | zero => intro x y; rfl
  | succ k ih => intro x y; rw [mvs, mvs, mvs, mv_xor, ih]
theorem mvs_add (j k : Nat) : ∀ x : BitVec 32, mvs (j + k) x = mvs k (mvs j x) := by
  induction j with
  | zero => intro x; rw [Nat.zero_add]; rfl
  | succ j ih => intro x; rw [Nat.succ_add, mvs, ih, mvs]
theorem mv_zero : mv 0#32 = 0#32 := by decide
theorem mvs_zero (k : Nat) : mvs k 0#32 = 0#32 := by
  induction k with
  | zero => rfl
  | succ k ih => rw [mvs, mv_zero, ih]
theorem mv_inj {x : BitVec 32} (h : mv x = 0#32) : x = 0#32 := by
  have hp : poly.getLsbD 31 = true := by decide
  have h31 : (mv x).getLsbD 31 = false := by rw [h]; decide
  unfold mv at h h31
  rw [BitVec.getLsbD_xor] at h31
  have hs : (x >>> 1).getLsbD 31 = false := by rw [BitVec.getLsbD_ushiftRight]; exact BitVec.getLsbD_of_ge _ _ (by omega)
  rw [hs, Bool.false_xor] at h31
  cases h0 : x.getLsbD 0 with
  | true => rw [h0, if_pos rfl, hp] at h31; cases h31
  | false =>
    rw [h0] at h
    simp at h
    apply BitVec.eq_of_getLsbD_eq
    intro i hi
    rcases i with _ | i
    · rw [h0]; simp
    · have := congrArg (fun z => z.getLsbD i) h
      simp only [BitVec.getLsbD_ushiftRight] at this
      rw [Nat.add_comm] at this
      rw [this]; simp
theorem mvs_inj (k : Nat) : ∀ x : BitVec 32, mvs k x = 0#32 → x = 0#32 := by
  induction k with
  | zero => intro x h; exact h
  | succ k ih => intro x h; exact mv_inj (ih _ h)
/-- Bits that stand from bit k on only move. -/
theorem mv_low {x : BitVec 32} (h : x.getLsbD 0 = false) : mv x = x >>> 1 := by unfold mv; rw [h]; simp
theorem mvs_low : ∀ (k : Nat) (x : BitVec 32), (∀ i, i < k → x.getLsbD i = false) → mvs k x = x >>> k
  | 0, x, _ => by simp [mvs]
  | k + 1, x, h => by
    rw [mvs, mv_low (h 0 (by omega)), mvs_low k _ (fun i hi => by rw [BitVec.getLsbD_ushiftRight, Nat.add_comm]; exact h (i + 1) (by omega)), ← BitVec.shiftRight_add, Nat.add_comm 1 k]
/-- The table of four bits. -/
def tab4 (x : BitVec 32) : BitVec 32 := mvs 4 (x &&& 15#32)
theorem mvs4 (x : BitVec 32) : mvs 4 x = (x >>> 4) ^^^ tab4 x := by
  have hx : x = (x &&& ~~~15#32) ^^^ (x &&& 15#32) := by
    apply BitVec.eq_of_getLsbD_eq
    intro i hi
    simp only [BitVec.getLsbD_xor, BitVec.getLsbD_and, BitVec.getLsbD_not]
    cases x.getLsbD i <;> cases (15#32).getLsbD i <;> simp [hi]
  have h15 : ∀ i, i < 4 → (15#32).getLsbD i = true := by decide
  have hlow : mvs 4 (x &&& ~~~15#32) = (x &&& ~~~15#32) >>> 4 := mvs_low 4 _ (fun i hi => by
    rw [BitVec.getLsbD_and, BitVec.getLsbD_not, h15 i hi]; simp)
  have hsh : (x &&& ~~~15#32) >>> 4 = x >>> 4 := by
    apply BitVec.eq_of_getLsbD_eq
    intro i hi
    rw [BitVec.getLsbD_ushiftRight, BitVec.getLsbD_ushiftRight, BitVec.getLsbD_and, BitVec.getLsbD_not]
    by_cases h : 4 + i < 32
    · have h15' : (15#32).getLsbD (4 + i) = false := by
        have : ∀ j, j < 32 → 4 ≤ j → (15#32).getLsbD j = false := by decide
        exact this _ h (by omega)
      rw [h15']; simp [h]
    · rw [BitVec.getLsbD_of_ge _ _ (by omega)]; simp
  conv => lhs; rw [hx, mvs_xor, hlow, hsh]
  rfl
/-- A byte is taken. -/
def takeB (r : BitVec 32) (b : UInt8) : BitVec 32 := mvs 8 (r ^^^ BitVec.ofNat 32 b.toNat)
def takes (r : BitVec 32) (l : List UInt8) : BitVec 32 := l.foldl takeB r
def more (s : BitVec 32) (l : List UInt8) : BitVec 32 := ~~~ takes (~~~ s) l
end Go.Proofs.YtljhghlginachaaDoor
