/- What the package pack's Text does. -/
import Derived.Test.YtljhghlginachaaDoorPkC
namespace Go.Proofs.YtljhghlginachaaDoor
open Go.RowKit
set_option linter.unusedVariables false
def strv (s : ByteArray) : Value := .string s
/-- The bytes of texts. -/
def textsB (l : List ByteArray) : List UInt8 := l.flatMap fun s => numB s.size ++ s.data.toList
/-- How much room is asked for. -/
def roomB (l : List ByteArray) : Nat := (l.map fun s => s.size + 10).sum
theorem textsB_snoc (l : List ByteArray) (s : ByteArray) : textsB (l ++ [s]) = textsB l ++ (numB s.size ++ s.data.toList) := by simp [textsB]
theorem roomB_snoc (l : List ByteArray) (s : ByteArray) : roomB (l ++ [s]) = roomB l + (s.size + 10) := by simp [roomB]
theorem roomB_take (l : List ByteArray) (k : Nat) : roomB (l.take k) ≤ roomB l := by
  induction l generalizing k with
  | nil => simp [roomB]
  | cons s l ih =>
    cases k with
    | zero => simp [roomB]
    | succ k => have := ih k; simp [roomB] at *; omega
theorem size_toList (s : ByteArray) : s.data.toList.length = s.size := by rw [Array.length_toList]; rfl
theorem textsB_len (l : List ByteArray) (h : roomB l ≤ 1000000000000) : (textsB l).length ≤ roomB l := by
  induction l with
  | nil => simp [textsB]
  | cons s l ih =>
    have e : roomB (s :: l) = s.size + 10 + roomB l := by simp only [roomB, List.map_cons, List.sum_cons]
    have h2 := ih (by omega)
    have h1 := numB_len (n := (s.size : Int)) (by omega)
    have e2 : textsB (s :: l) = (numB s.size ++ s.data.toList) ++ textsB l := by simp only [textsB, List.flatMap_cons]
    rw [e2, List.length_append, List.length_append, size_toList]
    omega
end Go.Proofs.YtljhghlginachaaDoor
