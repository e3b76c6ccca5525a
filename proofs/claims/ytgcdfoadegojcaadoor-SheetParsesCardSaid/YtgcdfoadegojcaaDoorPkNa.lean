/- Texts are read as they were written: plain facts. -/
import Derived.Test.YtgcdfoadegojcaaDoorPkM
import Derived.Test.YtgcdfoadegojcaaDoorPkLa
namespace Go.Proofs.YtgcdfoadegojcaaDoor
open Go.RowKit
set_option linter.unusedVariables false
/-- A list of bytes as a string. -/
def bs (l : List UInt8) : ByteArray := ⟨l.toArray⟩
theorem bs_size (l : List UInt8) : (bs l).size = l.length := by show l.toArray.size = _; simp
theorem bs_list (l : List UInt8) : (bs l).data.toList = l := by simp [bs]
theorem bs_app (x y : List UInt8) : bs x ++ bs y = bs (x ++ y) := ByteArray.mk_append_mk x y
theorem bs_self (s : ByteArray) : bs s.data.toList = s := by obtain ⟨⟨l⟩⟩ := s; rfl
theorem num_back {n : Int} (hn : -9223372036854775808 ≤ n ∧ n ≤ 9223372036854775807) (more : List UInt8) :
    rNum (bs (numB n ++ more)) false = n ∧ rNumS (bs (numB n ++ more)) false = bs more ∧ rNumB (bs (numB n ++ more)) false = false := by
  have h := getN_back hn more
  refine ⟨?_, nextS_back hn more, ?_⟩
  · show (getN ⟨_⟩).1 = n; rw [h]
  · show (false || nextBad ⟨_⟩) = false
    unfold nextBad
    rw [h]
    have := numB_pos n
    show (((numB n).length : Int) == 0) = false
    rw [beq_eq_false_iff_ne]; omega
theorem extract_bs (l : List UInt8) (a b : Nat) : (bs l).extract a b = bs ((l.drop a).take (b - a)) := ByteArray.extract_mk l a b
theorem text_back (s : ByteArray) (hs : s.size ≤ 9223372036854775807) (more : List UInt8) :
    rText (bs (numB s.size ++ s.data.toList ++ more)) false = s ∧ rTextS (bs (numB s.size ++ s.data.toList ++ more)) false = bs more ∧ rCountB (bs (numB s.size ++ s.data.toList ++ more)) false = false := by
  rw [List.append_assoc]
  have hn : -9223372036854775808 ≤ (s.size : Int) ∧ (s.size : Int) ≤ 9223372036854775807 := by omega
  have h : getN (bs (numB s.size ++ (s.data.toList ++ more))) = ((s.size : Int), (numB s.size).length) := getN_back hn (s.data.toList ++ more)
  have h2 : nextS (bs (numB s.size ++ (s.data.toList ++ more))) = bs (s.data.toList ++ more) := nextS_back hn _
  have h3 : sizeN (bs (numB s.size ++ (s.data.toList ++ more))) = s.size := by
    unfold sizeN
    rw [h2, bs_size, h, List.length_append, size_toList, if_neg (by simp only; omega)]
    rfl
  have h4 : sizeBad (bs (numB s.size ++ (s.data.toList ++ more))) = false := by
    unfold sizeBad nextBad
    rw [h2, bs_size, h, List.length_append, size_toList]
    have := numB_pos (s.size : Int)
    have e1 : decide ((s.size : Int) < 0) = false := by simp
    have e2 : decide (((s.size + more.length : Nat) : Int) < (s.size : Int)) = false := by simp; omega
    have e3 : ((((numB s.size).length : Nat) : Int) == 0) = false := by rw [beq_eq_false_iff_ne]; omega
    simp only [e1, e2, e3, Bool.or_false]
  refine ⟨?_, ?_, ?_⟩
  · show (nextS _).extract 0 (sizeN _) = s
    rw [h2, h3, extract_bs, List.drop_zero, Nat.sub_zero, List.take_left' (size_toList s), bs_self]
  · show (nextS _).extract (sizeN _) (nextS _).size = _
    rw [h2, h3, extract_bs, bs_size, List.drop_left' (size_toList s), List.take_of_length_le (by simp)]
  · show (false || sizeBad _) = false
    rw [h4]; rfl
end Go.Proofs.YtgcdfoadegojcaaDoor
