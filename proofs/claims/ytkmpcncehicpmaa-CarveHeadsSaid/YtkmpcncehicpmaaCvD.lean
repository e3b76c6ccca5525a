/- What the package carve does, and what the document's answers are: Join; the document's Cut; many. -/
import Derived.Test.YtkmpcncehicpmaaCvC
import Derived.Test.YtkmpcncehicpmaaShelf
namespace Go.Proofs.Ytkmpcncehicpmaa
open Go.RowKit
set_option linter.unusedVariables false
def allB (l : List ByteArray) : List UInt8 := l.flatMap fun s => s.data.toList
theorem join_nil : ∀ xs : List (List UInt8), Lib.join xs [] = xs.flatten
  | [] => rfl
  | [x] => by simp [Lib.join]
  | x :: y :: xs => by
    have := join_nil (y :: xs)
    simp [Lib.join] at this ⊢
    exact this
theorem join_all (l : List ByteArray) : Lib.join (l.map (·.data.toList)) (ByteArray.data ⟨#[]⟩).toList = allB l := by
  rw [show (ByteArray.data ⟨#[]⟩).toList = ([] : List UInt8) from rfl, join_nil]
  unfold allB
  rw [List.flatMap_def]
set_option maxRecDepth 100000 in
theorem Join_any (v : Value) (l : List ByteArray) (w : World) (hr : RowAt w v (l.map Value.string)) (hc : CapOk v) (hl : l.length ≤ 1000000) (hb : (allB l).length ≤ 100000000) :
    Calls Try.prog 62 #[v] w fun e w' => e = .returned (.string ⟨(allB l).toArray⟩) ∧ w.grownBy w' none := by
  obtain ⟨p, c, rfl⟩ := row_form hr
  have hcap := hc _ _ _ rfl
  have HJ : Calls Try.prog 115 #[.slice p l.length c, .string ⟨#[]⟩] w fun e w' => e = .returned (.string ⟨(allB l).toArray⟩) ∧ w.grownBy w' none := by
    cases hll : l with
    | nil =>
      refine (Try.strings_Join_none p c ⟨#[]⟩ w).mono ?_
      rintro e w' ⟨rfl, rfl⟩
      exact ⟨rfl, grow_refl _ _⟩
    | cons x xs =>
      rw [← hll]
      have hpos : 0 < l.length := by rw [hll]; simp
      obtain ⟨bb, off, rfl, _, hbb⟩ := row_string hr rfl hpos
      refine (Try.strings_Join bb off c l ⟨#[]⟩ w (fun j x hj => ?_) hbb (by omega) hcap (by rw [join_all]; omega)).mono ?_
      · have hjl : j < l.length := (List.getElem?_eq_some_iff.1 hj).1
        obtain ⟨b2, o2, e2, hc2, _⟩ := row_string hr rfl hjl
        injection e2 with e2
        injection e2 with e3 e4
        subst e3 e4
        rw [hc2, List.getD, hj]; rfl
      · rintro e w' ⟨rfl, hbel⟩
        exact ⟨by rw [join_all], none_of_below hbel⟩
  have H := Lib.hid HJ
  clear HJ
  go_enter Try.func62, Try.ntmps62
  go_wp2_with fail
  refine H.out.mono ?_
  rintro e w' ⟨rfl, g⟩
  go_wp2
  go_ret
  exact ⟨rfl, g⟩
end Go.Proofs.Ytkmpcncehicpmaa
