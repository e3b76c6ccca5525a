/- The document's Same: two lists of the same texts. -/
import Derived.Test.YtamkalgbimifkaaDoorChecked
import Derived.Test.YtamkalgbimifkaaDoorB2
namespace Go.Proofs.YtamkalgbimifkaaDoor
open Go.RowKit
set_option linter.unusedVariables false
theorem row_string {w : World} {a : Option Addr} {c n : Nat} {l : List ByteArray} {k : Nat} (h : RowAt w (.slice a n c) (l.map Value.string)) (hn : l.length = n) (hk : k < n) :
    ∃ bb off, a = some ⟨bb, off, none⟩ ∧ w.cell? ⟨bb, off + k, none⟩ = some (.string (l.getD k ⟨#[]⟩)) ∧ bb < w.heap.size := by
  subst hn
  obtain ⟨a', c', e, h⟩ := h
  injection e with e1 e2 e3
  subst e1
  rcases h with h | ⟨b, off, rfl, hb, hc⟩
  · have : l = [] := by simpa using h
    subst this; simp at hk
  · exact ⟨b, off, rfl, by rw [hc k (by simpa using hk)]; simp [List.getD, List.getElem?_eq_getElem hk], hb⟩
theorem row_form {w : World} {v : Value} {l : List ByteArray} (h : RowAt w v (l.map Value.string)) : ∃ p c, v = .slice p l.length c := by
  obtain ⟨p, c, e⟩ := h.len
  exact ⟨p, c, by rw [e, List.length_map]⟩
/-- Of how many the two lists are alike. -/
def SameTo (a b : List ByteArray) (k : Nat) : Prop := ∀ j, j < k → a.getD j ⟨#[]⟩ = b.getD j ⟨#[]⟩
theorem same_all {a b : List ByteArray} (hl : a.length = b.length) (h : SameTo a b a.length) : a = b := by
  apply List.ext_getElem hl
  intro i h1 h2
  have := h i h1
  simpa [List.getD, List.getElem?_eq_getElem h1, List.getElem?_eq_getElem h2] using this
theorem bytes_ne {s t : ByteArray} (h : s ≠ t) : (!(s.toList == t.toList)) = true := by
  rw [Bool.not_eq_true', beq_eq_false_iff_ne]
  intro e
  apply h
  have : s.data.toList = t.data.toList := by rw [← ByteArray.toList_eq, ← ByteArray.toList_eq]; exact e
  exact ByteArray.ext (Array.ext' this)
end Go.Proofs.YtamkalgbimifkaaDoor
