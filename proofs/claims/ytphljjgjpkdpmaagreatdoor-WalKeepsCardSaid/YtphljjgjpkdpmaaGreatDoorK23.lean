/- Several texts in one: Same. -/
import Derived.Test.YtphljjgjpkdpmaaGreatDoorChecked
import Derived.Test.YtphljjgjpkdpmaaGreatDoorK3
/- The document's Same: two lists of the same texts. -/
namespace Go.Proofs.YtphljjgjpkdpmaaGreatDoor
open Go.RowKit
set_option linter.unusedVariables false
theorem row_string {w : World} {a : Option Addr} {c n : Nat} {l : List ByteArray} {k : Nat} (h : RowAt w (.slice a n c) (l.map Value.string)) (hn : l.length = n) (hk : k < n) :
    ∃ bb off, a = some ⟨bb, off, none⟩ ∧ w.cell? ⟨bb, off + k, none⟩ = some (.string (l.getD k ⟨#[]⟩)) ∧ bb < w.heap.size := by
  subst hn
  obtain ⟨a', c', e, h⟩ := h
  injection e with e1 e2 e3
  subst e1
  rcases h with h | ⟨b, off, rfl, hb, hc⟩
  · have : l = [] := by simpa using h
    subst this; simp at hk
  · exact ⟨b, off, rfl, by rw [hc k (by simpa using hk)]; simp [List.getD, List.getElem?_eq_getElem hk], hb⟩
theorem row_form {w : World} {v : Value} {l : List ByteArray} (h : RowAt w v (l.map Value.string)) : ∃ p c, v = .slice p l.length c := by
  obtain ⟨p, c, e⟩ := h.len
  exact ⟨p, c, by rw [e, List.length_map]⟩
/-- Of how many the two lists are alike. -/
def SameTo (a b : List ByteArray) (k : Nat) : Prop := ∀ j, j < k → a.getD j ⟨#[]⟩ = b.getD j ⟨#[]⟩
theorem same_all {a b : List ByteArray} (hl : a.length = b.length) (h : SameTo a b a.length) : a = b := by
  apply List.ext_getElem hl
  intro i h1 h2
  have := h i h1
  simpa [List.getD, List.getElem?_eq_getElem h1, List.getElem?_eq_getElem h2] using this
theorem bytes_ne {s t : ByteArray} (h : s ≠ t) : (!(s.toList == t.toList)) = true := by
  rw [Bool.not_eq_true', beq_eq_false_iff_ne]
  intro e
  apply h
  have : s.data.toList = t.data.toList := by rw [← ByteArray.toList_eq, ← ByteArray.toList_eq]; exact e
  exact ByteArray.ext (Array.ext' this)
set_option maxRecDepth 100000 in
set_option maxHeartbeats 1000000 in
theorem Same_any (va vb : Value) (a b : List ByteArray) (w : World) (hra : RowAt w va (a.map Value.string)) (hrb : RowAt w vb (b.map Value.string)) (ha : a.length ≤ maxLen) (hb : b.length ≤ maxLen) :
    Calls Tryz.prog 23 #[va, vb] w fun e w' => e = .returned (.bool (decide (a = b))) ∧ w.grownBy w' none := by
  obtain ⟨pa, ca, rfl⟩ := row_form hra
  obtain ⟨pb, cb, rfl⟩ := row_form hrb
  have ia : (a.length : Int) ≤ 9223372036854775807 := by unfold maxLen at ha; omega
  have ib : (b.length : Int) ≤ 9223372036854775807 := by unfold maxLen at hb; omega
  clear ha hb
  by_cases hl : a.length = b.length
  · have hq : ((a.length : Int) != (b.length : Int)) = false := by rw [hl]; simp
    have HL := Lib.hid hl
    clear hl
    go_enter Tryz.func23, Tryz.ntmps23
    go_wp2
    go_loopw [5] (fun i wr => ∃ k : Nat, i = .int .i64 k ∧ k ≤ a.length ∧ SameTo a b k ∧ w.grownBy wr none) (fun i _ => a.length - (intOf i).toNat)
    case atStart => exact ⟨0, rfl, Nat.zero_le _, fun j hj => by omega, grow_refl _ _⟩
    case round =>
      obtain ⟨k, rfl, hk, hs, hg⟩ := hrel
      have HS := Lib.hid hs
      clear hs
      by_cases hlt : k < a.length
      · obtain ⟨b1, o1, rfl, c1, _⟩ := row_string (hra.kept hg) rfl hlt
        obtain ⟨b2, o2, rfl, c2, _⟩ := row_string (hrb.kept hg) rfl (show k < b.length by rw [← HL.out]; exact hlt)
        obtain ⟨x, hx⟩ : ∃ x, x = a.getD k ⟨#[]⟩ := ⟨_, rfl⟩
        obtain ⟨y, hy⟩ : ∃ y, y = b.getD k ⟨#[]⟩ := ⟨_, rfl⟩
        rw [← hx] at c1
        rw [← hy] at c2
        have i1 : (k : Int) < a.length := by omega
        have i2 : (k : Int) < b.length := by have := HL.out; omega
        have i0 : (0 : Int) ≤ k := by omega
        have HX := Lib.hid hx
        have HY := Lib.hid hy
        clear hx hy
        by_cases he : x = y
        · have HH : Hid (a.getD k ⟨#[]⟩ = b.getD k ⟨#[]⟩) := by show _ = _; rw [← HX.out, ← HY.out]; exact he
          subst he
          go_wp2
          go_quiet (fail)
          go_wp2
          go_roundw
          case rel => exact ⟨k + 1, by go_num, by omega, fun j hj => by
            by_cases e : j = k
            · subst e; exact HH.out
            · exact HS.out j (by omega), grow_drawnN _ hg⟩
          case measure => simp [intOf]; omega
        · have hq2 : (!(x.toList == y.toList)) = true := bytes_ne he
          have HF : Hid (decide (a = b) = false) := by
            show _ = _
            rw [decide_eq_false_iff_not]
            intro e
            exact he (by rw [HX.out, HY.out, e])
          clear he
          go_wp2
          go_quiet (fail)
          go_wp2
          go_ret
          exact ⟨by rw [HF.out]; rfl, grow_drawnN _ hg⟩
      · obtain rfl : k = a.length := by omega
        have HF : Hid (decide (a = b) = true) := by
          show _ = _
          rw [decide_eq_true_eq]
          exact same_all HL.out HS.out
        go_wp2
        refine bodyPost_ret (v := .bool true) ?_ ?_ ?_
        · simp [results, go_sem]
        · rfl
        · exact ⟨by rw [HF.out], hg⟩
  · have hq : ((a.length : Int) != (b.length : Int)) = true := by rw [bne_iff_ne]; omega
    have HF : Hid (decide (a = b) = false) := by
      show _ = _
      rw [decide_eq_false_iff_not]
      intro e
      exact hl (by rw [e])
    clear hl
    go_enter Tryz.func23, Tryz.ntmps23
    go_wp2
    go_ret
    exact ⟨by rw [HF.out]; rfl, grow_refl _ _⟩
end Go.Proofs.YtphljjgjpkdpmaaGreatDoor
