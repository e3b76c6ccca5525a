/- What the package bucket does, and what the document's bucket does. -/
import Derived.Test.YtkmpcncehicpmaaChecked
import Derived.Test.YtkmpcncehicpmaaB2
import Derived.Test.YtkmpcncehicpmaaRel
import Derived.Outline
namespace Go.Proofs.Ytkmpcncehicpmaa
open Go.RowKit
set_option linter.unusedVariables false
/-- A bucket of type t lies in block b. -/
def Bk (t : TypeId) (w : World) (b : Nat) (r u h : Int) : Prop := Blk w b t [.int .i64 r, .int .i64 u, .int .i64 h]
structure BOk (r u h : Int) : Prop where
  r1 : 1 ≤ r
  r2 : r ≤ 4096
  u1 : 64 ≤ u
  u2 : u ≤ 16384
  h1 : 0 ≤ h
  h2 : h ≤ u
section
variable {t : TypeId} {w w' : World} {b : Nat} {r u h : Int}
theorem Bk.lt (x : Bk t w b r u h) : b < w.heap.size := Blk.lt x
theorem Bk.c0 (x : Bk t w b r u h) : w.cell? ⟨b, 0, none⟩ = some (.int .i64 r) := Blk.cell x 0 (by simp)
theorem Bk.c1 (x : Bk t w b r u h) : w.cell? ⟨b, 1, none⟩ = some (.int .i64 u) := Blk.cell x 1 (by simp)
theorem Bk.c2 (x : Bk t w b r u h) : w.cell? ⟨b, 2, none⟩ = some (.int .i64 h) := Blk.cell x 2 (by simp)
theorem Bk.fr (x : Bk t w b r u h) (i : Nat) : w.frozen? ⟨b, i, none⟩ = false := Blk.frozen x i
theorem Bk.set2 (x : Bk t w b r u h) (v : Int) : Bk t (w.setCell ⟨b, 2, none⟩ (.int .i64 v)) b r u v := Blk.set_ x 2 _
theorem Bk.drew (x : Bk t w b r u h) : Bk t w.drew b r u h := x
theorem Bk.kept (x : Bk t w b r u h) {row : Option Nat} (hb : w.grownBy w' row) (hg : some b ≠ row) : Bk t w' b r u h := Blk.kept x hb hg
theorem Bk.keep (x : Bk t w b r u h) (hb : w.grownBy w' none) : Bk t w' b r u h := Blk.keep x hb
end
def newOk (r u : Int) : Bool := decide (1 ≤ r ∧ r ≤ 4096 ∧ 64 ≤ u ∧ u ≤ 16384)
/-- What goes of these sizes, and what is left. -/
def takeN : List Int → Int → Nat
  | [], _ => 0
  | s :: l, h => if s < 0 ∨ h < s then 0 else takeN l (h - s) + 1
def takeL : List Int → Int → Int
  | [], h => h
  | s :: l, h => if s < 0 ∨ h < s then h else takeL l (h - s)
def tickH (r u h : Int) : Int := if h + r ≤ u then h + r else u
theorem BOk.tick {r u h : Int} (o : BOk r u h) : BOk r u (tickH r u h) := by
  obtain ⟨a, b, c, d, e, f⟩ := o
  unfold tickH
  constructor <;> (try assumption) <;> split <;> omega
theorem takeL_bd : ∀ (l : List Int) (h : Int), 0 ≤ h → 0 ≤ takeL l h ∧ takeL l h ≤ h
  | [], h, h0 => ⟨h0, Int.le_refl _⟩
  | s :: l, h, h0 => by
    unfold takeL
    split
    · exact ⟨h0, Int.le_refl _⟩
    · rename_i hn
      have := takeL_bd l (h - s) (by omega)
      omega
theorem BOk.take {r u h : Int} (o : BOk r u h) (l : List Int) : BOk r u (takeL l h) := by
  obtain ⟨a, b, c, d, e, f⟩ := o
  have := takeL_bd l h e
  exact ⟨a, b, c, d, by omega, by omega⟩
theorem takeN_le : ∀ (l : List Int) (h : Int), takeN l h ≤ l.length
  | [], _ => Nat.le_refl _
  | s :: l, h => by
    unfold takeN
    split
    · omega
    · have := takeN_le l (h - s); simp; omega
/-- The first k go, and leave h'. -/
theorem take_step : ∀ (l : List Int) (h : Int) (k : Nat) (h' : Int), k < l.length → takeN l h = takeN (l.drop k) h' + k → takeL l h = takeL (l.drop k) h' → ¬ (l.getD k 0 < 0 ∨ h' < l.getD k 0) →
    takeN l h = takeN (l.drop (k + 1)) (h' - l.getD k 0) + (k + 1) ∧ takeL l h = takeL (l.drop (k + 1)) (h' - l.getD k 0)
  | l, h, k, h', hk, h1, h2, hn => by
    have e : l.drop k = l.getD k 0 :: l.drop (k + 1) := by
      rw [List.drop_eq_getElem_cons hk]; simp [List.getD, List.getElem?_eq_getElem hk]
    rw [e, takeN, if_neg hn] at h1
    rw [e, takeL, if_neg hn] at h2
    exact ⟨by omega, h2⟩
theorem take_stop (l : List Int) (h : Int) (k : Nat) (h' : Int) (hk : k < l.length) (h1 : takeN l h = takeN (l.drop k) h' + k) (h2 : takeL l h = takeL (l.drop k) h') (hn : l.getD k 0 < 0 ∨ h' < l.getD k 0) :
    takeN l h = k ∧ takeL l h = h' := by
  have e : l.drop k = l.getD k 0 :: l.drop (k + 1) := by
    rw [List.drop_eq_getElem_cons hk]; simp [List.getD, List.getElem?_eq_getElem hk]
  rw [e, takeN, if_pos hn] at h1
  rw [e, takeL, if_pos hn] at h2
  exact ⟨by omega, h2⟩
theorem take_end (l : List Int) (h : Int) (h' : Int) (h1 : takeN l h = takeN (l.drop l.length) h' + l.length) (h2 : takeL l h = takeL (l.drop l.length) h') : takeN l h = l.length ∧ takeL l h = h' := by
  rw [List.drop_length, takeN] at h1
  rw [List.drop_length, takeL] at h2
  exact ⟨by omega, h2⟩
theorem row_i64 {w : World} {a : Option Addr} {c : Nat} {l : List Int} {k : Nat} (h : RowAt w (.slice a l.length c) (l.map (Value.int .i64))) (hk : k < l.length) :
    ∃ bb off, a = some ⟨bb, off, none⟩ ∧ w.cell? ⟨bb, off + k, none⟩ = some (.int .i64 (l.getD k 0)) ∧ bb < w.heap.size := by
  obtain ⟨a', c', e, h⟩ := h
  injection e with e1 e2 e3
  subst e1
  rcases h with h | ⟨b, off, rfl, hb, hc⟩
  · have : l = [] := by simpa using h
    subst this; simp at hk
  · exact ⟨b, off, rfl, by rw [hc k (by simpa using hk)]; simp [List.getD, List.getElem?_eq_getElem hk], hb⟩
set_option maxRecDepth 100000 in
theorem New_ok (r u : Int) (w : World) (h : 1 ≤ r ∧ r ≤ 4096 ∧ 64 ≤ u ∧ u ≤ 16384) :
    Calls Try.prog 66 #[.int .i64 r, .int .i64 u] w fun e w' => e = .returned (.tuple #[.pointer (some ⟨w.heap.size, 0, none⟩), .int .i64 0]) ∧ w' = w.alloc (.cells #[.int .i64 r, .int .i64 u, .int .i64 u] 148) := by
  obtain ⟨h1, h2, h3, h4⟩ := h
  have d1 : decide (r < 1) = false := by simp; omega
  have d2 : decide (4096 < r) = false := by simp; omega
  have d3 : decide (u < 64) = false := by simp; omega
  have d4 : decide (16384 < u) = false := by simp; omega
  go_enter Try.func66, Try.ntmps66
  go_wp2
  go_ret2
  exact ⟨rfl, rfl⟩
set_option maxRecDepth 100000 in
theorem New_bad (r u : Int) (w : World) (h : ¬ (1 ≤ r ∧ r ≤ 4096 ∧ 64 ≤ u ∧ u ≤ 16384)) :
    Calls Try.prog 66 #[.int .i64 r, .int .i64 u] w fun e w' => e = .returned (.tuple #[.pointer none, .int .i64 1]) ∧ w = w' := by
  have hc : (decide (r < 1) = true) ∨ (decide (r < 1) = false ∧ decide (4096 < r) = true) ∨ (decide (r < 1) = false ∧ decide (4096 < r) = false ∧ decide (u < 64) = true) ∨ (decide (r < 1) = false ∧ decide (4096 < r) = false ∧ decide (u < 64) = false ∧ decide (16384 < u) = true) := by
    simp only [decide_eq_true_eq, decide_eq_false_iff_not]; omega
  clear h
  rcases hc with d1 | ⟨d1, d2⟩ | ⟨d1, d2, d3⟩ | ⟨d1, d2, d3, d4⟩
  all_goals
    go_enter Try.func66, Try.ntmps66
    go_wp2
    go_ret2
    exact ⟨rfl, rfl⟩
set_option maxRecDepth 100000 in
theorem refNew_ok (r u : Int) (w : World) (h : 1 ≤ r ∧ r ≤ 4096 ∧ 64 ≤ u ∧ u ≤ 16384) :
    Calls Try.prog 67 #[.int .i64 r, .int .i64 u] w fun e w' => e = .returned (.tuple #[.pointer (some ⟨w.heap.size, 0, none⟩), .int .i64 0]) ∧ w' = w.alloc (.cells #[.int .i64 r, .int .i64 u, .int .i64 u] 100) := by
  obtain ⟨h1, h2, h3, h4⟩ := h
  have d1 : decide (r < 1) = false := by simp; omega
  have d2 : decide (4096 < r) = false := by simp; omega
  have d3 : decide (u < 64) = false := by simp; omega
  have d4 : decide (16384 < u) = false := by simp; omega
  go_enter Try.func67, Try.ntmps67
  go_wp2
  go_ret2
  exact ⟨rfl, rfl⟩
set_option maxRecDepth 100000 in
theorem refNew_bad (r u : Int) (w : World) (h : ¬ (1 ≤ r ∧ r ≤ 4096 ∧ 64 ≤ u ∧ u ≤ 16384)) :
    Calls Try.prog 67 #[.int .i64 r, .int .i64 u] w fun e w' => e = .returned (.tuple #[.pointer none, .int .i64 1]) ∧ w = w' := by
  have hc : (decide (r < 1) = true) ∨ (decide (r < 1) = false ∧ decide (4096 < r) = true) ∨ (decide (r < 1) = false ∧ decide (4096 < r) = false ∧ decide (u < 64) = true) ∨ (decide (r < 1) = false ∧ decide (4096 < r) = false ∧ decide (u < 64) = false ∧ decide (16384 < u) = true) := by
    simp only [decide_eq_true_eq, decide_eq_false_iff_not]; omega
  clear h
  rcases hc with d1 | ⟨d1, d2⟩ | ⟨d1, d2, d3⟩ | ⟨d1, d2, d3, d4⟩
  all_goals
    go_enter Try.func67, Try.ntmps67
    go_wp2
    go_ret2
    exact ⟨rfl, rfl⟩
set_option maxRecDepth 100000 in
theorem Tick_any (b : Nat) (r u h : Int) (w : World) (x : Bk 148 w b r u h) (o : BOk r u h) :
    Calls Try.prog 73 #[.pointer (some ⟨b, 0, none⟩)] w fun e w' => e = .returned (.tuple #[]) ∧ Bk 148 w' b r u (tickH r u h) ∧ w.grownBy w' (some b) := by
  have c0 := x.c0
  have c1 := x.c1
  have c2 := x.c2
  have f2 := x.fr 2
  obtain ⟨o1, o2, o3, o4, o5, o6⟩ := o
  have ho : h ≤ 16384 := by omega
  by_cases hm : h + r ≤ u
  · have ht : Hid (tickH r u h = h + r) := by show _ = _; unfold tickH; rw [if_pos hm]
    go_enter Try.func73, Try.ntmps73
    go_wp2
    go_region
    all_goals
      go_wp2
      go_end0
      exact ⟨rfl, by rw [ht.out]; exact (x.set2 _).drew, grow_drawn (grow_set _ _ _)⟩
  · have ht : Hid (tickH r u h = u) := by show _ = _; unfold tickH; rw [if_neg hm]
    have hm' : u < h + r := by omega
    go_enter Try.func73, Try.ntmps73
    go_wp2
    go_region
    all_goals
      go_wp2
      go_end0
      exact ⟨rfl, by rw [ht.out]; exact (x.set2 _).drew, grow_drawn (grow_set _ _ _)⟩
end Go.Proofs.Ytkmpcncehicpmaa
