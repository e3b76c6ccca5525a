/- Stage 19: the document's rows: what stands in memory while they are built. -/
import Derived.Test.YtjngbmepndhkpaaHuB
import Derived.OneCell
namespace Go.Proofs.Ytjngbmepndhkpaa
open Go.RowKit
set_option linter.unusedVariables false
theorem getD_app_lt {vs : List Value} {x d : Value} {j : Nat} (hj : j < vs.length) : (vs ++ [x]).getD j d = vs.getD j d := by
  rw [List.getD, List.getD, List.getElem?_append_left hj]
theorem getD_app_eq {vs : List Value} {x d : Value} {j : Nat} (hj : j = vs.length) : (vs ++ [x]).getD j d = x := by
  subst hj; rw [List.getD, List.getElem?_append_right (Nat.le_refl _)]; simp
theorem getD_set_eq {vs : List Value} {x d : Value} {j : Nat} (hj : j < vs.length) : (vs.set j x).getD j d = x := by
  rw [List.getD, List.getElem?_set_self hj]; rfl
theorem getD_set_ne {vs : List Value} {x d : Value} {i j : Nat} (h : i ≠ j) : (vs.set i x).getD j d = vs.getD j d := by
  rw [List.getD, List.getD, List.getElem?_set_ne h]
section
variable {w : World} {e : TypeId} {g n c i : Nat} {xs : List Value} {u : Value}
theorem own_cell (h : w.ownsRow 0 e 1 (.slice (some ⟨g, 0, none⟩) n c) n xs) (hi : i < n) : w.cell? ⟨g, i, none⟩ = some (xs.getD i undef) := by
  obtain ⟨a, cap, e1, h2⟩ := RowAt.of_own h
  have hl : xs.length = n := by have := h.1; omega
  injection e1 with e1 _ _
  rcases h2 with h2 | ⟨b, off, e2, _, hc⟩
  · subst h2; simp at hl; omega
  · rw [← e1] at e2
    injection e2 with e2; injection e2 with e2 e3
    subst e2 e3
    have := hc i (by omega)
    rwa [Nat.zero_add] at this
theorem own_frozen (h : w.ownsRow 0 e 1 (.slice (some ⟨g, 0, none⟩) n c) n xs) (i : Nat) : w.frozen? ⟨g, i, none⟩ = false := by
  rcases h.2 with ⟨h1, _⟩ | ⟨g', cap, cur, e1, _, hh, _⟩
  · cases h1
  · injection e1 with e1 _ _; injection e1 with e1; injection e1 with e1
    subst e1
    simp [World.frozen?, hh]
theorem own_set (h : w.ownsRow 0 e 1 (.slice (some ⟨g, 0, none⟩) n c) n xs) (u : Value) : (w.setCell ⟨g, i, none⟩ u).ownsRow 0 e 1 (.slice (some ⟨g, 0, none⟩) n c) n (xs.set i u) := by
  refine ⟨by rw [List.length_set]; exact h.1, .inr ?_⟩
  rcases h.2 with ⟨h1, _⟩ | ⟨g', cap, cur, e1, hb, hh, h2, h3, h4, h5⟩
  · cases h1
  · injection e1 with e1 e2 e3; injection e1 with e1; injection e1 with e1
    subst e1 e3
    refine ⟨g, c, cur.setIfInBounds i u, rfl, Nat.zero_le _, ?_, h2, h3, by simpa using h4, ?_⟩
    · simp [World.setCell, Array.getElem?_modify, hh]
    · rw [Array.toList_setIfInBounds, List.take_set, h5]
end
/-- Of the first k texts those of row j. -/
def chL (l : List ByteArray) (k j : Nat) : List ByteArray := (l.drop (j * 4)).take (min 4 (k - j * 4))
theorem chL_len (l : List ByteArray) (k j : Nat) : (chL l k j).length ≤ 4 := by
  unfold chL; rw [List.length_take]; omega
theorem chL_none (l : List ByteArray) (k j : Nat) (h : k ≤ j * 4) : chL l k j = [] := by
  unfold chL; rw [show min 4 (k - j * 4) = 0 by omega, List.take_zero]
theorem chL_ne (l : List ByteArray) (k j : Nat) (h : j ≠ k / 4) : chL l (k + 1) j = chL l k j := by
  unfold chL; congr 1; omega
theorem chL_snoc (l : List ByteArray) (k : Nat) (hk : k < l.length) : chL l (k + 1) (k / 4) = chL l k (k / 4) ++ [l.getD k ⟨#[]⟩] := by
  unfold chL
  have e1 : min 4 (k - k / 4 * 4) = k % 4 := by omega
  have e2 : min 4 (k + 1 - k / 4 * 4) = k % 4 + 1 := by omega
  have hl : k % 4 < (l.drop (k / 4 * 4)).length := by rw [List.length_drop]; omega
  rw [e1, e2, List.take_succ_eq_append_getElem hl, List.getElem_drop]
  congr 2
  rw [List.getD, List.getElem?_eq_getElem hk]
  simp only [Option.getD_some]
  congr 1; omega
theorem chL_all (l : List ByteArray) (j : Nat) : chL l l.length j = (l.drop (j * 4)).take 4 := by
  unfold chL
  rw [List.take_eq_take_iff, List.length_drop]; omega
/-- The rows that stand behind k texts. -/
structure RowsI (w0 w : World) (v : Value) (l : List ByteArray) (k n : Nat) (vs : List Value) : Prop where
  len : vs.length = n
  own : w.ownsRow 0 28 1 v n vs
  each : ∀ j, j < n → w.ownsRow 0 9 1 (vs.getD j undef) (chL l k j).length ((chL l k j).map Value.string)
  apart : ∀ i j, i < n → j < n → i ≠ j → ∀ b, (vs.getD i undef).ownBlock = some b → (vs.getD j undef).ownBlock ≠ some b
  off : ∀ j, j < n → ∀ b, (vs.getD j undef).ownBlock = some b → v.ownBlock ≠ some b
  new : NewBlk w0 v
  news : ∀ j, j < n → NewBlk w0 (vs.getD j undef)
section
variable {w0 w w1 : World} {v v' : Value} {l : List ByteArray} {k n : Nat} {vs : List Value}
theorem RowsI.start (w0 w : World) (l : List ByteArray) : RowsI w0 w (.slice none 0 0) l 0 0 [] :=
  ⟨rfl, World.ownsRow_nil _ _ _ _, fun j h => by omega, fun i j h => by omega, fun j h => by omega, newblk_nil _, fun j h => by omega⟩
theorem RowsI.kept (h : RowsI w0 w v l k n vs) (g : w.grownBy w1 none) : RowsI w0 w1 v l k n vs :=
  ⟨h.len, own_keep h.own g, fun j hj => own_keep (h.each j hj) g, h.apart, h.off, h.new, h.news⟩
theorem RowsI.push (h : RowsI w0 w v l k n vs) (hk : k ≤ n * 4) (hg : w0.heap.size ≤ w.heap.size) (ho : w1.ownsRow 0 28 1 v' (n + 1) (vs ++ [.slice none 0 0])) (g : w.grownBy w1 v.ownBlock) (m : Moved w v v') : RowsI w0 w1 v' l k (n + 1) (vs ++ [.slice none 0 0]) := by
  have hl := h.len
  have hnil : (Value.slice none 0 0).ownBlock = none := rfl
  refine ⟨by rw [List.length_append, hl]; rfl, ho, fun j hj => ?_, fun i j hi hj hij b => ?_, fun j hj b => ?_, h.new.moved hg m, fun j hj => ?_⟩
  · by_cases h1 : j < n
    · rw [getD_app_lt (by omega)]
      refine (h.each j h1).kept g ?_
      cases hb : (vs.getD j undef).ownBlock with
      | none => exact .inl rfl
      | some b => exact .inr fun e => h.off j h1 b hb e.symm
    · rw [getD_app_eq (by omega), chL_none l k j (by omega)]
      exact World.ownsRow_nil _ _ _ _
  · by_cases h1 : i < n
    · rw [getD_app_lt (by omega)]
      by_cases h2 : j < n
      · rw [getD_app_lt (by omega)]; exact h.apart i j h1 h2 hij b
      · rw [getD_app_eq (by omega), hnil]; intro _; simp
    · rw [getD_app_eq (by omega), hnil]; intro e; cases e
  · by_cases h1 : j < n
    · rw [getD_app_lt (by omega)]
      intro hb
      rcases m with m | ⟨x, hx, m⟩
      · rw [m]; exact h.off j h1 b hb
      · rw [m]; intro e; injection e with e
        have := ((h.each j h1).lt b hb).2
        omega
    · rw [getD_app_eq (by omega), hnil]; intro e; cases e
  · by_cases h1 : j < n
    · rw [getD_app_lt (by omega)]; exact h.news j h1
    · rw [getD_app_eq (by omega)]; exact newblk_nil _
theorem RowsI.store {g c : Nat} {u' : Value} (h : RowsI w0 w (.slice (some ⟨g, 0, none⟩) n c) l k n vs) (hk : k < l.length) (hn : k / 4 + 1 = n) (hg : w0.heap.size ≤ w.heap.size)
    (ho : w1.ownsRow 0 9 1 u' ((chL l k (k / 4)).length + 1) ((chL l k (k / 4)).map Value.string ++ [.string (l.getD k ⟨#[]⟩)])) (g4 : w.grownBy w1 (vs.getD (k / 4) undef).ownBlock) (m : Moved w (vs.getD (k / 4) undef) u') :
    RowsI w0 (w1.setCell ⟨g, k / 4, none⟩ u') (.slice (some ⟨g, 0, none⟩) n c) l (k + 1) n (vs.set (k / 4) u') := by
  have hl := h.len
  have hm : k / 4 < n := by omega
  have hgb : (Value.slice (some ⟨g, 0, none⟩) n c).ownBlock = some g := rfl
  have hglt := (h.own.lt g hgb).2
  have hug : u'.ownBlock ≠ some g := by
    rcases m with m | ⟨x, hx, m⟩
    · rw [m]; intro e; exact h.off _ hm g e hgb
    · rw [m]; intro e; injection e with e; omega
  have hj2 : ∀ j, j < n → j ≠ k / 4 → ∀ b, (vs.getD j undef).ownBlock = some b → u'.ownBlock ≠ some b := by
    intro j hj hne b hb
    rcases m with m | ⟨x, hx, m⟩
    · rw [m]; exact h.apart j _ hj hm hne b hb
    · rw [m]; intro e; injection e with e
      have := ((h.each j hj).lt b hb).2
      omega
  refine ⟨by rw [List.length_set, hl], ?_, fun j hj => ?_, fun i j hi hj hij b => ?_, fun j hj b => ?_, h.new, fun j hj => ?_⟩
  · refine own_set (h.own.kept g4 (.inr ?_)) u'
    rw [hgb]; intro e; exact h.off _ hm g e.symm hgb
  · by_cases h1 : j = k / 4
    · subst h1
      rw [getD_set_eq (by omega), chL_snoc l k hk, List.length_append, List.map_append]
      exact ownsRow_setCell_other ho hug u'
    · rw [getD_set_ne (Ne.symm h1), chL_ne l k j h1]
      refine ownsRow_setCell_other ((h.each j hj).kept g4 ?_) ?_ u'
      · cases hb : (vs.getD j undef).ownBlock with
        | none => exact .inl rfl
        | some b => exact .inr fun e => h.apart j _ hj hm h1 b hb e.symm
      · intro e; exact h.off j hj g e hgb
  · by_cases h1 : i = k / 4
    · subst h1
      rw [getD_set_eq (by omega), getD_set_ne hij]
      intro hb e
      exact hj2 j hj (Ne.symm hij) b e hb
    · rw [getD_set_ne (Ne.symm h1)]
      intro hb
      by_cases h2 : j = k / 4
      · subst h2; rw [getD_set_eq (by omega)]; exact hj2 i hi h1 b hb
      · rw [getD_set_ne (Ne.symm h2)]; exact h.apart i j hi hj hij b hb
  · by_cases h1 : j = k / 4
    · subst h1
      rw [getD_set_eq (by omega)]
      intro hb e
      rw [hgb] at e; injection e with e
      subst e; exact hug hb
    · rw [getD_set_ne (Ne.symm h1)]; exact h.off j hj b
  · by_cases h1 : j = k / 4
    · subst h1
      rw [getD_set_eq (by omega)]; exact (h.news _ hm).moved hg m
    · rw [getD_set_ne (Ne.symm h1)]; exact h.news j hj
end
end Go.Proofs.Ytjngbmepndhkpaa
