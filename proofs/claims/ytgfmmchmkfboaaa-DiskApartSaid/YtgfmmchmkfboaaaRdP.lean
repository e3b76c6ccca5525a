/- A drive and the document's: what they have alike: pure facts. -/
import Derived.Test.YtgfmmchmkfboaaaRdE
import Derived.Test.YtgfmmchmkfboaaaRdF
import Derived.Test.YtgfmmchmkfboaaaRdG
import Derived.Test.YtgfmmchmkfboaaaRdH
import Derived.Test.YtgfmmchmkfboaaaDkX
namespace Go.Proofs.Ytgfmmchmkfboaaa
open Go.RowKit
set_option linter.unusedVariables false
/-- The file of a name, as the document has it. -/
def mkR (x : ByteArray) (e : Ent) : Rf := ⟨x, e.l, e.w, e.s⟩
def key (f : Rf) : List UInt8 := f.n.data.toList
def SortedR (L : List Rf) : Prop := (rnm L).Pairwise (· < ·)
structure Cor (d : Dk) (r : Rk) : Prop where
  srt : SortedR r.L
  mem : ∀ x e, d.F x = some e ↔ mkR x e ∈ r.L
  firm : ∀ f ∈ r.L, f.s = false → f.l.size = 0
  left : r.left = if d.lit = true then (d.fuse : Int) else -1
  off : r.off = d.down
  cnt : r.cnt = d.steps
theorem ltB_eq (a b : ByteArray) : ltB a b = decide (a.data.toList < b.data.toList) := by
  unfold ltB
  rw [bytesLess_eq, ByteArray.toList_eq, ByteArray.toList_eq]
theorem key_eq {a b : ByteArray} (h : a.data.toList = b.data.toList) : a = b := ByteArray.ext (Array.toList_inj.1 h)
theorem mkR_eta (f : Rf) : mkR f.n ⟨f.l, f.w, f.s⟩ = f := rfl
theorem SortedR.get {L : List Rf} (h : SortedR L) {i j : Nat} (hi : i < L.length) (hj : j < L.length) (hij : i < j) : L[i].n.data.toList < L[j].n.data.toList := by
  have := (List.pairwise_iff_getElem.1 h) i j (by rw [rnm_len]; exact hi) (by rw [rnm_len]; exact hj) hij
  unfold rnm at this
  rwa [List.getElem_map, List.getElem_map] at this
theorem SortedR.inj {L : List Rf} (h : SortedR L) {i j : Nat} (hi : i < L.length) (hj : j < L.length) (e : L[i].n = L[j].n) : i = j := by
  rcases Nat.lt_trichotomy i j with x | x | x
  · have := h.get hi hj x; rw [e] at this; exact absurd this (List.lt_irrefl _)
  · exact x
  · have := h.get hj hi x; rw [e] at this; exact absurd this (List.lt_irrefl _)
theorem SortedR.uniq {L : List Rf} (h : SortedR L) {f g : Rf} (hf : f ∈ L) (hg : g ∈ L) (e : f.n = g.n) : f = g := by
  obtain ⟨i, hi, rfl⟩ := List.mem_iff_getElem.1 hf
  obtain ⟨j, hj, rfl⟩ := List.mem_iff_getElem.1 hg
  obtain rfl := h.inj hi hj e
  rfl
/-- Where a file is, its place is. -/
theorem SortedR.place {L : List Rf} (h : SortedR L) {f : Rf} (hf : f ∈ L) : L[placeL L f.n]? = some f ∧ isAt L f.n = true := by
  obtain ⟨j, hj, rfl⟩ := List.mem_iff_getElem.1 hf
  have h1 : placeL L L[j].n = j := by
    have a1 := place_stop (s := L[j].n) hj (by rw [ltB_eq]; exact decide_eq_false (List.lt_irrefl _))
    have a2 := place_up (s := L[j].n) (L := L) (k := j) (fun i hi hij => by rw [ltB_eq]; exact decide_eq_true (h.get hi hj hij)) (by omega)
    omega
  have h2 : L[placeL L L[j].n]? = some L[j] := by rw [h1, List.getElem?_eq_getElem]
  refine ⟨h2, ?_⟩
  unfold isAt
  rw [h2]
  exact decide_eq_true rfl
section
variable {d : Dk} {r : Rk} {s : ByteArray}
theorem Cor.there (h : Cor d r) {e : Ent} (he : d.F s = some e) : r.L[placeL r.L s]? = some (mkR s e) ∧ isAt r.L s = true := by
  have hm := (h.mem s e).1 he
  exact h.srt.place hm
theorem Cor.notThere (h : Cor d r) (he : d.F s = none) : isAt r.L s = false := by
  cases ha : isAt r.L s
  · rfl
  · obtain ⟨f, hf, hn, _⟩ := isAt_yes ha
    have hm := List.mem_of_getElem? hf
    have := (h.mem f.n ⟨f.l, f.w, f.s⟩).2 hm
    rw [hn, he] at this; cases this
theorem Cor.ent (h : Cor d r) : entR r s = mkR s (entOf d s) := by
  cases he : d.F s with
  | none =>
    have := h.notThere he
    unfold entR entOf
    rw [if_neg (by rw [this]; simp), he]; rfl
  | some e =>
    obtain ⟨h1, h2⟩ := h.there he
    unfold entR entOf
    rw [if_pos h2, he, List.getD, h1]; rfl
theorem Cor.getD (h : Cor d r) {e : Ent} (he : d.F s = some e) (z : Rf) : r.L.getD (placeL r.L s) z = mkR s e := by
  rw [List.getD, (h.there he).1]; rfl
theorem Cor.step (h : Cor d r) : rstepB r = decide (stepC d = 0) ∧ Cor (stepD d) (rstepD r) := by
  have hl := h.left
  by_cases hs : d.lit = true ∧ d.fuse = 0
  · have h0 : r.left = 0 := by rw [hl, if_pos hs.1, hs.2]; rfl
    have e1 : stepC d = 50 := by unfold stepC; rw [if_pos hs]
    refine ⟨by rw [e1]; unfold rstepB; rw [h0]; rfl, ?_⟩
    unfold stepD rstepD
    rw [if_pos hs, if_pos h0]
    exact ⟨h.srt, h.mem, h.firm, hl, rfl, h.cnt⟩
  · have h0 : ¬ r.left = 0 := by
      rw [hl]
      split
      · rename_i hlit
        intro e
        exact hs ⟨hlit, by omega⟩
      · omega
    have e1 : stepC d = 0 := by unfold stepC; rw [if_neg hs]
    refine ⟨by rw [e1]; unfold rstepB; rw [decide_eq_true h0]; rfl, ?_⟩
    unfold stepD rstepD
    rw [if_neg hs, if_neg h0]
    refine ⟨h.srt, h.mem, h.firm, ?_, h.off, by dsimp only; rw [h.cnt]⟩
    dsimp only
    rw [hl]
    split
    · rename_i hlit
      have : d.fuse ≠ 0 := fun e => hs ⟨hlit, e⟩
      rw [if_pos (by omega)]; omega
    · rw [if_neg (by omega)]
/-- One file is another one, or is new. -/
theorem Cor.put (h : Cor d r) (y : Ent) (L' : List Rf) (hs : SortedR L') (hm : ∀ g, g ∈ L' ↔ g = mkR s y ∨ (g ∈ r.L ∧ g.n ≠ s)) (hf : y.s = false → y.l.size = 0) :
    Cor { d with F := putE d.F s (some y) } { r with L := L' } := by
  refine ⟨hs, fun x e => ?_, fun f hf' hfs => ?_, h.left, h.off, h.cnt⟩
  · show putE d.F s (some y) x = some e ↔ _
    rw [hm]
    unfold putE
    by_cases hx : x = s
    · subst hx
      rw [if_pos rfl]
      constructor
      · intro e1; injection e1 with e1; subst e1; exact .inl rfl
      · rintro (e1 | ⟨_, e1⟩)
        · unfold mkR at e1
          injection e1 with _ e2 e3 e4
          obtain ⟨_, _, _⟩ := e
          obtain ⟨_, _, _⟩ := y
          dsimp only at e2 e3 e4
          rw [e2, e3, e4]
        · exact absurd rfl e1
    · rw [if_neg hx, h.mem]
      constructor
      · intro e1; exact .inr ⟨e1, hx⟩
      · rintro (e1 | ⟨e1, _⟩)
        · unfold mkR at e1
          injection e1 with e2 _ _ _
          exact absurd e2 hx
        · exact e1
  · rcases (hm f).1 hf' with e1 | ⟨e1, _⟩
    · rw [e1] at hfs ⊢; exact hf hfs
    · exact h.firm f e1 hfs
theorem Cor.del (h : Cor d r) (L' : List Rf) (hs : SortedR L') (hm : ∀ g, g ∈ L' ↔ (g ∈ r.L ∧ g.n ≠ s)) : Cor { d with F := putE d.F s none } { r with L := L' } := by
  refine ⟨hs, fun x e => ?_, fun f hf' hfs => ?_, h.left, h.off, h.cnt⟩
  · show putE d.F s none x = some e ↔ _
    rw [hm]
    unfold putE
    by_cases hx : x = s
    · subst hx
      rw [if_pos rfl]
      exact ⟨fun e => (by cases e), fun e => absurd rfl e.2⟩
    · rw [if_neg hx, h.mem]
      exact ⟨fun e1 => ⟨e1, hx⟩, fun e1 => e1.1⟩
  · exact h.firm f ((hm f).1 hf').1 hfs
end
theorem rnm_set {L : List Rf} {k : Nat} {f y : Rf} (hk : L[k]? = some f) (hn : y.n = f.n) : rnm (L.set k y) = rnm L := by
  unfold rnm
  rw [List.map_set, hn]
  apply List.ext_getElem?
  intro i
  rw [List.getElem?_set]
  split
  · rename_i e
    subst e
    rw [List.length_map]
    have hlt := (List.getElem?_eq_some_iff.1 hk).1
    rw [if_pos hlt, List.getElem?_map, hk]; rfl
  · rfl
theorem set_mem {L : List Rf} (h : SortedR L) {k : Nat} {f y : Rf} (hk : L[k]? = some f) (hn : y.n = f.n) (g : Rf) : g ∈ L.set k y ↔ g = y ∨ (g ∈ L ∧ g.n ≠ f.n) := by
  obtain ⟨hlt, hfk⟩ := List.getElem?_eq_some_iff.1 hk
  constructor
  · intro hg
    obtain ⟨i, hi, rfl⟩ := List.mem_iff_getElem.1 hg
    rw [List.length_set] at hi
    by_cases e : k = i
    · subst e; left; rw [List.getElem_set_self]
    · right
      rw [List.getElem_set_ne e]
      exact ⟨List.getElem_mem hi, fun x => e ((h.inj hi hlt (by rw [x, hfk])).symm)⟩
  · rintro (rfl | ⟨hg, hne⟩)
    · exact List.mem_iff_getElem.2 ⟨k, by rw [List.length_set]; exact hlt, by rw [List.getElem_set_self]⟩
    · obtain ⟨i, hi, rfl⟩ := List.mem_iff_getElem.1 hg
      have e : k ≠ i := fun e => by subst e; exact hne (by rw [hfk])
      exact List.mem_iff_getElem.2 ⟨i, by rw [List.length_set]; exact hi, by rw [List.getElem_set_ne e]⟩
theorem place_before {L : List Rf} {s : ByteArray} {i : Nat} (hi : i < L.length) (h : i < placeL L s) : L[i].n.data.toList < s.data.toList := by
  by_cases hb : ltB L[i].n s = true
  · rw [ltB_eq] at hb; exact of_decide_eq_true hb
  · have := place_stop (s := s) hi (by simpa using hb)
    omega
theorem place_behind {L : List Rf} {s : ByteArray} (h : placeL L s < L.length) : ¬ L[placeL L s].n.data.toList < s.data.toList := by
  intro hb
  have h1 := place_up (s := s) (L := L) (k := placeL L s + 1) (fun j hj hjk => by
    rw [ltB_eq]
    by_cases e : j = placeL L s
    · subst e; exact decide_eq_true hb
    · exact decide_eq_true (place_before hj (by omega))) (by omega)
  omega
theorem insert_sorted {L : List Rf} (h : SortedR L) {s : ByteArray} (hn : isAt L s = false) (y : Rf) (hy : y.n = s) : SortedR (L.take (placeL L s) ++ [y] ++ L.drop (placeL L s)) := by
  have hpl := place_le L s
  unfold SortedR rnm
  rw [List.map_append, List.map_append, List.map_singleton, List.append_assoc, List.pairwise_append]
  have hs := h
  unfold SortedR rnm at hs
  refine ⟨?_, ?_, ?_⟩
  · rw [List.map_take]; exact hs.sublist (List.take_sublist _ _)
  · rw [List.singleton_append, List.pairwise_cons]
    refine ⟨fun x hx => ?_, by rw [List.map_drop]; exact hs.sublist (List.drop_sublist _ _)⟩
    obtain ⟨g, hg, rfl⟩ := List.mem_map.1 hx
    obtain ⟨i, hi, rfl⟩ := List.mem_iff_getElem.1 hg
    rw [List.length_drop] at hi
    rw [List.getElem_drop]
    have hp : placeL L s < L.length := by omega
    have h1 : s.data.toList < L[placeL L s].n.data.toList := by
      rcases List.le_iff_lt_or_eq.1 (List.not_lt.1 (place_behind hp)) with x | x
      · exact x
      · exfalso
        have : isAt L s = true := by
          unfold isAt
          rw [List.getElem?_eq_getElem hp]
          exact decide_eq_true (key_eq x.symm)
        rw [hn] at this; cases this
    rw [hy]
    by_cases e : i = 0
    · subst e; exact h1
    · exact List.lt_trans h1 (h.get hp (by omega) (by omega))
  · intro a ha b hb
    obtain ⟨f, hf, rfl⟩ := List.mem_map.1 ha
    obtain ⟨i, hi, rfl⟩ := List.mem_iff_getElem.1 hf
    rw [List.length_take] at hi
    rw [List.getElem_take]
    have h1 := place_before (L := L) (s := s) (i := i) (by omega) (by omega)
    rcases List.mem_cons.1 hb with rfl | hb
    · rw [hy]; exact h1
    · obtain ⟨g, hg, rfl⟩ := List.mem_map.1 hb
      obtain ⟨j, hj, rfl⟩ := List.mem_iff_getElem.1 hg
      rw [List.length_drop] at hj
      rw [List.getElem_drop]
      exact h.get (by omega) (by omega) (by omega)
theorem insert_mem {L : List Rf} {s : ByteArray} (k : Nat) (h : ∀ f ∈ L, f.n ≠ s) (y : Rf) (g : Rf) : g ∈ L.take k ++ [y] ++ L.drop k ↔ g = y ∨ (g ∈ L ∧ g.n ≠ s) := by
  rw [List.mem_append, List.mem_append, List.mem_singleton]
  have : g ∈ L ↔ g ∈ L.take k ∨ g ∈ L.drop k := by rw [← List.mem_append, List.take_append_drop]
  constructor
  · rintro ((x | x) | x)
    · exact .inr ⟨this.2 (.inl x), h g (this.2 (.inl x))⟩
    · exact .inl x
    · exact .inr ⟨this.2 (.inr x), h g (this.2 (.inr x))⟩
  · rintro (x | ⟨x, _⟩)
    · exact .inl (.inr x)
    · rcases this.1 x with z | z
      · exact .inl (.inl z)
      · exact .inr z
theorem remove_sorted {L : List Rf} (h : SortedR L) (k : Nat) : SortedR (L.take k ++ L.drop (k + 1)) := by
  unfold SortedR rnm at *
  rw [List.map_append, List.map_take, List.map_drop]
  have hsub : ((L.map fun f => f.n.data.toList).take k ++ (L.map fun f => f.n.data.toList).drop (k + 1)).Sublist (L.map fun f => f.n.data.toList) := by
    conv => rhs; rw [← List.take_append_drop k (L.map fun f => f.n.data.toList)]
    refine List.Sublist.append (List.Sublist.refl _) ?_
    rw [← List.drop_drop]
    exact List.drop_sublist _ _
  exact h.sublist hsub
theorem remove_mem {L : List Rf} (h : SortedR L) {k : Nat} {f : Rf} (hk : L[k]? = some f) (g : Rf) : g ∈ L.take k ++ L.drop (k + 1) ↔ (g ∈ L ∧ g.n ≠ f.n) := by
  obtain ⟨hlt, hfk⟩ := List.getElem?_eq_some_iff.1 hk
  rw [List.mem_append]
  constructor
  · rintro (x | x)
    · obtain ⟨i, hi, rfl⟩ := List.mem_iff_getElem.1 x
      rw [List.length_take] at hi
      rw [List.getElem_take]
      exact ⟨List.getElem_mem (by omega), fun e => by have := h.inj (by omega) hlt (e.trans (by rw [hfk])); omega⟩
    · obtain ⟨i, hi, rfl⟩ := List.mem_iff_getElem.1 x
      rw [List.length_drop] at hi
      rw [List.getElem_drop]
      exact ⟨List.getElem_mem (by omega), fun e => by have := h.inj (by omega) hlt (e.trans (by rw [hfk])); omega⟩
  · rintro ⟨hg, hne⟩
    obtain ⟨i, hi, rfl⟩ := List.mem_iff_getElem.1 hg
    rcases Nat.lt_trichotomy i k with e | e | e
    · exact .inl (List.mem_iff_getElem.2 ⟨i, by rw [List.length_take]; omega, by rw [List.getElem_take]⟩)
    · subst e; exact absurd (by rw [hfk]) hne
    · refine .inr (List.mem_iff_getElem.2 ⟨i - (k + 1), by rw [List.length_drop]; omega, ?_⟩)
      rw [List.getElem_drop]
      congr 1
      omega
end Go.Proofs.Ytgfmmchmkfboaaa
