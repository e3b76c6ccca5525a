/- A drive and the document's: each call leaves them alike: pure facts. -/
import Derived.Test.YtgfmmchmkfboaaaRdP
namespace Go.Proofs.Ytgfmmchmkfboaaa
open Go.RowKit
set_option linter.unusedVariables false
theorem Cor.new : Cor newD noD := by
  refine ⟨List.Pairwise.nil, fun x e => ?_, fun f hf => (by cases hf), rfl, rfl, rfl⟩
  constructor
  · intro h; cases h
  · intro h; cases h
section
variable {d : Dk} {r : Rk}
theorem Cor.none_ne (h : Cor d r) {s : ByteArray} (he : d.F s = none) : ∀ f ∈ r.L, f.n ≠ s := by
  intro f hf e
  have := (h.mem f.n ⟨f.l, f.w, f.s⟩).2 hf
  rw [e, he] at this; cases this
theorem Cor.app (h : Cor d r) (s x : ByteArray) : rappC r s x = appC d s x ∧ Cor (appD d s x) (rappD r s x) := by
  have he := h.ent (s := s)
  have hz : (entR r s).sz = (entOf d s).sz := by rw [he]; rfl
  obtain ⟨hst, hsc⟩ := h.step
  unfold rappC appC appD rappD refC
  rw [hz, h.off]
  by_cases hn : nameB s = false
  · rw [if_pos hn, if_pos hn, if_pos hn]
    exact ⟨rfl, by rw [if_pos (show (1 : Int) ≠ 0 by decide)]; exact h⟩
  rw [if_neg hn, if_neg hn, if_neg hn]
  by_cases ho : d.down = true
  · rw [if_pos ho, if_pos ho, if_pos ho]
    exact ⟨rfl, by rw [if_pos (show (50 : Int) ≠ 0 by decide)]; exact h⟩
  rw [if_neg ho, if_neg ho, if_neg ho, if_neg (show ¬ ((0 : Int) ≠ 0) by decide), if_neg (show ¬ ((0 : Int) ≠ 0) by decide)]
  by_cases hb : 1048576 < x.size + (entOf d s).sz
  · rw [if_pos hb, if_pos hb, if_pos hb, if_pos hb]
    exact ⟨rfl, h⟩
  rw [if_neg hb, if_neg hb, if_neg hb, if_neg hb]
  by_cases hc : stepC d = 0
  · have hr : ¬ rstepB r = false := by rw [hst, decide_eq_true hc]; simp
    rw [if_neg hr, if_neg hr, hc, if_neg (show ¬ ((0 : Int) ≠ 0) by decide)]
    refine ⟨rfl, ?_⟩
    have hm : ∀ g, g ∈ rappL r s x ↔ g = mkR s ⟨(entOf d s).l, (entOf d s).w ++ x, (entOf d s).s⟩ ∨ (g ∈ (rstepD r).L ∧ g.n ≠ s) := by
      intro g
      rw [rstepD_L]
      unfold rappL
      rw [he]
      cases hf : d.F s with
      | none =>
        rw [if_neg (by rw [h.notThere hf]; simp)]
        exact insert_mem _ (h.none_ne hf) _ g
      | some e =>
        obtain ⟨h1, h2⟩ := h.there hf
        rw [if_pos h2]
        exact set_mem (y := moreF (mkR s (entOf d s)) x) h.srt h1 (by unfold moreF; rfl) g
    have hs : SortedR (rappL r s x) := by
      unfold rappL
      cases hf : d.F s with
      | none =>
        rw [if_neg (by rw [h.notThere hf]; simp)]
        exact insert_sorted h.srt (h.notThere hf) _ (by rw [he]; rfl)
      | some e =>
        obtain ⟨h1, h2⟩ := h.there hf
        rw [if_pos h2]
        unfold SortedR
        rw [rnm_set h1 (by rw [he]; rfl)]
        exact h.srt
    have := hsc.put (s := s) ⟨(entOf d s).l, (entOf d s).w ++ x, (entOf d s).s⟩ (rappL r s x) hs hm (by
      intro hse
      dsimp only at hse ⊢
      cases hf : d.F s with
      | none => unfold entOf; rw [hf]; rfl
      | some e =>
        unfold entOf at hse ⊢
        rw [hf] at hse ⊢
        exact h.firm _ ((h.mem s e).1 hf) hse)
    rw [stepD_F] at this
    exact this
  · have hr : rstepB r = false := by rw [hst, decide_eq_false hc]
    have h50 : stepC d = 50 := by unfold stepC at hc ⊢; split; rfl; rename_i x; rw [if_neg x] at hc; exact absurd rfl hc
    rw [if_pos hr, if_pos hr, h50, if_pos (show (50 : Int) ≠ 0 by decide)]
    exact ⟨rfl, hsc⟩
theorem Cor.stepOf (h : Cor d r) (s : ByteArray) : rstepOfC r s = stepOfC d s ∧ Cor (stepOfD d s) (rstepOfD r s) := by
  obtain ⟨hst, hsc⟩ := h.step
  unfold rstepOfC stepOfC rstepOfD stepOfD refC
  rw [h.off]
  by_cases hn : nameB s = false
  · rw [if_pos hn, if_pos hn, if_pos hn, if_pos (show (1 : Int) ≠ 0 by decide), if_pos (show (1 : Int) ≠ 0 by decide)]
    exact ⟨rfl, h⟩
  rw [if_neg hn, if_neg hn, if_neg hn]
  by_cases ho : d.down = true
  · rw [if_pos ho, if_pos ho, if_pos ho, if_pos (show (50 : Int) ≠ 0 by decide), if_pos (show (50 : Int) ≠ 0 by decide)]
    exact ⟨rfl, h⟩
  rw [if_neg ho, if_neg ho, if_neg ho, if_neg (show ¬ ((0 : Int) ≠ 0) by decide), if_neg (show ¬ ((0 : Int) ≠ 0) by decide)]
  cases hf : d.F s with
  | none =>
    rw [if_pos (h.notThere hf), if_pos (h.notThere hf)]
    exact ⟨rfl, h⟩
  | some e =>
    obtain ⟨h1, h2⟩ := h.there hf
    have hna : ¬ isAt r.L s = false := by rw [h2]; simp
    have hns : ¬ ((some e : Option Ent).isNone = true) := by simp
    rw [if_neg hna, if_neg hna, if_neg hns, if_neg hns]
    refine ⟨?_, hsc⟩
    rw [hst]
    by_cases hc : stepC d = 0
    · rw [if_neg (by rw [decide_eq_true hc]; simp), hc]
    · have h50 : stepC d = 50 := by unfold stepC at hc ⊢; split; rfl; rename_i x; rw [if_neg x] at hc; exact absurd rfl hc
      rw [if_pos (decide_eq_false hc), h50]
theorem stepOf_D {d : Dk} {s : ByteArray} (h : stepOfC d s = 0) : stepOfD d s = stepD d := by
  unfold stepOfC at h
  unfold stepOfD
  split at h
  · rename_i x; exact absurd h x
  · rename_i x
    rw [if_neg x]
    split at h
    · cases h
    · rename_i y; rw [if_neg y]
theorem rstepOf_D {r : Rk} {s : ByteArray} (h : rstepOfC r s = 0) : rstepOfD r s = rstepD r := by
  unfold rstepOfC at h
  unfold rstepOfD
  split at h
  · cases h
  · rename_i x
    rw [if_neg x]
    split at h
    · cases h
    · rename_i y
      rw [if_neg y]
      split at h
      · cases h
      · rename_i z; rw [if_neg z]
theorem syncE_eq (e : Ent) : syncE e = ⟨e.l ++ e.w, ⟨#[]⟩, true⟩ := by
  show Ent.mk (e.l ++ e.w.extract 0 (max 0 (min (e.w.size : Int) (e.w.size : Int))).toNat) ⟨#[]⟩ true = _
  rw [ext_all e.w _ (by omega)]
theorem Cor.sync (h : Cor d r) (s : ByteArray) : Cor (syncD d s) (rsyncD r s) := by
  obtain ⟨hc, hD⟩ := h.stepOf s
  unfold syncD rsyncD
  rw [hc]
  by_cases h0 : stepOfC d s = 0
  · rw [if_pos h0, if_pos h0]
    obtain ⟨e, he⟩ := stepOf_zero h0
    obtain ⟨h1, h2⟩ := h.there he
    rw [h.getD he, he]
    rw [stepOf_D h0, rstepOf_D (by rw [hc]; exact h0)] at hD
    rw [stepOf_D h0]
    have h1' : (rstepD r).L[placeL r.L s]? = some (mkR s e) := by rw [rstepD_L]; exact h1
    have := hD.put (s := s) (syncE e) ((rstepD r).L.set (placeL r.L s) (rsyncF (mkR s e)))
      (by unfold SortedR; rw [rnm_set (y := rsyncF (mkR s e)) h1' rfl]; exact hD.srt) (fun g => by
        have e1 : rsyncF (mkR s e) = mkR s (syncE e) := by rw [syncE_eq]; rfl
        rw [← e1]
        exact set_mem (y := rsyncF (mkR s e)) hD.srt h1' rfl g) (by rw [syncE_eq]; intro x; cases x)
    rw [stepD_F] at this
    exact this
  · rw [if_neg h0, if_neg h0]
    exact hD
theorem Cor.remove (h : Cor d r) (s : ByteArray) : Cor (removeD d s) (rremoveD r s) := by
  obtain ⟨hc, hD⟩ := h.stepOf s
  unfold removeD rremoveD
  rw [hc]
  by_cases h0 : stepOfC d s = 0
  · rw [if_pos h0, if_pos h0]
    obtain ⟨e, he⟩ := stepOf_zero h0
    obtain ⟨h1, h2⟩ := h.there he
    rw [stepOf_D h0, rstepOf_D (by rw [hc]; exact h0)] at hD
    rw [stepOf_D h0]
    have hF : (stepD d).F = d.F := stepD_F d
    have := hD.del (s := s) (r.L.take (placeL r.L s) ++ r.L.drop (placeL r.L s + 1)) (remove_sorted h.srt _) (fun g => by
      rw [rstepD_L]; exact remove_mem h.srt h1 g)
    rw [hF] at this
    exact this
  · rw [if_neg h0, if_neg h0]
    exact hD
theorem Cor.fuse (h : Cor d r) (n : Int) : Cor (fuseD d n) (rfuseD r n) := by
  refine ⟨h.srt, h.mem, h.firm, ?_, h.off, h.cnt⟩
  show max n (-1) = if decide (0 ≤ n) = true then ((n.toNat : Nat) : Int) else -1
  by_cases hn : 0 ≤ n
  · rw [if_pos (decide_eq_true hn)]; omega
  · rw [if_neg (by simpa using hn)]; omega
theorem Cor.readR (h : Cor d r) (s : ByteArray) : rreadR r s = Go.Proofs.Ytgfmmchmkfboaaa.readR d s := by
  unfold rreadR Go.Proofs.Ytgfmmchmkfboaaa.readR
  rw [h.off]
  by_cases ho : d.down = true
  · rw [if_pos (.inl ho), if_pos ho]
  · rw [if_neg ho]
    cases hf : d.F s with
    | none => rw [if_pos (.inr (h.notThere hf))]
    | some e =>
      obtain ⟨h1, h2⟩ := h.there hf
      rw [if_neg (by rw [h2]; simp [ho]), h.getD hf]; rfl
theorem Cor.names (h : Cor d r) {ts : List (List UInt8)} (hN : NamesF d.F ts) : ts = rnm r.L := by
  have hnd : (rnm r.L).Nodup := List.Pairwise.imp (fun {a b} hab e => by rw [e] at hab; exact List.lt_irrefl _ hab) h.srt
  have h2 : NamesF d.F ((rnm r.L).mergeSort leB) := by
    refine ⟨rnm r.L, hnd, fun x => ?_, rfl⟩
    unfold rnm
    rw [List.mem_map]
    constructor
    · rintro ⟨f, hf, rfl⟩
      have := (h.mem f.n ⟨f.l, f.w, f.s⟩).2 hf
      show (d.F (nm f.n.data.toList)).isSome = true
      have e : nm f.n.data.toList = f.n := rfl
      rw [e, this]; rfl
    · intro hx
      obtain ⟨e, he⟩ := Option.isSome_iff_exists.1 hx
      exact ⟨mkR (nm x) e, (h.mem _ _).1 he, rfl⟩
  rw [hN.one h2]
  exact List.mergeSort_of_pairwise (h.srt.imp fun {a b} hab => by
    show decide (a ≤ b) = true
    exact decide_eq_true (List.le_of_lt hab))
theorem turnB_eq (s : ByteArray) (a j : Nat) (ha : a < s.size) : (turnB s a j).data.toList = s.data.toList.set a (bitB (s.data.toList.getD a 0) j) := by
  have hl : s.data.toList.length = s.size := by simp
  unfold turnB
  simp only [ByteArray.data_append, Array.toList_append, ByteArray.data_extract, Array.toList_extract]
  rw [List.set_eq_take_append_cons_drop, if_pos (by rw [hl]; exact ha)]
  simp [List.extract_eq_take_drop]
  rw [List.take_of_length_le (by rw [List.length_drop, hl]; exact Nat.le_refl _)]
end
end Go.Proofs.Ytgfmmchmkfboaaa
