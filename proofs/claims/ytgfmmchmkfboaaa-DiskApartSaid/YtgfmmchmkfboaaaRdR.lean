/- A drive and the document's: a loss of power, a bit that turns: pure facts. -/
import Derived.Test.YtgfmmchmkfboaaaRdQ
namespace Go.Proofs.Ytgfmmchmkfboaaa
open Go.RowKit
set_option linter.unusedVariables false
theorem rcr_take_mem {L : List Rf} (h : SortedR L) (ks : List Int) {k : Nat} (hk : k < L.length) : ∀ g ∈ (rcr (L.take k) ks).1, g.n ≠ L[k].n := by
  intro g hg e
  rcases rcr_mem ks (L.take k) [] g hg with x | ⟨y, hy, hn, _⟩
  · cases x
  · obtain ⟨i, hi, rfl⟩ := List.mem_iff_getElem.1 hy
    rw [List.length_take] at hi
    rw [List.getElem_take] at hn
    have := h.inj (by omega) hk (hn.symm.trans e)
    omega
theorem drop_succ_mem {L : List Rf} (h : SortedR L) {k : Nat} (hk : k < L.length) : ∀ g ∈ L.drop (k + 1), g.n ≠ L[k].n := by
  intro g hg e
  obtain ⟨i, hi, rfl⟩ := List.mem_iff_getElem.1 hg
  rw [List.length_drop] at hi
  rw [List.getElem_drop] at e
  have := h.inj (by omega) hk e
  omega
theorem rcr_sub (ks : List Int) : ∀ (L A : List Rf), (rnm (L.foldl rcrS (A, ks)).1).Sublist (rnm A ++ rnm L)
  | [], A => by show (rnm A).Sublist (rnm A ++ []); rw [List.append_nil]; exact List.Sublist.refl _
  | f :: L, A => by
    rw [List.foldl_cons]
    have h2 : rcrS (A, ks) f = ((rcrS (A, ks) f).1, (rcrS (A, ks) f).2) := rfl
    rw [h2]
    refine (rcr_sub (rcrS (A, ks) f).2 L (rcrS (A, ks) f).1).trans ?_
    have h3 : rnm (f :: L) = [f.n.data.toList] ++ rnm L := rfl
    rw [h3, ← List.append_assoc]
    refine List.Sublist.append ?_ (List.Sublist.refl _)
    unfold rcrS
    dsimp only
    split
    · have : rnm (A ++ [rcrG f (ks.headD 0)]) = rnm A ++ [f.n.data.toList] := by
        unfold rnm
        rw [List.map_append, List.map_singleton, rcrG_n]
      rw [this]
      exact List.Sublist.refl _
    · exact List.sublist_append_left _ _
theorem rcr_sure (ks : List Int) : ∀ (L A : List Rf), (∀ f ∈ A, f.s = true) → ∀ f ∈ (L.foldl rcrS (A, ks)).1, f.s = true
  | [], A, h => h
  | g :: L, A, h => by
    rw [List.foldl_cons]
    have h2 : rcrS (A, ks) g = ((rcrS (A, ks) g).1, (rcrS (A, ks) g).2) := rfl
    rw [h2]
    refine rcr_sure (rcrS (A, ks) g).2 L (rcrS (A, ks) g).1 ?_
    unfold rcrS
    dsimp only
    split
    · rename_i hs
      intro f hf
      rcases List.mem_append.1 hf with x | x
      · exact h f x
      · rw [List.mem_singleton.1 x]; exact hs
    · exact h
/-- What is left of one file. -/
theorem one_file (s : ByteArray) (e e2 : Ent) (n : Int) (hfirm : e.s = false → e.l.size = 0) :
    (if e.s = false ∧ (settleE e (if e.w.size = 0 then 0 else n)).l.size = 0 then (none : Option Ent) else some { settleE e (if e.w.size = 0 then 0 else n) with s := true }) = some e2 ↔ (rcrG (mkR s e) n).s = true ∧ mkR s e2 = rcrG (mkR s e) n := by
  obtain ⟨el, ew, es⟩ := e
  dsimp only at *
  by_cases hw : ew.size = 0
  · have hw' := bytes_eq_empty hw
    subst hw'
    have hG : rcrG (mkR s ⟨el, ⟨#[]⟩, es⟩) n = mkR s ⟨el, ⟨#[]⟩, es⟩ := by unfold rcrG; rw [if_pos (show (mkR s ⟨el, ⟨#[]⟩, es⟩).w.size = 0 from rfl)]
    have hS : settleE ⟨el, ⟨#[]⟩, es⟩ (if (⟨#[]⟩ : ByteArray).size = 0 then 0 else n) = ⟨el, ⟨#[]⟩, es⟩ := by
      rw [if_pos (show (⟨#[]⟩ : ByteArray).size = 0 from rfl)]
      show Ent.mk (el ++ (⟨#[]⟩ : ByteArray).extract 0 _) ⟨#[]⟩ es = _
      rw [ext_none _ _ (by show (max 0 (min (0 : Int) _)).toNat = 0; show (max 0 (min (0 : Int) ((0 : Nat) : Int))).toNat = 0; omega), app_none]
    rw [hG, hS]
    cases es
    · rw [if_pos ⟨rfl, hfirm rfl⟩]
      constructor
      · intro x; cases x
      · rintro ⟨x, _⟩; cases x
    · rw [if_neg (fun x => by cases x.1)]
      constructor
      · intro x; injection x with x; subst x; exact ⟨rfl, rfl⟩
      · rintro ⟨_, x⟩
        obtain ⟨_, _, _⟩ := e2
        unfold mkR at x
        injection x with _ a b c
        dsimp only at a b c
        rw [a, b, c]
  · rw [if_neg hw]
    obtain ⟨m, hm⟩ : ∃ m, m = keepR (mkR s ⟨el, ew, es⟩) n := ⟨_, rfl⟩
    have hmI : (max 0 (min n (ew.size : Int))).toNat = m := by rw [hm]; unfold keepR mkR; dsimp only; omega
    have hmw : m ≤ ew.size := by rw [← hmI]; omega
    have hG : rcrG (mkR s ⟨el, ew, es⟩) n = ⟨s, el ++ ew.extract 0 m, ⟨#[]⟩, es || decide (0 < m)⟩ := by
      unfold rcrG; rw [if_neg (show ¬ (mkR s ⟨el, ew, es⟩).w.size = 0 from hw)]; unfold rcrF; rw [← hm]; rfl
    have hS : settleE ⟨el, ew, es⟩ n = ⟨el ++ ew.extract 0 m, ⟨#[]⟩, es⟩ := by unfold settleE; dsimp only; rw [hmI]
    rw [hG, hS]
    dsimp only
    have hsz : (el ++ ew.extract 0 m).size = el.size + m := by rw [ByteArray.size_append, ByteArray.size_extract]; omega
    rw [hsz]
    cases es
    · have hl := hfirm rfl
      by_cases h0 : m = 0
      · rw [if_pos ⟨rfl, by omega⟩]
        constructor
        · intro x; cases x
        · rintro ⟨x, _⟩; rw [h0] at x; cases x
      · rw [if_neg (fun x => by omega)]
        have hd : decide (0 < m) = true := decide_eq_true (by omega)
        rw [hd]
        constructor
        · intro x; injection x with x; subst x; exact ⟨rfl, rfl⟩
        · rintro ⟨_, x⟩
          obtain ⟨_, _, _⟩ := e2
          unfold mkR at x
          injection x with _ a b c
          dsimp only at a b c
          rw [a, b, c]; rfl
    · rw [if_neg (fun x => by cases x.1)]
      constructor
      · intro x; injection x with x; subst x; exact ⟨rfl, rfl⟩
      · rintro ⟨_, x⟩
        obtain ⟨_, _, _⟩ := e2
        unfold mkR at x
        injection x with _ a b c
        dsimp only at a b c
        rw [a, b, c]; rfl
section
variable {d : Dk} {r : Rk}
theorem Cor.crK (h : Cor d r) (ks : List Int) : ∀ k, k ≤ r.L.length →
    (crK d.F ks (rnm r.L) k).2 = (rcr (r.L.take k) ks).2 ∧ ∀ x e, (Go.Proofs.Ytgfmmchmkfboaaa.crK d.F ks (rnm r.L) k).1 x = some e ↔ (mkR x e ∈ (rcr (r.L.take k) ks).1 ∨ mkR x e ∈ r.L.drop k)
  | 0, _ => ⟨rfl, fun x e => by
      rw [List.drop_zero]
      constructor
      · intro hx; exact .inr ((h.mem x e).1 hx)
      · rintro (hx | hx)
        · cases hx
        · exact (h.mem x e).2 hx⟩
  | k + 1, hk => by
    obtain ⟨ih1, ih2⟩ := Cor.crK h ks k (by omega)
    have hlt : k < r.L.length := by omega
    rw [crK_succ d.F ks (rnm r.L) k (by rw [rnm_len]; exact hlt), rcr_snoc r.L ks k hlt]
    have hnm : nm ((rnm r.L)[k]'(by rw [rnm_len]; exact hlt)) = r.L[k].n := by unfold rnm; rw [List.getElem_map]
    rw [hnm]
    obtain ⟨f, hf⟩ : ∃ f, f = r.L[k] := ⟨_, rfl⟩
    have hne := rcr_take_mem h.srt ks hlt
    have hnd := drop_succ_mem h.srt hlt
    have hfm : f ∈ r.L := by rw [hf]; exact List.getElem_mem hlt
    rw [← hf] at hne hnd ⊢
    have hdr : r.L.drop k = f :: r.L.drop (k + 1) := by rw [hf]; exact List.drop_eq_getElem_cons hlt
    obtain ⟨p, hp⟩ : ∃ p, p = Go.Proofs.Ytgfmmchmkfboaaa.crK d.F ks (rnm r.L) k := ⟨_, rfl⟩
    obtain ⟨q, hq⟩ : ∃ q, q = rcr (r.L.take k) ks := ⟨_, rfl⟩
    rw [← hp, ← hq] at ih1 ih2
    rw [← hq] at hne
    rw [← hp, ← hq]
    have hps : p.1 f.n = some ⟨f.l, f.w, f.s⟩ := (ih2 _ _).2 (.inr (by rw [hdr]; exact List.mem_cons_self ..))
    have hc : crS p f.n = (putE p.1 f.n (if f.s = false ∧ (settleE ⟨f.l, f.w, f.s⟩ (if f.w.size = 0 then 0 else p.2.headD 0)).l.size = 0 then none else some { settleE ⟨f.l, f.w, f.s⟩ (if f.w.size = 0 then 0 else p.2.headD 0) with s := true }), if f.w.size = 0 then p.2 else p.2.tail) := by
      unfold crS; rw [hps]
    have hone := fun e2 => one_file f.n ⟨f.l, f.w, f.s⟩ e2 (p.2.headD 0) (fun x => h.firm f hfm x)
    have hmk : mkR f.n ⟨f.l, f.w, f.s⟩ = f := rfl
    rw [hmk] at hone
    rw [hc]
    refine ⟨by unfold rcrS; dsimp only; rw [ih1], fun x e => ?_⟩
    show putE p.1 f.n _ x = some e ↔ (mkR x e ∈ (rcrS q f).1 ∨ mkR x e ∈ r.L.drop (k + 1))
    have hin : mkR x e ∈ (rcrS q f).1 ↔ mkR x e ∈ q.1 ∨ ((rcrG f (p.2.headD 0)).s = true ∧ mkR x e = rcrG f (p.2.headD 0)) := by
      rw [ih1]
      unfold rcrS
      dsimp only
      by_cases hs : (rcrG f (q.2.headD 0)).s = true
      · rw [if_pos hs, List.mem_append, List.mem_singleton]
        constructor
        · rintro (y | y)
          · exact .inl y
          · exact .inr ⟨hs, y⟩
        · rintro (y | y)
          · exact .inl y
          · exact .inr y.2
      · rw [if_neg hs]
        constructor
        · intro y; exact .inl y
        · rintro (y | y)
          · exact y
          · exact absurd y.1 hs
    rw [hin]
    unfold putE
    by_cases hx : x = f.n
    · rw [if_pos hx]
      subst hx
      rw [hone e]
      constructor
      · intro y; exact .inl (.inr y)
      · rintro ((y | y) | y)
        · exact absurd (show (mkR f.n e).n = f.n from rfl) (hne _ y)
        · exact y
        · exact absurd (show (mkR f.n e).n = f.n from rfl) (hnd _ y)
    · rw [if_neg hx, ih2 x e, hdr, List.mem_cons]
      constructor
      · rintro (y | y | y)
        · exact .inl (.inl y)
        · exact absurd (congrArg Rf.n y) hx
        · exact .inr y
      · rintro ((y | y) | y)
        · exact .inl y
        · exact absurd ((congrArg Rf.n y.2).trans (rcrG_n _ _)) hx
        · exact .inr (.inr y)
theorem Cor.crash (h : Cor d r) (ks : List Int) {ts : List (List UInt8)} (hN : NamesF d.F ts) : Cor (crashD d ks ts) (rcrashD r ks) := by
  have ht := h.names hN
  subst ht
  have hk := (h.crK ks r.L.length (Nat.le_refl _)).2
  rw [List.take_length, List.drop_length] at hk
  refine ⟨?_, fun x e => ?_, fun f hf hs => ?_, rfl, rfl, h.cnt⟩
  · have hsub := rcr_sub ks r.L []
    exact h.srt.sublist hsub
  · show (Go.Proofs.Ytgfmmchmkfboaaa.crK d.F ks (rnm r.L) (rnm r.L).length).1 x = some e ↔ _
    rw [rnm_len, hk]
    exact ⟨fun y => (by rcases y with y | y; exact y; cases y), fun y => .inl y⟩
  · have := rcr_sure ks r.L [] (fun f hf => by cases hf) f hf
    rw [hs] at this; cases this
theorem turn_eq (s : ByteArray) (e : Ent) (i : Nat) (hi : i / 8 < e.sz) : rturnF (mkR s e) i = mkR s (turnE e i) := by
  obtain ⟨l, w, es⟩ := e
  have hll : l.data.toList.length = l.size := by simp
  have hlw : (l ++ w).data.toList = l.data.toList ++ w.data.toList := by simp
  have hgd : ∀ (A B : List UInt8) (a : Nat), a < A.length → (A ++ B).getD a 0 = A.getD a 0 := fun A B a h => by rw [List.getD, List.getD, List.getElem?_append_left h]
  unfold turnE
  dsimp only
  unfold Ent.sz at hi
  dsimp only at hi
  by_cases ha : i / 8 < l.size
  · rw [if_pos ha]
    have hT : flipT (mkR s ⟨l, w, es⟩) i = (turnB l (i / 8) (i % 8)).data.toList ++ w.data.toList := by
      unfold flipT
      show ((l ++ w).data.toList).set _ (bitB (((l ++ w).data.toList).getD _ 0) _) = _
      rw [hlw, hgd _ _ _ (by rw [hll]; exact ha), turnB_eq l _ _ ha, List.set_append_left _ _ (by rw [hll]; exact ha)]
    have hts : (turnB l (i / 8) (i % 8)).data.toList.length = l.size := by rw [turnB_eq l _ _ ha, List.length_set, hll]
    unfold rturnF
    rw [hT]
    show Rf.mk s ⟨(List.take l.size _).toArray⟩ ⟨(List.drop l.size _).toArray⟩ es = Rf.mk s _ _ es
    rw [List.take_append_of_le_length (by rw [hts]; exact Nat.le_refl _), List.take_of_length_le (by rw [hts]; exact Nat.le_refl _), List.drop_append_of_le_length (by rw [hts]; exact Nat.le_refl _), List.drop_of_length_le (by rw [hts]; exact Nat.le_refl _), List.nil_append]
  · rw [if_neg ha]
    have hb : i / 8 - l.size < w.size := by omega
    have hgd2 : (l.data.toList ++ w.data.toList).getD (i / 8) 0 = w.data.toList.getD (i / 8 - l.size) 0 := by
      rw [List.getD, List.getD, List.getElem?_append_right (by rw [hll]; omega), hll]
    have hT : flipT (mkR s ⟨l, w, es⟩) i = l.data.toList ++ (turnB w (i / 8 - l.size) (i % 8)).data.toList := by
      unfold flipT
      show ((l ++ w).data.toList).set _ (bitB (((l ++ w).data.toList).getD _ 0) _) = _
      rw [hlw, hgd2, turnB_eq w _ _ hb, List.set_append_right _ _ (by rw [hll]; omega), hll]
    unfold rturnF
    rw [hT]
    show Rf.mk s ⟨(List.take l.size _).toArray⟩ ⟨(List.drop l.size _).toArray⟩ es = Rf.mk s _ _ es
    rw [List.take_append_of_le_length (by rw [hll]; exact Nat.le_refl _), List.take_of_length_le (by rw [hll]; exact Nat.le_refl _), List.drop_append_of_le_length (by rw [hll]; exact Nat.le_refl _), List.drop_of_length_le (by rw [hll]; exact Nat.le_refl _), List.nil_append]
theorem Cor.flip (h : Cor d r) (s : ByteArray) (i : Int) : rflipC r s i = flipC d s i ∧ Cor (flipD d s i) (rflipD r s i) := by
  unfold rflipC flipC flipD rflipD
  cases hf : d.F s with
  | none => rw [if_pos (h.notThere hf), if_pos (h.notThere hf)]; exact ⟨rfl, h⟩
  | some e =>
    obtain ⟨h1, h2⟩ := h.there hf
    have hna : ¬ isAt r.L s = false := by rw [h2]; simp
    rw [if_neg hna, if_neg hna, h.getD hf]
    have hz : (mkR s e).sz = e.sz := rfl
    rw [hz]
    dsimp only
    by_cases hc : i < 0 ∨ e.sz ≤ i.toNat / 8
    · rw [if_pos hc, if_pos hc, if_pos hc]; exact ⟨rfl, h⟩
    · rw [if_neg hc, if_neg hc, if_neg hc]
      refine ⟨rfl, ?_⟩
      have hi : i.toNat / 8 < e.sz := by omega
      have hte := turn_eq s e i.toNat hi
      have := h.put (s := s) (turnE e i.toNat) (r.L.set (placeL r.L s) (rturnF (mkR s e) i.toNat)) (by unfold SortedR; rw [rnm_set (y := rturnF (mkR s e) i.toNat) h1 rfl]; exact h.srt)
        (fun g => by rw [← hte]; exact set_mem (y := rturnF (mkR s e) i.toNat) h.srt h1 rfl g) (by
          intro hs
          have hz2 := turnE_sz e i.toNat hi
          unfold turnE at hs ⊢
          by_cases ha : i.toNat / 8 < e.l.size
          · rw [if_pos ha] at hs
            have := h.firm _ ((h.mem s e).1 hf) hs
            have t : e.l.size = 0 := this
            omega
          · rw [if_neg ha] at hs ⊢
            exact h.firm _ ((h.mem s e).1 hf) hs)
      exact this
end
end Go.Proofs.Ytgfmmchmkfboaaa
