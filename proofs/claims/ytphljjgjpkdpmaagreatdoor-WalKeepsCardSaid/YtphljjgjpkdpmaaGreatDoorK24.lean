/- Several texts in one: WnS WnC WnG WkA WkB WkC WkD. -/
import Derived.Test.YtphljjgjpkdpmaaGreatDoorK22
import Derived.Test.YtphljjgjpkdpmaaGreatDoorK23
import Derived.Test.YtphljjgjpkdpmaaGreatDoorK17
/- Stage 9: sizes of what is put; a drive with one segment: pure. -/
namespace Go.Proofs.YtphljjgjpkdpmaaGreatDoor
open Go.RowKit Go.Maps Go.Sort
set_option linter.unusedVariables false
theorem numB_three {n : Nat} (h : n ≤ 8192) : (numB (n : Int)).length ≤ 3 := by
  unfold numB
  have hz := Lib.zigzag_nonneg (x := (n : Int)) (by omega)
  exact Lib.uvarint_length 2 _ (by have : (128 : Nat) ^ (2 + 1) = 2097152 := by decide
                                   omega)
theorem frames_sum : ∀ l : List ByteArray, (∀ p ∈ l, p.size ≤ 8192) → (framesB l).length ≤ wsum l + 6 * l.length
  | [], _ => by simp [framesB]
  | p :: l, h => by
    have h1 := h p (List.mem_cons_self ..)
    have h2 := frames_sum l (fun q hq => h q (List.mem_cons_of_mem _ hq))
    have e : framesB (p :: l) = frB p ++ framesB l := by unfold framesB; simp only [List.flatMap_cons]
    have e2 : wsum (p :: l) = (1 + p.size) + wsum l := by unfold wsum; simp
    have h3 := numB_three h1
    rw [e, List.length_append, frB_size, List.length_cons, e2]
    omega
theorem wsum_app (a b : List ByteArray) : wsum (a ++ b) = wsum a + wsum b := by unfold wsum; simp
theorem wsum_part (l : List ByteArray) (a b : Nat) : wsum ((l.drop a).take b) ≤ wsum l := by
  have h1 : wsum l = wsum (l.take a) + wsum (l.drop a) := by rw [← wsum_app, List.take_append_drop]
  have h2 : wsum (l.drop a) = wsum ((l.drop a).take b) + wsum ((l.drop a).drop b) := by rw [← wsum_app, List.take_append_drop]
  omega
/-- Any part of such a list may be put at one time. -/
theorem seal_part {l : List ByteArray} (hl : l.length ≤ 5000) (hs : ∀ p ∈ l, p.size ≤ 8192) (hw : wsum l ≤ 16384) (a b : Nat) : sealOk ((l.drop a).take b) := by
  have h : ∀ p ∈ (l.drop a).take b, p.size ≤ 8192 := fun p hp => hs p (List.mem_of_mem_drop (List.mem_of_mem_take hp))
  refine ⟨h, ?_⟩
  have h1 := frames_sum _ h
  have h2 := wsum_part l a b
  have h3 : ((l.drop a).take b).length ≤ l.length := by rw [List.length_take, List.length_drop]; omega
  omega
/-- A drive with one segment has one name. -/
theorem one_name {d : Dk} {c : Lc} {base : ByteArray} {recs : List ByteArray} (h : Good d c base recs) (h0 : c.first ≠ 0) (h1 : c.first = c.last) {ts : List (List UInt8)} (hN : NamesF d.F ts) : (namesP ts logP).length = 1 := by
  have hall : ∀ x ∈ namesP ts logP, x = (nameW c.first).data.toList := by
    intro x hx
    unfold namesP at hx
    rw [List.mem_filter] at hx
    have := (hN.mem x).1 hx.1
    cases hf : d.F (nm x) with
    | none => rw [hf] at this; cases this
    | some e =>
      obtain ⟨_, _, k, _, k1, k2, k3⟩ := h.firm _ e hf
      have : k = c.first := by omega
      subst this
      have h5 : (nm x).data.toList = x := bs_list x
      rw [← h5, k3]
  have hmem : (nameW c.first).data.toList ∈ namesP ts logP := by
    unfold namesP
    rw [List.mem_filter]
    refine ⟨(hN.mem _).2 ?_, name_pre _⟩
    rw [name_self]
    exact h.has h0 (Nat.le_refl _) (by omega)
  have hnd : (namesP ts logP).Nodup := List.Nodup.sublist List.filter_sublist hN.nodup
  generalize namesP ts logP = L at *
  match L, hall, hmem, hnd with
  | [], _, hm, _ => cases hm
  | [x], _, _, _ => rfl
  | x :: y :: L, ha, _, hn =>
    exfalso
    have e1 := ha x (by simp)
    have e2 := ha y (by simp)
    have := (List.nodup_cons.1 hn).1
    apply this
    rw [e1, ← e2]
    exact List.mem_cons_self ..
theorem layL_one {d : Dk} {c : Lc} {s : ByteArray} (hw : layC c d s = 0) : layL c d s = ⟨c.last + 1, c.last + 1, (layX s).size, false⟩ := by
  have h1 : writeC d (layN c) (layX s) = 0 := by
    unfold layC at hw
    split at hw
    · rename_i hx; exact absurd hw hx
    · rename_i hx; simpa using hx
  unfold layL; rw [if_neg (fun hx => hx h1)]
theorem layD_lit {d : Dk} {c : Lc} {s : ByteArray} (hw : layC c d s = 0) : (layD c d s).lit = d.lit := by
  have h1 : writeC d (layN c) (layX s) = 0 := by
    unfold layC at hw
    split at hw
    · rename_i hx; exact absurd hw hx
    · rename_i hx; simpa using hx
  have hd : layD c d s = (rems (writeD d (layN c) (layX s)) (segsOf c.first c.last)).2 := by unfold layD; rw [if_neg (fun hx => hx h1)]
  have h2 : (rems (writeD d (layN c) (layX s)) (segsOf c.first c.last)).1 = 0 := by
    unfold layC at hw
    rwa [if_neg (fun hx => hx h1)] at hw
  obtain ⟨w1, w2, w3, w4, w5⟩ := write_done h1
  obtain ⟨r1, r2, r3⟩ := rems_done _ _ w3 h2
  rw [hd]
  exact r2.trans w4
theorem writeL_last {d : Dk} {c : Lc} {x : ByteArray} (h : placeE c = 0) : (writeL c d (placeN c) x).last ≤ c.last + 1 := by
  have hp : placeN c ≤ c.last + 1 := by
    rcases place_cases c h with ⟨_, h1, _⟩ | ⟨_, _, _, h1, _⟩ | ⟨_, _, _, h1, _⟩ <;> omega
  unfold writeL
  split
  · exact hp
  · omega
theorem layD_steps (d : Dk) (c : Lc) (s : ByteArray) : (layD c d s).steps ≤ d.steps + 2 + (c.last + 1 - c.first) := by
  have h1 := writeD_steps d (layN c) (layX s)
  unfold layD
  split
  · omega
  · have h2 := rems_steps (writeD d (layN c) (layX s)) (segsOf c.first c.last) (0, writeD d (layN c) (layX s))
    have h3 : (segsOf c.first c.last).length ≤ c.last + 1 - c.first := by
      unfold segsOf
      split
      · simp
      · simp
    unfold rems
    simp only at h2
    omega
abbrev Own3 (lb db mb : Nat) (G : ByteArray → Option Nat) : Nat → Prop := fun i => i = lb ∨ DS db mb G i
section
variable {B : Nat} {w w' : World} {lb db mb n n' : Nat} {G : ByteArray → Option Nat} {c c' : Lc} {d d' : Dk} {base : ByteArray} {recs l : List ByteArray}
/-- A call of Append where nothing is in the way. -/
theorem Append_part (v : Value) (h : Wl B w lb db mb n G c d) (hg : Good d c base recs) (hl : d.lit = false) (hs : sealOk l) (hr : RowAt w v (l.map Value.string)) (hlen : l.length ≤ 20000) (hc : c.last < 999999999) (hst : d.steps + 1 < 1000000) (hn : n < 1000000) :
    Calls Tryz.prog 16 #[.pointer (some ⟨lb, 0, none⟩), v] w fun e w' => e = .returned (.int .i64 0) ∧ ∃ n' c' d', n' ≤ n + 1 ∧ WEnd lb db mb G n' c' d' w w' ∧ Good d' c' base (recs ++ l) ∧ d'.lit = false ∧ d'.steps ≤ d.steps + 2 ∧ c'.last ≤ c.last + 1 := by
  by_cases h0 : l = []
  · subst h0
    refine (LAppend_none lb v w h.va.mv hr).mono ?_
    rintro e w' ⟨rfl, g⟩
    exact ⟨rfl, n, c, d, by omega, WEnd.same h.wat g, by rw [List.append_nil]; exact hg, hl, by omega, by omega⟩
  · refine (Append_good v h hg hl hs h0 hr hlen hc hst hn).mono ?_
    rintro e w' ⟨rfl, n', hn', hE⟩
    have hz := (h.lcok hg).2.2.2
    have hp := place_ok hc
    have hw := hg.append_ok hl hs hp hz
    exact ⟨rfl, n', _, _, hn', hE, hg.append hs hp hz hw, (write_done hw).2.2.2.1.trans hl, writeD_steps _ _ _, writeL_last hp⟩
theorem grow_of_below (h : Below w.heap.size w w') : w.grownBy w' none := ⟨h.os, h.tape, h.output, h.size, fun i hi _ => h.block i hi⟩
/-- A row apart from the log stays so. -/
theorem RowN.over {v : Value} {xs : List Value} (h : RowN (Own3 lb db mb G) w v xs) {G' : ByteArray → Option Nat} (k : Chg (Own3 lb db mb G) w w') (f : ∀ s g, G' s = some g → (∃ t, G t = some g) ∨ w.heap.size ≤ g) : RowN (Own3 lb db mb G') w' v xs := by
  obtain ⟨a, cap, rfl, hc, h⟩ := h
  refine ⟨a, cap, rfl, hc, ?_⟩
  rcases h with h | ⟨b, off, rfl, hb, hn, h⟩
  · exact .inl h
  · refine .inr ⟨b, off, rfl, Nat.lt_of_lt_of_le hb k.size, fun hs => ?_, fun j hj => by rw [← h j hj]; exact World.cell?_of_block (k.block b hb hn)⟩
    rcases hs with y | y | y | ⟨t, y⟩
    · exact hn (.inl y)
    · exact hn (.inr (.inl y))
    · exact hn (.inr (.inr (.inl y)))
    · rcases f t b y with ⟨u, z⟩ | z
      · exact hn (.inr (.inr (.inr ⟨u, z⟩)))
      · omega
theorem RowN.row {S : Nat → Prop} {v : Value} {xs : List Value} (h : RowN S w v xs) : RowAt w v xs := by
  obtain ⟨a, cap, rfl, hc, h⟩ := h
  refine ⟨a, cap, rfl, ?_⟩
  rcases h with h | ⟨b, off, rfl, hb, hn, h⟩
  · exact .inl h
  · exact .inr ⟨b, off, rfl, hb, h⟩
theorem RowN.take {S : Nat → Prop} {a : Option Addr} {m cap cap' k : Nat} {xs : List Value} (h : RowN S w (.slice a m cap) xs) (hk : k ≤ m) (hm : xs.length = m) : RowAt w (.slice a k cap') (xs.take k) := by
  obtain ⟨a', cp, e, hc, h⟩ := h
  injection e with e1 e2 e3
  subst e1
  have hl : (xs.take k).length = k := by rw [List.length_take]; omega
  refine ⟨a, cap', by rw [hl], ?_⟩
  rcases h with h | ⟨b, off, rfl, hb, hn, h⟩
  · subst h; left; simp
  · refine .inr ⟨b, off, rfl, hb, fun j hj => ?_⟩
    rw [hl] at hj
    rw [h j (by omega)]
    simp [List.getD, hj]
theorem RowN.drop {S : Nat → Prop} {a : Option Addr} {m cap k : Nat} {xs : List Value} (h : RowN S w (.slice a m cap) xs) (hk : k ≤ m) (hm : xs.length = m) : RowN S w (.slice (if cap = k then a else a.map (·.add k)) (m - k) (cap - k)) (xs.drop k) := by
  obtain ⟨a', cp, e, hc, h⟩ := h
  injection e with e1 e2 e3
  subst e1 e3
  have hl : (xs.drop k).length = m - k := by rw [List.length_drop]; omega
  refine ⟨_, _, by rw [hl], by omega, ?_⟩
  rcases h with h | ⟨b, off, rfl, hb, hn, h⟩
  · subst h; left; simp
  · by_cases hck : cap = k
    · left
      rw [List.drop_of_length_le (by omega)]
    · right
      rw [if_neg hck]
      refine ⟨b, off + k, congrArg some (add_off b off k), hb, hn, fun j hj => ?_⟩
      rw [hl] at hj
      rw [show off + k + j = off + (k + j) by omega, h (k + j) (by omega)]
      simp [List.getD, List.getElem?_drop]
theorem Wl.of (h : Wl B w lb db mb n G c d) {G' : ByteArray → Option Nat} (k1 : WAt w' lb db mb n' G' c' d') (k2 : Chg (Own3 lb db mb G) w w') (k3 : ∀ s g, G' s = some g → (∃ t, G t = some g) ∨ w.heap.size ≤ g) : Wl B w' lb db mb n' G' c' d' ∧ Below B w w' :=
  ⟨⟨k1, h.va.over h.lo h.hb ⟨G', k1, k2, k3⟩, lo_over h.lo h.hb k3, Nat.le_trans h.hb k2.size⟩, k2.below h.hb h.lo⟩
theorem row_u8 {a : Option Addr} {cp : Nat} {ns : List Int} {k : Nat} (h : RowAt w (.slice a ns.length cp) (ns.map (Value.int .u8))) (hk : k < ns.length) : ∃ bb off, a = some ⟨bb, off, none⟩ ∧ w.cell? ⟨bb, off + k, none⟩ = some (.int .u8 ns[k]) := by
  obtain ⟨a', c', e, h⟩ := h
  injection e with e1 e2 e3
  subst e1
  rcases h with h | ⟨b, off, rfl, hb, hc⟩
  · have : ns = [] := by simpa using h
    subst this; simp at hk
  · exact ⟨b, off, rfl, by rw [hc k (by simpa using hk)]; simp [List.getD, List.getElem?_eq_getElem hk]⟩
end
end Go.Proofs.YtphljjgjpkdpmaaGreatDoor
/- Stage 9: a log behind a loss of power: pure. -/
namespace Go.Proofs.YtphljjgjpkdpmaaGreatDoor
open Go.RowKit Go.Maps Go.Sort
set_option linter.unusedVariables false
/-- Nothing waits, and every file is firm. -/
def Settled (F : ByteArray → Option Ent) : Prop := ∀ x e, F x = some e → e.w.size = 0 ∧ e.s = true
theorem crS_set {p : (ByteArray → Option Ent) × List Int} {s : ByteArray} {e : Ent} (h : (crS p s).1 s = some e) : e.w.size = 0 ∧ e.s = true := by
  unfold crS at h
  split at h
  · rename_i hn
    rw [hn] at h; cases h
  · rename_i e0 he
    have h2 : putE p.1 s (if e0.s = false ∧ (settleE e0 (if e0.w.size = 0 then 0 else p.2.headD 0)).l.size = 0 then none else some { settleE e0 (if e0.w.size = 0 then 0 else p.2.headD 0) with s := true }) s = some e := h
    unfold putE at h2
    rw [if_pos rfl] at h2
    have hw : (settleE e0 (if e0.w.size = 0 then 0 else p.2.headD 0)).w.size = 0 := rfl
    generalize settleE e0 (if e0.w.size = 0 then 0 else p.2.headD 0) = E at h2 hw
    split at h2
    · cases h2
    · injection h2 with h2
      rw [← h2]
      exact ⟨hw, rfl⟩
theorem crK_set (F : ByteArray → Option Ent) (ks : List Int) (ts : List (List UInt8)) (hn : ts.Nodup) : ∀ k, k ≤ ts.length → ∀ j (h : j < ts.length), j < k → ∀ e, (crK F ks ts k).1 (nm ts[j]) = some e → e.w.size = 0 ∧ e.s = true
  | 0, _, j, _, hj, _, _ => absurd hj (Nat.not_lt_zero _)
  | k + 1, hk, j, h, hj, e, he => by
    rw [crK_succ F ks ts k (by omega)] at he
    by_cases hjk : j = k
    · subst hjk
      exact crS_set he
    · have hne : nm ts[j] ≠ nm ts[k] := fun y => by
        have := (List.nodup_iff_pairwise_ne.1 hn)
        rw [List.pairwise_iff_getElem] at this
        exact this j k h (by omega) (by omega) (nm_inj y)
      rw [crS_other _ _ _ hne] at he
      exact crK_set F ks ts hn k (by omega) j h (by omega) e he
theorem crash_settled {d : Dk} {ks : List Int} {ts : List (List UInt8)} (hN : NamesF d.F ts) : Settled (crashD d ks ts).F := by
  intro x e he
  have he' : (crK d.F ks ts ts.length).1 x = some e := he
  by_cases hx : x.data.toList ∈ ts
  · obtain ⟨j, hj, hj2⟩ := List.mem_iff_getElem.1 hx
    have hxx : x = nm ts[j] := by rw [hj2]
    rw [hxx] at he'
    exact crK_set d.F ks ts hN.nodup ts.length (Nat.le_refl _) j hj hj e he'
  · rw [crK_other d.F ks ts ts.length (Nat.le_refl _) x (fun j hj _ y => hx (by rw [y]; exact List.getElem_mem hj))] at he'
    have : (d.F (nm x.data.toList)).isSome = true := by
      show (d.F x).isSome = true
      rw [he']; rfl
    exact absurd ((hN.mem _).2 this) hx
theorem settle_id {e : Ent} (hw : e.w.size = 0) (hs : e.s = true) (n : Int) : ({ settleE e n with s := true } : Ent) = e := by
  obtain ⟨l, w, s⟩ := e
  dsimp only at hw hs
  subst hs
  have hw' := bytes_eq_empty hw
  subst hw'
  have hx : (⟨#[]⟩ : ByteArray).extract 0 (max 0 (min n (((⟨#[]⟩ : ByteArray).size : Nat) : Int))).toNat = ⟨#[]⟩ := by
    apply bytes_eq_empty
    rw [ByteArray.size_extract]
    show min _ 0 - 0 = 0
    omega
  show Ent.mk (l ++ (⟨#[]⟩ : ByteArray).extract 0 _) ⟨#[]⟩ true = _
  rw [hx, ba_right]
theorem crS_id {F : ByteArray → Option Ent} (h : Settled F) (ks : List Int) (s : ByteArray) : crS (F, ks) s = (F, ks) := by
  unfold crS
  split
  · rfl
  · rename_i e he
    have he' : F s = some e := he
    obtain ⟨hw, hs⟩ := h s e he'
    rw [if_neg (fun y => by rw [hs] at y; cases y.1), settle_id hw hs, if_pos hw]
    have : putE F s (some e) = F := by
      funext x; unfold putE; split
      · rename_i hx; rw [hx, he']
      · rfl
    rw [this]
theorem crK_id {F : ByteArray → Option Ent} (h : Settled F) (ks : List Int) (ts : List (List UInt8)) : ∀ k, k ≤ ts.length → crK F ks ts k = (F, ks)
  | 0, _ => rfl
  | k + 1, hk => by rw [crK_succ F ks ts k (by omega), crK_id h ks ts k (by omega), crS_id h]
/-- All names are a log's. -/
def Nok (F : ByteArray → Option Ent) : Prop := ∀ s e, F s = some e → ∃ k, 1 ≤ k ∧ k ≤ 1000 ∧ s = nameW k
theorem Nok.sub {F F' : ByteArray → Option Ent} (h : Nok F) (hs : ∀ s e, F' s = some e → ∃ e', F s = some e') : Nok F' := fun s e he => by
  obtain ⟨e', he'⟩ := hs s e he
  exact h s e' he'
theorem putE_dom {F : ByteArray → Option Ent} {s t : ByteArray} {o : Option Ent} {e : Ent} (h : putE F s o t = some e) : t = s ∨ F t = some e := by
  unfold putE at h
  split at h
  · rename_i hx; exact .inl hx
  · exact .inr h
theorem writeD_dom {d : Dk} {s x t : ByteArray} {e : Ent} (h : (writeD d s x).F t = some e) : t = s ∨ ∃ e', d.F t = some e' := by
  have hA : ∀ e, (appD d s x).F t = some e → t = s ∨ ∃ e', d.F t = some e' := by
    intro e h
    unfold appD at h
    split at h
    · exact .inr ⟨e, h⟩
    split at h
    · exact .inr ⟨e, h⟩
    split at h
    · rw [stepD_F] at h; exact .inr ⟨e, h⟩
    · rcases putE_dom h with h | h
      · exact .inl h
      · exact .inr ⟨e, h⟩
  unfold writeD at h
  split at h
  · exact hA e h
  · unfold syncD at h
    split at h
    · rcases putE_dom h with h | h
      · exact .inl h
      · exact hA _ h
    · rw [stepOfD_F] at h; exact hA _ h
theorem removeD_dom {d : Dk} {s t : ByteArray} {e : Ent} (h : (removeD d s).F t = some e) : ∃ e', d.F t = some e' := by
  unfold removeD at h
  split at h
  · have h' : putE d.F s none t = some e := h
    unfold putE at h'
    split at h'
    · cases h'
    · exact ⟨e, h'⟩
  · rw [stepOfD_F] at h; exact ⟨e, h⟩
theorem rems_dom : ∀ (l : List ByteArray) (p : Int × Dk) {t : ByteArray} {e : Ent}, (l.foldl remS p).2.F t = some e → ∃ e', p.2.F t = some e'
  | [], p, t, e, h => ⟨e, h⟩
  | s :: l, p, t, e, h => by
    rw [List.foldl_cons] at h
    obtain ⟨e1, h1⟩ := rems_dom l _ h
    unfold remS at h1
    split at h1
    · exact ⟨e1, h1⟩
    · exact removeD_dom h1
theorem Nok.write {d : Dk} {k : Nat} {x : ByteArray} (h : Nok d.F) (h1 : 1 ≤ k) (h2 : k ≤ 1000) : Nok (writeD d (nameW k) x).F := fun s e he => by
  rcases writeD_dom he with rfl | ⟨e', he'⟩
  · exact ⟨k, h1, h2, rfl⟩
  · exact h s e' he'
theorem Nok.rems {d : Dk} (h : Nok d.F) (l : List ByteArray) : Nok (rems d l).2.F := h.sub fun s e he => rems_dom l (0, d) he
theorem crS_dom {p : (ByteArray → Option Ent) × List Int} {s t : ByteArray} {e : Ent} (h : (crS p s).1 t = some e) : ∃ e', p.1 t = some e' := by
  by_cases ht : t = s
  · subst ht
    unfold crS at h
    split at h
    · exact ⟨e, h⟩
    · rename_i e0 he0; exact ⟨e0, he0⟩
  · rw [crS_other _ _ _ ht] at h; exact ⟨e, h⟩
theorem crK_dom (F : ByteArray → Option Ent) (ks : List Int) (ts : List (List UInt8)) : ∀ k, k ≤ ts.length → ∀ {t : ByteArray} {e : Ent}, (crK F ks ts k).1 t = some e → ∃ e', F t = some e'
  | 0, _, t, e, h => ⟨e, h⟩
  | k + 1, hk, t, e, h => by
    rw [crK_succ F ks ts k (by omega)] at h
    obtain ⟨e1, h1⟩ := crS_dom h
    exact crK_dom F ks ts k (by omega) h1
theorem Nok.crash {d : Dk} (h : Nok d.F) (ks : List Int) (ts : List (List UInt8)) : Nok (crashD d ks ts).F := h.sub fun s e he => crK_dom d.F ks ts ts.length (Nat.le_refl _) he
theorem Nok.size {F : ByteArray → Option Ent} (h : Nok F) : ∀ s e, F s = some e → s.size ≤ 1000 := fun s e he => by
  obtain ⟨k, k1, k2, rfl⟩ := h s e he
  exact Nat.le_trans (nameW_le (by omega)) (by omega)
/-- What Open makes of a drive that a loss of power left. -/
theorem open_clean {d : Dk} {c : Lc} {base : ByteArray} {recs : List ByteArray} {ts : List (List UInt8)} (hd : d.down = false) (hl : d.lit = false) (hn : Nok d.F) (hset : Settled d.F) (hN : NamesF d.F ts) (hg : Lg (segT d) c base recs) :
    (rems d (tidyL c (namesP ts logP))).1 = 0 ∧ Good (rems d (tidyL c (namesP ts logP))).2 c base recs := by
  have hmem : ∀ s, s ∈ tidyL c (namesP ts logP) ↔ (d.F s).isSome = true ∧ Lib.hasPrefix s.data.toList logP.data.toList = true ∧ keepB c s = false := by
    intro s
    unfold tidyL
    rw [List.mem_filter, mem_names hN]
    constructor
    · rintro ⟨⟨h1, h2⟩, h3⟩; exact ⟨h1, h2, by simpa using h3⟩
    · rintro ⟨h1, h2, h3⟩; exact ⟨⟨h1, h2⟩, by simpa using h3⟩
  have hnd : (tidyL c (namesP ts logP)).Nodup := by
    unfold tidyL
    refine List.Nodup.sublist List.filter_sublist ?_
    rw [List.nodup_iff_pairwise_ne, List.pairwise_map]
    exact List.Pairwise.imp (fun h e => h (nm_inj e)) (List.nodup_iff_pairwise_ne.1 (List.Nodup.sublist List.filter_sublist hN.nodup))
  have h0 : (rems d (tidyL c (namesP ts logP))).1 = 0 := by
    refine rems_go _ _ hd hl hnd fun s hs => ?_
    have h1 := ((hmem s).1 hs).1
    refine ⟨?_, h1⟩
    cases hf : d.F s with
    | none => rw [hf] at h1; cases h1
    | some e =>
      obtain ⟨k, k1, k2, rfl⟩ := hn s e hf
      exact name_ok (by omega)
  refine ⟨h0, ?_⟩
  obtain ⟨r1, r2, r3⟩ := rems_done _ _ hd h0
  generalize (rems d (tidyL c (namesP ts logP))).2 = D at *
  have hkeep : ∀ k, 1 ≤ k → k ≤ 999999999 → (keepB c (nameW k) = true ↔ c.first ≤ k ∧ k ≤ c.last) := by
    intro k h1 h2
    unfold keepB
    rw [numW_name h1 h2]
    simp only [decide_eq_true_eq]
    omega
  have hsame : ∀ k, 1 ≤ k → c.first ≤ k → k ≤ c.last → k ≤ 999999999 → segT D k = segT d k := by
    intro k h1 h2 h3 h4
    rw [seg_up r1, seg_up hd]
    unfold txt
    rw [(r3 (nameW k)).2 (fun hm => by
      have := ((hmem _).1 hm).2.2
      rw [(hkeep k h1 h4).2 ⟨h2, h3⟩] at this; cases this)]
  refine ⟨r1, hg.keep (fun f0 k q1 q2 => hsame k (by omega) q1 q2 (by have := hg.le f0; omega)) (fun f0 => ?_), fun s e he => ?_⟩
  · by_cases h9 : c.last = 999999999
    · exact .inl h9
    · right; right
      have hle := hg.le f0
      have : segT D (c.last + 1) = ⟨#[]⟩ := by
        rw [seg_up r1]
        unfold txt
        cases hf : D.F (nameW (c.last + 1)) with
        | none => rfl
        | some e =>
          exfalso
          by_cases hm : nameW (c.last + 1) ∈ tidyL c (namesP ts logP)
          · rw [(r3 _).1 hm] at hf; cases hf
          · apply hm
            rw [(r3 _).2 hm] at hf
            refine (hmem _).2 ⟨by rw [hf]; rfl, name_pre _, ?_⟩
            cases hk : keepB c (nameW (c.last + 1)) with
            | false => rfl
            | true => have := (hkeep (c.last + 1) (by omega) (by omega)).1 hk; omega
      rw [this]; exact gone_nil
  · by_cases hm : s ∈ tidyL c (namesP ts logP)
    · rw [(r3 s).1 hm] at he; cases he
    · have he' := he
      rw [(r3 s).2 hm] at he'
      obtain ⟨k, k1, k2, rfl⟩ := hn s e he'
      obtain ⟨e1, e2⟩ := hset _ e he'
      have hk : keepB c (nameW k) = true := by
        cases hk : keepB c (nameW k) with
        | true => rfl
        | false => exact absurd ((hmem _).2 ⟨by rw [he']; rfl, name_pre _, hk⟩) hm
      have := (hkeep k k1 (by omega)).1 hk
      refine ⟨e1, e2, k, fun h0 => ?_, this.1, this.2, rfl⟩
      have h5 : c.last = 0 := congrArg Lc.last (hg.none h0).1
      omega
theorem tidy_count {d : Dk} {c : Lc} {ts : List (List UInt8)} (hn : Nok d.F) (hN : NamesF d.F ts) : (tidyL c (namesP ts logP)).length ≤ 1000 := by
  have hnd : (tidyL c (namesP ts logP)).Nodup := by
    unfold tidyL
    refine List.Nodup.sublist List.filter_sublist ?_
    rw [List.nodup_iff_pairwise_ne, List.pairwise_map]
    exact List.Pairwise.imp (fun h e => h (nm_inj e)) (List.nodup_iff_pairwise_ne.1 (List.Nodup.sublist List.filter_sublist hN.nodup))
  have := sub_len (b := (List.range' 1 1000).map nameW) hnd (fun s hs => by
    unfold tidyL at hs
    have h1 := ((mem_names hN).1 (List.mem_filter.1 hs).1).1
    cases hf : d.F s with
    | none => rw [hf] at h1; cases h1
    | some e =>
      obtain ⟨k, k1, k2, rfl⟩ := hn s e hf
      exact List.mem_map.2 ⟨k, by rw [List.mem_range'_1]; omega, rfl⟩)
  rwa [List.length_map, List.length_range'] at this
theorem Good.of_F {d d' : Dk} {c : Lc} {base : ByteArray} {recs : List ByteArray} (h : Good d c base recs) (hF : d'.F = d.F) (hd : d'.down = false) : Good d' c base recs := by
  have hs : segT d' = segT d := by
    funext k
    rw [seg_up hd, seg_up h.up, hF]
  exact ⟨hd, by rw [hs]; exact h.lg, by rw [hF]; exact h.firm⟩
theorem Good.settled {d : Dk} {c : Lc} {base : ByteArray} {recs : List ByteArray} (h : Good d c base recs) : Settled d.F := fun s e he => by
  obtain ⟨h1, h2, _⟩ := h.firm s e he
  exact ⟨h1, h2⟩
/-- Another loss of power changes nothing. -/
theorem Good.crash {d : Dk} {c : Lc} {base : ByteArray} {recs : List ByteArray} (h : Good d c base recs) (ks : List Int) (ts : List (List UInt8)) : Good (crashD d ks ts) c base recs := by
  refine h.of_F ?_ rfl
  show (crK d.F ks ts ts.length).1 = d.F
  rw [crK_id h.settled ks ts ts.length (Nat.le_refl _)]
end Go.Proofs.YtphljjgjpkdpmaaGreatDoor
/- Stage 9: a log's calls, whatever they come to; Open behind a loss of power. -/
namespace Go.Proofs.YtphljjgjpkdpmaaGreatDoor
open Go.RowKit Go.Maps Go.Sort
set_option linter.unusedVariables false
/-- A log's numbers are in order. -/
def LcN (c : Lc) : Prop := (c.first = 0 ↔ c.last = 0) ∧ c.first ≤ c.last
section
variable {B : Nat} {w w' : World} {lb db mb n n' : Nat} {G : ByteArray → Option Nat} {c c' : Lc} {d d' : Dk} {base : ByteArray} {recs l : List ByteArray}
theorem writeL_n (h : LcN c) (hp : placeE c = 0) (hs : sealOk l) (hc : LcOk c) : LcN (writeL c d (placeN c) (placeH c ++ sealB l)) ∧ (writeL c d (placeN c) (placeH c ++ sealB l)).size ≤ c.size + 100000 := by
  obtain ⟨q1, q2, q3⟩ := place_lim c hc hp
  have hb : (sealB l).size ≤ 65536 := by rw [sealB_size]; exact hs.2
  have hN : c.last ≤ placeN c := by
    rcases place_cases c hp with ⟨h1, h2, _⟩ | ⟨_, _, _, h1, _⟩ | ⟨_, _, _, h1, _⟩ <;> omega
  obtain ⟨h1, h2⟩ := h
  unfold writeL
  split
  · unfold growC LcN
    rw [ba_size_app]
    generalize placeN c = N at *
    by_cases f0 : c.first = 0
    · rw [if_pos f0]
      refine ⟨⟨⟨fun h => ?_, fun h => h⟩, Nat.le_refl _⟩, ?_⟩
      · have h' : N = 0 := h
        omega
      · show (if N = c.last then c.size else 0) + _ ≤ _
        split <;> omega
    · rw [if_neg f0]
      refine ⟨⟨⟨fun h => absurd h f0, fun h => ?_⟩, ?_⟩, ?_⟩
      · have h' : N = 0 := h
        omega
      · show c.first ≤ N
        omega
      · show (if N = c.last then c.size else 0) + _ ≤ _
        split <;> omega
  · exact ⟨⟨h1, h2⟩, by omega⟩
theorem Append_gen (v : Value) (h : Wl B w lb db mb n G c d) (hc : LcN c) (hz : c.size ≤ 1000000000) (hr : RowAt w v (l.map Value.string)) (hlen : l.length ≤ 20000) (hs : ∀ s ∈ l, s.size ≤ 1000000000) (hl : c.last < 1000) (hst : d.steps + 1 < 1000000) (hn : n < 1000000) (hk : Nok d.F) :
    Calls Tryz.prog 16 #[.pointer (some ⟨lb, 0, none⟩), v] w fun e w' => (∃ x : Int, e = .returned (.int .i64 x)) ∧ ∃ n' c' d', n' ≤ n + 1 ∧ WEnd lb db mb G n' c' d' w w' ∧ Nok d'.F ∧ d'.steps ≤ d.steps + 2 ∧ c'.last ≤ c.last + 1 ∧ c'.size ≤ c.size + 100000 ∧ LcN c' := by
  by_cases h1 : sealOk l
  · by_cases h0 : l = []
    · subst h0
      refine (LAppend_none lb v w h.va.mv hr).mono ?_
      rintro e w' ⟨rfl, g⟩
      exact ⟨⟨_, rfl⟩, n, c, d, by omega, WEnd.same h.wat g, hk, by omega, by omega, by omega, hc⟩
    · have hok : LcOk c := ⟨hc.1, hc.2, by omega, hz⟩
      have hp := place_ok (c := c) (by omega)
      refine (LAppend_through lb db mb n G c d B v l w h.wat h.va h.lo h.hb hok hst hn hr hlen h0 h1 hp).mono ?_
      rintro e w' ⟨rfl, n', hn', hE⟩
      have hN : placeN c ≤ c.last + 1 ∧ 1 ≤ placeN c := ⟨by
        rcases place_cases c hp with ⟨_, q, _⟩ | ⟨_, _, _, q, _⟩ | ⟨_, _, _, q, _⟩ <;> omega, (place_lim c hok hp).1⟩
      obtain ⟨e1, e2⟩ := writeL_n (d := d) hc hp h1 hok
      exact ⟨⟨_, rfl⟩, n', _, _, hn', hE, hk.write hN.2 (by omega), writeD_steps _ _ _, writeL_last hp, e2, e1⟩
  · refine (LAppend_long lb v l w h.va.mv hr hlen hs h1).mono ?_
    rintro e w' ⟨rfl, g⟩
    exact ⟨⟨_, rfl⟩, n, c, d, by omega, WEnd.same h.wat g, hk, by omega, by omega, by omega, hc⟩
theorem Lay_gen (s : ByteArray) (h : Wl B w lb db mb n G c d) (hc : LcN c) (hz : c.size ≤ 1000000000) (hs : s.size ≤ 524288) (hl : c.last < 1000) (hst : d.steps + 3 + (c.last + 1 - c.first) < 1000000) (hn : n < 1000000) (hk : Nok d.F) :
    Calls Tryz.prog 18 #[.pointer (some ⟨lb, 0, none⟩), .string s] w fun e w' => (∃ x : Int, e = .returned (.int .i64 x)) ∧ ∃ n' c' d', n' ≤ n + 1 ∧ WEnd lb db mb G n' c' d' w w' ∧ Nok d'.F ∧ d'.steps ≤ d.steps + 2 + (c.last + 1 - c.first) ∧ c'.last ≤ c.last + 1 ∧ c'.size ≤ c.size + 700000 ∧ LcN c' := by
  have hok : LcOk c := ⟨hc.1, hc.2, by omega, hz⟩
  refine (Lay_any lb db mb n G c d B s w h.wat h.va h.lo h.hb hok hs (by omega) hst hn).mono ?_
  rintro e w' ⟨rfl, n', hn', hE⟩
  have hx := (layX_size s hs).2
  refine ⟨⟨_, rfl⟩, n', _, _, hn', hE, ?_, layD_steps _ _ _, ?_, ?_, ?_⟩
  · have hw := hk.write (k := c.last + 1) (x := layX s) (by omega) (by omega)
    unfold layD
    split
    · exact hw
    · exact hw.rems _
  · unfold layL
    split
    · omega
    · show c.last + 1 ≤ _; omega
  · unfold layL
    split
    · omega
    · show (layX s).size ≤ _; omega
  · unfold layL
    split
    · exact hc
    · exact ⟨⟨fun h => h, fun h => h⟩, Nat.le_refl _⟩
theorem Fuse_gen (k : Int) (h : Wl B w lb db mb n G c d) (hk : k ≤ 9223372036854775807) :
    Calls Tryz.prog 19 #[.pointer (some ⟨db, 0, none⟩), .int .i64 k] w fun e w' => e = .returned (.tuple #[]) ∧ WEnd lb db mb G n c (fuseD d k) w w' :=
  (Fuse_any db mb n G d k w h.wat.dr hk).mono fun e w' ⟨he, hE⟩ => ⟨he, WEnd.drive h.wat hE⟩
theorem own_ints {ks : List Int} {v8 : Value} {w8 : World} (o8 : w8.ownsRow 0 3 1 v8 (0 + (ks.map (Value.int .i64)).length) ([] ++ ks.map (Value.int .i64))) (g8 : (w.alloc (.cells #[] 3)).grownBy w8 (Value.slice (some ⟨w.heap.size, 0, none⟩) 0 0).ownBlock) (m8 : Moved (w.alloc (.cells #[] 3)) (.slice (some ⟨w.heap.size, 0, none⟩) 0 0) v8) :
    NewBlk w v8 ∧ w.grownBy w8 none ∧ w8.ownsRow 0 3 1 v8 ks.length (ks.map (Value.int .i64)) := by
  refine ⟨fun k hk => ?_, ?_, by simpa using o8⟩
  · rcases m8 with m | ⟨j, hj, m⟩
    · rw [m] at hk
      have : w.heap.size = k := by simpa [Value.ownBlock] using hk
      omega
    · rw [m] at hk
      injection hk with hk
      subst hk
      have : (w.alloc (.cells #[] 3)).heap.size = w.heap.size + 1 := by simp
      omega
  · have hne : ∀ i, i < w.heap.size → some i ≠ (Value.slice (some ⟨w.heap.size, 0, none⟩) 0 0).ownBlock := fun i hi e => by
      have : i = w.heap.size := by simpa [Value.ownBlock] using e
      omega
    exact ⟨g8.os, g8.tape, g8.output, Nat.le_trans (by simp) g8.size, fun i hi _ => (g8.block i (by simp; omega) (hne i hi)).trans (Below.heap_alloc w _ i hi)⟩
/-- Open, behind a loss of power. -/
theorem Open_clean (h : DAt w db mb n G d) (hv : Va B w) (hlo : ∀ i, DS db mb G i → B ≤ i) (hB : B ≤ w.heap.size) (hd : d.down = false) (hl : d.lit = false) (hk : Nok d.F) (hset : Settled d.F) (hst : d.steps + n < 900000) :
    Calls Tryz.prog 15 #[.pointer (some ⟨db, 0, none⟩)] w fun e w' => ∃ v c d' base recs G', Good d' c base recs ∧ d'.steps ≤ d.steps + 1000 ∧ recs.length ≤ maxLen ∧ e = .returned (.tuple #[.pointer (some ⟨w.heap.size, 0, none⟩), .string base, v, .int .i64 0]) ∧ RowN (DS db mb G') w' v (recs.map Value.string)
      ∧ DAt w' db mb n G' d' ∧ Va B w' ∧ (∀ i, DS db mb G' i → B ≤ i) ∧ B ≤ w'.heap.size ∧ Below B w w' := by
  refine (Open_up db mb n G d w h B hv hlo hB hd (by omega) hk.size).mono ?_
  rintro e w' ⟨ts, c, base, recs, hN, hf, hlg, hx⟩
  obtain ⟨h0, hg⟩ := open_clean hd hl hk hset hN hlg
  rcases hx with ⟨_, v, G', h1, h2, h3, h4, h5, h6, h7⟩ | ⟨hx, _⟩
  · have hlo' : ∀ i, DS db mb G' i → B ≤ i := by
      intro i hi
      rcases hi with rfl | rfl | ⟨t, hi⟩
      · exact hlo _ (.inl rfl)
      · exact hlo _ (.inr (.inl rfl))
      · rcases h7 t i hi with ⟨u, y⟩ | y
        · exact hlo _ (.inr (.inr ⟨u, y⟩))
        · exact Nat.le_trans hB y
    have hb := h6.below hB hlo
    have hrow : RowN (DS db mb G') w' v (recs.map Value.string) := by
      have hl : (recs.map Value.string).length = recs.length := List.length_map _
      rcases h2.2 with ⟨rfl, r0⟩ | ⟨g, cap, cur, rfl, hb', hh, q1, q2, q3, q4⟩
      · have : recs.map Value.string = [] := List.eq_nil_of_length_eq_zero (by rw [hl]; exact r0)
        rw [this]
        exact ⟨none, 0, rfl, Nat.zero_le _, .inl rfl⟩
      · have hR := RowAt.of_own h2
        obtain ⟨a', c', e', hR⟩ := hR
        injection e' with e1 e2 e3
        refine ⟨_, cap, by rw [hl], by rw [hl]; exact q1, ?_⟩
        rcases hR with hR | ⟨b, off, he, hbb, hcc⟩
        · exact .inl hR
        · refine .inr ⟨b, off, by rw [e1]; exact he, hbb, ?_, hcc⟩
          rw [he] at e1
          injection e1 with e1
          injection e1 with e1 e4
          rw [← e1]
          exact (h4 g rfl).2
    have hlen : recs.length ≤ maxLen := by
      obtain ⟨a, c2, _, hc2⟩ := hrow.form
      rcases h2.2 with ⟨_, r0⟩ | ⟨g, cap, cur, _, _, _, q1, q2, _⟩
      · rw [r0]; exact Nat.zero_le _
      · exact Nat.le_trans q1 q2
    exact ⟨v, c, _, base, recs, G', hg, by
      have q1 := rems_steps d (tidyL c (namesP ts logP)) (0, d)
      have q2 := tidy_count (c := c) hk hN
      unfold rems
      simp only at q1
      omega, hlen, h1, hrow, h5.dr, hv.below hb, hlo', Nat.le_trans hB h6.size, hb⟩
  · exact absurd h0 hx
end
end Go.Proofs.YtphljjgjpkdpmaaGreatDoor
/- Stage 9: what a loss of power leaves where one file waits: pure. -/
namespace Go.Proofs.YtphljjgjpkdpmaaGreatDoor
open Go.RowKit Go.Maps Go.Sort
set_option linter.unusedVariables false
theorem frB_pos (p : ByteArray) : 5 ≤ (frB p).length := by
  rw [frB_size]
  have := numB_pos (p.size : Int)
  omega
/-- How many frames are whole in the first bytes. -/
theorem cut_count (l : List ByteArray) (cut : Nat) (h : cut ≤ (framesB l).length) : ∃ k, k ≤ l.length ∧ (framesB (l.take k)).length ≤ cut ∧ ∀ h : k < l.length, cut < (framesB (l.take k)).length + (frB l[k]).length := by
  induction l generalizing cut with
  | nil => exact ⟨0, Nat.le_refl _, by simp [framesB], fun h => absurd h (Nat.lt_irrefl 0)⟩
  | cons p l ih =>
    have e : (framesB (p :: l)).length = (frB p).length + (framesB l).length := by unfold framesB; simp only [List.flatMap_cons, List.length_append]
    by_cases hc : cut < (frB p).length
    · exact ⟨0, Nat.zero_le _, by simp [framesB], fun h => by simpa [framesB] using hc⟩
    · obtain ⟨k, k1, k2, k3⟩ := ih (cut - (frB p).length) (by omega)
      refine ⟨k + 1, by simpa using k1, ?_, fun h => ?_⟩
      · have e2 : (framesB ((p :: l).take (k + 1))).length = (frB p).length + (framesB (l.take k)).length := by unfold framesB; simp only [List.take_succ_cons, List.flatMap_cons, List.length_append]
        omega
      · have e2 : (framesB ((p :: l).take (k + 1))).length = (frB p).length + (framesB (l.take k)).length := by unfold framesB; simp only [List.take_succ_cons, List.flatMap_cons, List.length_append]
        have h' : k < l.length := by simpa using h
        have := k3 h'
        have e3 : (p :: l)[k + 1] = l[k] := rfl
        rw [e2, e3]
        omega
/-- Frames cut off. -/
theorem frames_cut (l : List ByteArray) (hs : ∀ s ∈ l, s.size ≤ 1048576) (cut : Nat) (h : cut ≤ (framesB l).length) : ∃ k c, k ≤ l.length ∧ Scans (bs ((framesB l).take cut)) (l.take k) c := by
  obtain ⟨k, k1, k2, k3⟩ := cut_count l cut h
  have e : framesB l = framesB (l.take k) ++ framesB (l.drop k) := by rw [← fr_app, List.take_append_drop]
  have e2 : (framesB l).take cut = framesB (l.take k) ++ (framesB (l.drop k)).take (cut - (framesB (l.take k)).length) := by
    conv => lhs; rw [e]
    rw [List.take_append, List.take_of_length_le k2]
  have hstop : opB (bs ((framesB (l.drop k)).take (cut - (framesB (l.take k)).length))) = false := by
    by_cases hlt : k < l.length
    · have e3 : framesB (l.drop k) = frB l[k] ++ framesB (l.drop (k + 1)) := by
        rw [List.drop_eq_getElem_cons hlt]; unfold framesB; simp only [List.flatMap_cons]
      have h4 := k3 hlt
      rw [e3, List.take_append_of_le_length (by omega)]
      exact open_cut _ (hs _ (List.getElem_mem hlt)) _ (by omega)
    · have e3 : framesB (l.drop k) = [] := by rw [List.drop_of_length_le (by omega)]; rfl
      rw [e3, List.take_nil]
      exact op_nil
  have := Scans.ahead (.stop _ hstop) (l.take k) (fun s hs' => hs s (List.mem_of_mem_take hs'))
  rw [List.append_nil] at this
  exact ⟨k, _, k1, by rw [e2]; exact this⟩
/-- A text of frames alone, and a cut of frames behind it. -/
theorem scan_cut {s : ByteArray} {l : List ByteArray} (h : (scanC s).size = 0) (hl : ∀ p ∈ l, p.size ≤ 1048576) (cut : Nat) (hc : cut ≤ (framesB l).length) :
    ∃ k, k ≤ l.length ∧ scanL (s ++ bs ((framesB l).take cut)) = scanL s ++ l.take k := by
  obtain ⟨k, c, k1, hk⟩ := frames_cut l hl cut hc
  obtain ⟨h1, h2⟩ := scans_eq (scan_spec s)
  have hc0 : (scanC s).data.toList = [] := by
    apply List.eq_nil_of_length_eq_zero
    rw [len_bs]; exact h
  rw [hc0, List.append_nil] at h1
  have e : s ++ bs ((framesB l).take cut) = bs (framesB (scanL s) ++ (framesB l).take cut) := by
    rw [← h1]
    conv => lhs; rw [← bs_self s]
    exact ByteArray.mk_append_mk _ _
  have := Scans.ahead hk (scanL s) h2
  rw [← e] at this
  exact ⟨k, k1, (scan_is this).1.symm⟩
/-- What a loss of power makes of a file. -/
def crE (e : Ent) (m : Nat) : Option Ent := if e.s = false ∧ (e.l ++ e.w.extract 0 m).size = 0 then none else some ⟨e.l ++ e.w.extract 0 m, ⟨#[]⟩, true⟩
theorem putE_put (F : ByteArray → Option Ent) (s : ByteArray) (a b : Option Ent) : putE (putE F s a) s b = putE F s b := putE_twice F s a b
theorem putE_same {F : ByteArray → Option Ent} {s : ByteArray} {o : Option Ent} (h : F s = o) : putE F s o = F := by
  funext x; unfold putE; split
  · rename_i hx; rw [hx, h]
  · rfl
theorem crS_one {F : ByteArray → Option Ent} {ks : List Int} {t : ByteArray} (h : ∀ e, F t = some e → e.w.size = 0 ∧ e.s = true) : (crS (F, ks) t).1 = F := by
  unfold crS
  split
  · rfl
  · rename_i e he
    have he' : F t = some e := he
    obtain ⟨hw, hs⟩ := h e he'
    show putE F t _ = F
    rw [if_neg (fun y => by rw [hs] at y; cases y.1), settle_id hw hs]
    exact putE_same he'
theorem crS_wait {F : ByteArray → Option Ent} {ks : List Int} {s : ByteArray} {e : Ent} (he : F s = some e) (hw : e.w.size ≠ 0) : ∃ m, m ≤ e.w.size ∧ (crS (F, ks) s).1 = putE F s (crE e m) := by
  refine ⟨(max 0 (min (ks.headD 0) (e.w.size : Int))).toNat, by omega, ?_⟩
  unfold crS
  split
  · rename_i hn
    have : F s = none := hn
    rw [he] at this; cases this
  · rename_i e0 he0
    have : F s = some e0 := he0
    rw [he] at this
    injection this with this
    subst this
    show putE F s _ = _
    rw [if_neg hw]
    congr 1
theorem crK_one {F : ByteArray → Option Ent} {s : ByteArray} {e : Ent} (he : F s = some e) (hw : e.w.size ≠ 0) (ho : ∀ t e', t ≠ s → F t = some e' → e'.w.size = 0 ∧ e'.s = true) (ks : List Int) (ts : List (List UInt8)) :
    ∀ k, k ≤ ts.length → (crK F ks ts k).1 = F ∨ ∃ m, m ≤ e.w.size ∧ (crK F ks ts k).1 = putE F s (crE e m)
  | 0, _ => .inl rfl
  | k + 1, hk => by
    rw [crK_succ F ks ts k (by omega)]
    obtain ⟨F1, hF1⟩ : ∃ F1, F1 = (crK F ks ts k).1 := ⟨_, rfl⟩
    obtain ⟨k1, hk1⟩ : ∃ k1, k1 = (crK F ks ts k).2 := ⟨_, rfl⟩
    have hp : crK F ks ts k = (F1, k1) := by rw [hF1, hk1]
    have ih := crK_one he hw ho ks ts k (by omega)
    rw [hp] at ih ⊢
    by_cases ht : nm ts[k] = s
    · rw [ht]
      rcases ih with h | ⟨m, hm, h⟩
      · have h' : F1 = F := h
        subst h'
        exact .inr (crS_wait he hw)
      · have h' : F1 = putE F s (crE e m) := h
        refine .inr ⟨m, hm, ?_⟩
        rw [crS_one (fun e' he' => ?_)]
        · exact h'
        · rw [h'] at he'
          unfold putE crE at he'
          rw [if_pos rfl] at he'
          split at he'
          · cases he'
          · injection he' with he'
            rw [← he']; exact ⟨rfl, rfl⟩
    · have h1 : (crS (F1, k1) (nm ts[k])).1 = F1 := crS_one fun e' he' => by
        have : F (nm ts[k]) = some e' := by
          rcases ih with h | ⟨m, hm, h⟩
          · have h' : F1 = F := h
            rw [← h']; exact he'
          · have h' : F1 = putE F s (crE e m) := h
            rw [h'] at he'
            unfold putE at he'
            rwa [if_neg ht] at he'
        exact ho _ e' ht this
      rw [h1]
      exact ih
theorem crash_one {d : Dk} {s : ByteArray} {e : Ent} {ks : List Int} {ts : List (List UInt8)} (he : d.F s = some e) (hw : e.w.size ≠ 0) (ho : ∀ t e', t ≠ s → d.F t = some e' → e'.w.size = 0 ∧ e'.s = true) (hN : NamesF d.F ts) : ∃ m, m ≤ e.w.size ∧ (crashD d ks ts).F = putE d.F s (crE e m) := by
  rcases crK_one he hw ho ks ts ts.length (Nat.le_refl _) with h | h
  · exfalso
    have h1 := crash_settled (d := d) (ks := ks) hN
    have h2 : (crashD d ks ts).F = d.F := h
    rw [h2] at h1
    exact hw (h1 s e he).1
  · exact h
end Go.Proofs.YtphljjgjpkdpmaaGreatDoor
/- Stage 9: what is found behind a write that was cut off: pure. -/
namespace Go.Proofs.YtphljjgjpkdpmaaGreatDoor
open Go.RowKit Go.Maps Go.Sort
set_option linter.unusedVariables false
/-- The log begins where the last segment that begins stands. -/
def FirstOk (T : Nat → ByteArray) (c : Lc) : Prop := (c.first ≠ 0 → begK (T c.first) = true) ∧ ∀ k, 1 ≤ k → begK (T k) = true → k ≤ c.first
theorem beg_nil : begK (⟨#[]⟩ : ByteArray) = false := by
  cases h : begK (⟨#[]⟩ : ByteArray) with
  | false => rfl
  | true => exact absurd (beg_op h) (by rw [show opB (⟨#[]⟩ : ByteArray) = false from op_nil]; decide)
theorem first_of {d : Dk} {c : Lc} {ts : List (List UInt8)} (hd : d.down = false) (hN : NamesF d.F ts) (h9 : c.first ≤ 999999999) (h : FirstOk (segT d) c) : begN d ((namesP ts logP).map nm) = c.first := by
  obtain ⟨a, ha⟩ : ∃ a, a = begN d ((namesP ts logP).map nm) := ⟨_, rfl⟩
  rw [← ha]
  have h1 : a ≤ c.first := by
    by_cases h0 : a = 0
    · omega
    · obtain ⟨a1, a2, a3⟩ := begN_is ha.symm h0
      exact h.2 a (by omega) a3
  by_cases f0 : c.first = 0
  · omega
  · have hb := h.1 f0
    have hsome : (d.F (nameW c.first)).isSome = true := by
      cases hf : d.F (nameW c.first) with
      | some e => rfl
      | none =>
        have : segT d c.first = ⟨#[]⟩ := by
          rw [seg_up hd]; unfold txt; rw [hf]
        rw [this, beg_nil] at hb; cases hb
    have := begN_max (d := d) (l := (namesP ts logP).map nm) (k := c.first) (by omega) h9 ((mem_names hN).2 ⟨hsome, name_pre _⟩) hb
    omega
/-- What is found is what such a log is. -/
theorem found_is {d : Dk} {c c' : Lc} {base base' : ByteArray} {recs recs' : List ByteArray} {ts : List (List UInt8)} (hd : d.down = false) (hN : NamesF d.F ts) (hf : c'.first = begN d ((namesP ts logP).map nm)) (h' : Lg (segT d) c' base' recs') (hk : FirstOk (segT d) c) (h : Lg (segT d) c base recs) : base' = base ∧ recs' = recs := by
  have h9 : c.first ≤ 999999999 := by
    by_cases f0 : c.first = 0
    · omega
    · have := h.le f0; omega
  rw [first_of hd hN h9 hk] at hf
  obtain ⟨_, e2, e3⟩ := Lg.same h' h hf
  exact ⟨e2, e3⟩
/-- A frame that is cut off. -/
theorem frame_cut {p : ByteArray} (hp : p.size ≤ 1048576) {y : ByteArray} {m : Nat} (hm : m < (bs (frB p)).size) : opB ((bs (frB p) ++ y).extract 0 m) = false := by
  rw [bs_size] at hm
  have e : (bs (frB p) ++ y).extract 0 m = bs ((frB p).take m) := by
    have e1 : bs (frB p) ++ y = bs (frB p ++ y.data.toList) := by
      conv => lhs; rw [← bs_self y]
      exact ByteArray.mk_append_mk _ _
    rw [e1, extract_bs, List.drop_zero, Nat.sub_zero, List.take_append_of_le_length (by omega)]
  rw [e]
  exact open_cut p hp m hm
theorem frame_whole {h y : ByteArray} {l : List ByteArray} {m : Nat} (hy : y = bs (framesB l)) (hm : h.size ≤ m) (hm2 : m ≤ (h ++ y).size) : (h ++ y).extract 0 m = h ++ bs ((framesB l).take (m - h.size)) ∧ m - h.size ≤ (framesB l).length := by
  rw [ba_size_app, hy, bs_size] at hm2
  refine ⟨?_, by omega⟩
  have e1 : h ++ y = bs (h.data.toList ++ framesB l) := by
    rw [hy]
    conv => lhs; rw [← bs_self h]
    exact ByteArray.mk_append_mk _ _
  rw [e1, extract_bs, List.drop_zero, Nat.sub_zero]
  rw [List.take_append, List.take_of_length_le (by rw [len_bs]; exact hm), len_bs]
  conv => rhs; rw [← bs_self h]
  exact (ByteArray.mk_append_mk _ _).symm
theorem goX_bs (n : Int) (hn : -9223372036854775808 ≤ n ∧ n ≤ 9223372036854775807) : ∃ p, p.size ≤ 1048576 ∧ goX n = bs (frB p) := by
  refine ⟨⟨(numsB [2]).toArray⟩ ++ ⟨(numsB [n]).toArray⟩, ?_, ?_⟩
  · rw [ba_size_app]
    have h1 := nums1_size 2 (by omega)
    have h2 := nums1_size n hn
    omega
  · unfold goX headW framesB
    simp only [List.flatMap_cons, List.flatMap_nil, List.append_nil]
    rfl
theorem layX_bs (s : ByteArray) (hs : s.size ≤ 524288) : ∃ p, p.size ≤ 1048576 ∧ layX s = bs (frB p) := by
  refine ⟨⟨(numsB [1]).toArray⟩ ++ ⟨(textsB [s]).toArray⟩, ?_, ?_⟩
  · rw [ba_size_app]
    have h1 := nums1_size 1 (by omega)
    have h2 := (layX_size s hs).1
    omega
  · unfold layX headW framesB
    simp only [List.flatMap_cons, List.flatMap_nil, List.append_nil]
    rfl
section
variable {d : Dk} {c : Lc} {base : ByteArray} {recs l : List ByteArray}
theorem Good.beg_only (h : Good d c base recs) {k : Nat} (hb : begK (segT d k) = true) : c.first ≠ 0 ∧ k = c.first := by
  by_cases f0 : c.first = 0
  · rw [h.none (.inl f0), beg_nil] at hb; cases hb
  · refine ⟨f0, ?_⟩
    by_cases h1 : k < c.first
    · rw [h.none (.inr (.inr h1)), beg_nil] at hb; cases hb
    by_cases h2 : c.last < k
    · rw [h.none (.inr (.inl h2)), beg_nil] at hb; cases hb
    by_cases he : k = c.first
    · exact he
    · exfalso
      have hg := (h.lg.all f0 (k - 1) (by omega) (by omega)).1
      rw [show k - 1 + 1 = k by omega, beg_not_gone hb] at hg
      cases hg
theorem Good.firstOk (h : Good d c base recs) : FirstOk (segT d) c := ⟨fun f0 => (h.lg.beg f0).1, fun k _ hb => Nat.le_of_eq (h.beg_only hb).2⟩
theorem not_gone_beg {s : ByteArray} (h : goneK s = true) : begK s = false := by
  cases hb : begK s with
  | false => rfl
  | true => rw [beg_not_gone hb] at h; cases h
theorem not_op_beg {s : ByteArray} (h : opB s = false) : begK s = false ∧ goneK s = false := by
  unfold begK goneK
  rw [h]; exact ⟨rfl, rfl⟩
theorem made_size (s : ByteArray) : (s.size - (scanC s).size) + (scanC s).size = s.size := by have := scan_le s; omega
/-- What is found behind an Append that was cut off. -/
theorem half_append (hG : Good d c base recs) (hs : sealOk l) (hp : placeE c = 0) (hz : c.size ≤ 1000000000) {T' : Nat → ByteArray} {m : Nat} (hm : m ≤ (placeH c ++ sealB l).size) (hT : T' (placeN c) = segT d (placeN c) ++ (placeH c ++ sealB l).extract 0 m) (hO : ∀ k, k ≠ placeN c → T' k = segT d k) :
    ∃ c' k, k ≤ l.length ∧ Lg T' c' base (recs ++ l.take k) ∧ FirstOk T' c' := by
  have hsm := seal_small hs
  have hpc := place_cases c hp
  clear hp
  generalize placeN c = PN at *
  generalize placeH c = PH at *
  rcases hpc with ⟨p0, p1, p2⟩ | ⟨p0, p1, p2, p3, p4⟩ | ⟨p0, p1, p2, p3, p4⟩
  · have f0 : c.first = 0 := by
      by_cases hf : c.first = 0
      · exact hf
      · have := hG.lg.le hf; omega
    obtain ⟨e1, e2, e3⟩ := hG.lg.none f0
    subst e2 e3 p1 p2
    rw [hG.none (.inl f0), ba_left] at hT
    have hO2 : ∀ k, k ≠ 1 → T' k = ⟨#[]⟩ := fun k hk => by rw [hO k hk, hG.none (.inl f0)]
    obtain ⟨q, hq, hX⟩ := layX_bs ⟨#[]⟩ (by show 0 ≤ _; omega)
    by_cases hc : m < (layX ⟨#[]⟩).size
    · rw [hX] at hT hc
      have hno := frame_cut hq (y := sealB l) hc
      rw [← hT] at hno
      refine ⟨⟨0, 0, 0, false⟩, 0, Nat.zero_le _, by simpa using Lg.zero T', fun h => absurd rfl h, fun k hk hb => ?_⟩
      by_cases h1 : k = 1
      · rw [h1, (not_op_beg hno).1] at hb; cases hb
      · rw [hO2 k h1, beg_nil] at hb; cases hb
    · obtain ⟨w1, w2⟩ := frame_whole (h := layX ⟨#[]⟩) (y := sealB l) (l := l) rfl (by omega) hm
      rw [w1] at hT
      obtain ⟨k1, k2, k3, k4, k5, k6⟩ := head_beg ⟨#[]⟩ (by show 0 ≤ _; omega)
      obtain ⟨b1, b2⟩ := beg_add k1 (bs ((framesB l).take (m - (layX ⟨#[]⟩).size)))
      obtain ⟨j, j1, j2⟩ := scan_cut k6 hsm _ w2
      rw [← hT] at b1 b2 j2
      have hlg := Lg.made (T := T') (f := 1) (k := 1) (by rw [b1, k2]) (by omega) (Nat.le_refl _) (by omega) (fun i h1 h2 => by omega) (.inr fun hg => by
        have := hg.1
        rw [hO2 2 (by omega), gone_nil] at this; cases this) (made_size (T' 1)) rfl
      rw [b2, k3, j2, k5, Nat.sub_self, recs_zero] at hlg
      exact ⟨_, j, j1, hlg, fun _ => by show begK (T' 1) = true; rw [b1, k2], fun k hk hb => by
        by_cases h1 : k = 1
        · show k ≤ 1; omega
        · rw [hO2 k h1, beg_nil] at hb; cases hb⟩
  · subst p3 p4
    rw [ba_left] at hT hm
    have f0 := hG.lg.first0 p0
    have hle := hG.lg.le f0
    have hop := hG.lg.op f0 hle.1 (Nat.le_refl _)
    obtain ⟨z1, z2⟩ := hG.lg.size f0
    rw [p1] at z2
    have hz0 : (scanC (segT d c.last)).size = 0 := by simpa using z2
    have hcut : (sealB l).extract 0 m = bs ((framesB l).take m) := by
      rw [sealB_bs, extract_bs, List.drop_zero, Nat.sub_zero]
    rw [hcut] at hT
    have hm' : m ≤ (framesB l).length := by rw [sealB_size] at hm; exact hm
    obtain ⟨j, j1, j2⟩ := scan_cut hz0 hsm m hm'
    obtain ⟨b1, b2⟩ := beg_add hop (bs ((framesB l).take m))
    obtain ⟨g1, g2⟩ := gone_add hop (bs ((framesB l).take m))
    rw [← hT] at j2 b1 b2 g1 g2
    have hbeg : begK (T' c.first) = true ∧ begB (T' c.first) = base := by
      by_cases he : c.first = c.last
      · rw [he, b1, b2, ← he]; exact ⟨(hG.lg.beg f0).1, (hG.lg.beg f0).2.symm⟩
      · rw [hO c.first he]; exact ⟨(hG.lg.beg f0).1, (hG.lg.beg f0).2.symm⟩
    have hk : ∀ k, k < c.last → goneK (T' (k + 1)) = goneK (segT d (k + 1)) ∧ goneN (T' (k + 1)) = goneN (segT d (k + 1)) := by
      intro k hk
      by_cases he : k + 1 = c.last
      · rw [he]; exact ⟨g1, g2⟩
      · rw [hO (k + 1) he]; exact ⟨rfl, rfl⟩
    have hn1 : T' (c.last + 1) = ⟨#[]⟩ := by rw [hO _ (by omega), hG.none (.inr (.inl (by omega)))]
    have hlg := Lg.made (T := T') (f := c.first) (k := c.last) hbeg.1 (by omega) hle.1 hle.2 (fun i h1 h2 => (goes_eq (hO i (by omega)) (hk i h2).1 (hk i h2).2).2 (hG.lg.all f0 i h1 h2)) (.inr fun hg => by
      have := hg.1
      rw [hn1, gone_nil] at this; cases this) (made_size (T' c.last)) rfl
    rw [hbeg.2, j2, drop1_app (scan_ne hop), recs_eq (T := segT d) (c.last - c.first) (fun i hi => recOf_eq (hO _ (by omega)) (hk _ (by omega)).2), ← List.append_assoc, ← hG.lg.recs f0] at hlg
    refine ⟨_, j, j1, hlg, fun _ => hbeg.1, fun k hk1 hb => ?_⟩
    by_cases he : k = c.last
    · rw [he, b1] at hb
      rw [he]
      exact Nat.le_of_eq (hG.beg_only hb).2
    · rw [hO k he] at hb
      exact Nat.le_of_eq (hG.beg_only hb).2
  · subst p3 p4
    have f0 := hG.lg.first0 p0
    have hle := hG.lg.le f0
    have hop := hG.lg.op f0 hle.1 (Nat.le_refl _)
    rw [hG.none (k := c.last + 1) (.inr (.inl (by omega))), ba_left] at hT
    obtain ⟨q, hq, hX⟩ := goX_bs c.size (by omega)
    by_cases hc : m < (goX c.size).size
    · rw [hX] at hT hc
      have hno := frame_cut hq (y := sealB l) hc
      rw [← hT] at hno
      refine ⟨c, 0, Nat.zero_le _, ?_, fun _ => ?_, fun k hk hb => ?_⟩
      · rw [List.take_zero, List.append_nil]
        exact hG.lg.keep (fun _ k q1 q2 => hO k (by omega)) (fun _ => .inr (.inr (not_op_beg hno).2))
      · rw [hO c.first (by omega)]; exact (hG.lg.beg f0).1
      · by_cases he : k = c.last + 1
        · rw [he, (not_op_beg hno).1] at hb; cases hb
        · rw [hO k he] at hb; exact Nat.le_of_eq (hG.beg_only hb).2
    · obtain ⟨w1, w2⟩ := frame_whole (h := goX c.size) (y := sealB l) (l := l) rfl (by omega) hm
      rw [w1] at hT
      obtain ⟨k1, k2, k3, k4, k5, k6⟩ := head_gone (c.size : Int) (by omega)
      obtain ⟨g1, g2⟩ := gone_add k1 (bs ((framesB l).take (m - (goX c.size).size)))
      obtain ⟨j, j1, j2⟩ := scan_cut k6 hsm _ w2
      rw [← hT] at g1 g2 j2
      obtain ⟨z1, z2⟩ := hG.lg.size f0
      obtain ⟨c1, c2⟩ := scan_front (segT d c.last)
      have hex : (segT d c.last).extract 0 ((c.size : Int)).toNat = (segT d c.last).extract 0 ((segT d c.last).size - (scanC (segT d c.last)).size) := by
        congr 1; omega
      have hTl : T' c.last = segT d c.last := hO _ (by omega)
      have hgo : goes T' c.last := by
        refine ⟨by rw [g1, k2], ?_⟩
        rw [g2, k3, hTl]
        refine ⟨by omega, by omega, ?_, ?_⟩
        · rw [hex, c1]; exact scan_ne hop
        · rw [hex]; exact c2
      have hrec : recOf T' c.last = (scanL (segT d c.last)).drop 1 := by
        unfold recOf cutL
        rw [g2, k3, hTl, hex, c1]
      have hn1 : T' (c.last + 1 + 1) = ⟨#[]⟩ := by rw [hO _ (by omega), hG.none (.inr (.inl (by omega)))]
      have hbeg : begK (T' c.first) = true ∧ begB (T' c.first) = base := by
        rw [hO c.first (by omega)]; exact ⟨(hG.lg.beg f0).1, (hG.lg.beg f0).2.symm⟩
      have hlg := Lg.made (T := T') (f := c.first) (k := c.last + 1) hbeg.1 (by omega) (by omega) (by omega) (fun i h1 h2 => by
        by_cases he : i = c.last
        · rw [he]; exact hgo
        · exact (goes_eq (hO i (by omega)) (by rw [hO (i + 1) (by omega)]) (by rw [hO (i + 1) (by omega)])).2 (hG.lg.all f0 i h1 (by omega))) (.inr fun hg => by
        have := hg.1
        rw [hn1, gone_nil] at this; cases this) (made_size (T' (c.last + 1))) rfl
      rw [hbeg.2, j2, k5, show c.last + 1 - c.first = c.last - c.first + 1 by omega, recs_succ, recs_eq (T := segT d) (c.last - c.first) (fun i hi => recOf_eq (hO _ (by omega)) (by rw [hO _ (by omega)])), show c.first + (c.last - c.first) = c.last by omega, hrec, ← hG.lg.recs f0] at hlg
      refine ⟨_, j, j1, hlg, fun _ => hbeg.1, fun k hk1 hb => ?_⟩
      by_cases he : k = c.last + 1
      · rw [he, not_gone_beg (by rw [g1, k2])] at hb; cases hb
      · rw [hO k he] at hb; exact Nat.le_of_eq (hG.beg_only hb).2
/-- What is found behind a Lay whose write was cut off. -/
theorem half_lay (hG : Good d c base recs) {s : ByteArray} (hs : s.size ≤ 524288) (hl : c.last < 999999999) {T' : Nat → ByteArray} {m : Nat} (hm : m ≤ (layX s).size) (hT : T' (c.last + 1) = (layX s).extract 0 m) (hO : ∀ k, k ≠ c.last + 1 → T' k = segT d k) :
    ∃ c', FirstOk T' c' ∧ (Lg T' c' base recs ∨ Lg T' c' s []) := by
  obtain ⟨q, hq, hX⟩ := layX_bs s hs
  have hle : c.first ≤ c.last := by
    by_cases f0 : c.first = 0
    · omega
    · exact (hG.lg.le f0).1
  by_cases hc : m < (layX s).size
  · have hno : opB (T' (c.last + 1)) = false := by
      rw [hT, hX]
      rw [hX] at hc
      have := frame_cut hq (y := ⟨#[]⟩) hc
      rwa [ba_right] at this
    refine ⟨c, ⟨fun f0 => ?_, fun k hk hb => ?_⟩, .inl (hG.lg.keep (fun _ k q1 q2 => hO k (by omega)) (fun _ => .inr (.inr (not_op_beg hno).2)))⟩
    · rw [hO c.first (by omega)]; exact (hG.lg.beg f0).1
    · by_cases he : k = c.last + 1
      · rw [he, (not_op_beg hno).1] at hb; cases hb
      · rw [hO k he] at hb; exact Nat.le_of_eq (hG.beg_only hb).2
  · have hm' : m = (layX s).size := by omega
    have hT2 : T' (c.last + 1) = layX s := by rw [hT, hm', ext_all _ _ rfl]
    have hn1 : T' (c.last + 1 + 1) = ⟨#[]⟩ := by
      rw [hO _ (by omega), hG.none (by
        by_cases f0 : c.first = 0
        · exact .inl f0
        · exact .inr (.inl (by omega)))]
    have hlg := Lg.new (T' := T') (k := c.last + 1) (s := s) (l := []) (by omega) (by omega) (by omega) (by simp) (by rw [hT2]; exact (ba_right _).symm) (by rw [hn1]; exact gone_nil)
    obtain ⟨k1, k2, _⟩ := head_beg s (by omega)
    refine ⟨_, ⟨fun _ => by show begK (T' (c.last + 1)) = true; rw [hT2]; exact k2, fun k hk hb => ?_⟩, .inr hlg⟩
    show k ≤ c.last + 1
    by_cases he : k = c.last + 1
    · omega
    · rw [hO k he] at hb
      have := (hG.beg_only hb).2
      omega
end
end Go.Proofs.YtphljjgjpkdpmaaGreatDoor
/- Stage 9: a drive whose log was cut off in a call: pure. -/
namespace Go.Proofs.YtphljjgjpkdpmaaGreatDoor
open Go.RowKit Go.Maps Go.Sort
set_option linter.unusedVariables false
theorem stepC_two (d : Dk) : stepC d = 0 ∨ stepC d = 50 := by unfold stepC; split; exact .inr rfl; exact .inl rfl
/-- How a write ends. -/
theorem write_codes {d : Dk} {s x : ByteArray} (hd : d.down = false) (hn : nameB s = true) (hz : x.size + (entOf d s).sz ≤ 1048576) :
    writeC d s x = 0 ∨ (writeC d s x = 50 ∧ ((writeD d s x).F = d.F ∨ (writeD d s x).F = putE d.F s (some ⟨(entOf d s).l, (entOf d s).w ++ x, (entOf d s).s⟩))) := by
  have hr := ref_ok hd hn
  have hz' : ¬ 1048576 < x.size + (entOf d s).sz := by omega
  have hA0 : appC d s x = stepC d := by unfold appC; rw [if_neg (fun hx => hx hr), if_neg hz']
  rcases stepC_two d with hs | hs
  · rw [hs] at hA0
    obtain ⟨k1, k2, k3, _⟩ := stepC_go hs
    have hA : appD d s x = { stepD d with F := putE d.F s (some ⟨(entOf d s).l, (entOf d s).w ++ x, (entOf d s).s⟩) } := by
      unfold appD
      rw [if_neg (fun hx => hx hr), if_neg hz', if_neg (fun hx => hx hs)]
    have hF : (appD d s x).F = putE d.F s (some ⟨(entOf d s).l, (entOf d s).w ++ x, (entOf d s).s⟩) := by rw [hA]
    have hFs : (appD d s x).F s = some ⟨(entOf d s).l, (entOf d s).w ++ x, (entOf d s).s⟩ := by rw [hF]; unfold putE; rw [if_pos rfl]
    have hd2 : (appD d s x).down = false := by rw [hA]; exact k1.trans hd
    have hC : writeC d s x = stepOfC (appD d s x) s := by unfold writeC; rw [if_neg (fun hx => hx hA0)]
    have hD : writeD d s x = syncD (appD d s x) s := by unfold writeD; rw [if_neg (fun hx => hx hA0)]
    have hSC : stepOfC (appD d s x) s = stepC (appD d s x) := by
      unfold stepOfC
      rw [if_neg (fun hx => hx (ref_ok hd2 hn)), if_neg (by rw [hFs]; simp)]
    rw [hC, hD, hSC]
    rcases stepC_two (appD d s x) with h2 | h2
    · exact .inl h2
    · refine .inr ⟨h2, .inr ?_⟩
      have : syncD (appD d s x) s = stepOfD (appD d s x) s := by unfold syncD; rw [if_neg (fun h => by rw [hSC, h2] at h; cases h)]
      rw [this, stepOfD_F, hF]
  · rw [hs] at hA0
    have hne : appC d s x ≠ 0 := by rw [hA0]; decide
    refine .inr ⟨by unfold writeC; rw [if_pos hne]; exact hA0, .inl ?_⟩
    have hA : appD d s x = stepD d := by
      unfold appD
      rw [if_neg (fun hx => hx hr), if_neg hz', if_pos (by rw [hs]; decide)]
    have : writeD d s x = appD d s x := by unfold writeD; rw [if_pos hne]
    rw [this, hA, stepD_F]
/-- How a row of removals ends. -/
theorem rems_codes : ∀ (l : List ByteArray) (d : Dk), d.down = false → l.Nodup → (∀ s ∈ l, nameB s = true ∧ (d.F s).isSome = true) → (rems d l).1 = 0 ∨ ((rems d l).1 = 50 ∧ ∀ t, ((rems d l).2.F t = none ∨ (rems d l).2.F t = d.F t) ∧ (t ∉ l → (rems d l).2.F t = d.F t))
  | [], d, _, _, _ => .inl rfl
  | s :: l, d, hd, hn, h => by
    obtain ⟨h1, h2⟩ := h s (List.mem_cons_self ..)
    have hSC : stepOfC d s = stepC d := by
      unfold stepOfC
      rw [if_neg (fun hx => hx (ref_ok hd h1)), if_neg (by cases hf : d.F s with
        | none => rw [hf] at h2; cases h2
        | some e => simp)]
    have e0 : rems d (s :: l) = l.foldl remS (stepOfC d s, removeD d s) := by
      unfold rems
      rw [List.foldl_cons]
      congr 1
    rcases stepC_two d with hs | hs
    · have hs0 : stepOfC d s = 0 := hSC.trans hs
      have e : rems d (s :: l) = rems (removeD d s) l := by rw [e0, hs0]; rfl
      obtain ⟨_, r2, r3, r4⟩ := rem_done hs0
      obtain ⟨n1, n2⟩ := List.nodup_cons.1 hn
      rw [e]
      rcases rems_codes l (removeD d s) r2 n2 (fun t ht => by
        obtain ⟨t1, t2⟩ := h t (List.mem_cons_of_mem _ ht)
        refine ⟨t1, ?_⟩
        rw [r4]
        unfold putE
        rw [if_neg (fun e => n1 (by rw [← e]; exact ht))]
        exact t2) with k | ⟨k, k2⟩
      · exact .inl k
      · refine .inr ⟨k, fun t => ?_⟩
        obtain ⟨q1, q2⟩ := k2 t
        rw [r4] at q1 q2
        unfold putE at q1 q2
        by_cases ht : t = s
        · rw [if_pos ht] at q1
          exact ⟨.inl (by rcases q1 with q | q <;> exact q), fun hm => absurd (by rw [ht]; exact List.mem_cons_self ..) hm⟩
        · rw [if_neg ht] at q1 q2
          exact ⟨q1, fun hm => q2 (fun h => hm (List.mem_cons_of_mem _ h))⟩
    · have hs0 : stepOfC d s = 50 := hSC.trans hs
      have e : rems d (s :: l) = (50, removeD d s) := by rw [e0, hs0]; exact remS_stop (p := (50, removeD d s)) (by show (50 : Int) ≠ 0; decide) l
      have hF : (removeD d s).F = d.F := by
        unfold removeD
        rw [if_neg (by rw [hs0]; decide), stepOfD_F]
      rw [e]
      exact .inr ⟨rfl, fun t => ⟨.inr (by rw [hF]), fun _ => by rw [hF]⟩⟩
/-- What may be found behind a loss of power. -/
def Hf (d : Dk) (base : ByteArray) (recs M : List ByteArray) (lay : Option ByteArray) : Prop :=
  Nok d.F ∧ ∀ (ks : List Int) (ts ts' : List (List UInt8)) (c' : Lc) (base' : ByteArray) (recs' : List ByteArray), NamesF d.F ts → NamesF (crashD d ks ts).F ts' → c'.first = begN (crashD d ks ts) ((namesP ts' logP).map nm) → Lg (segT (crashD d ks ts)) c' base' recs' →
    (base' = base ∧ ∃ k, k ≤ M.length ∧ recs' = recs ++ M.take k) ∨ (lay = some base' ∧ recs' = [])
section
variable {d : Dk} {c : Lc} {base : ByteArray} {recs l : List ByteArray}
theorem Hf.of_same {d' : Dk} {M : List ByteArray} {lay : Option ByteArray} (hG : Good d c base recs) (hn : Nok d.F) (hF : d'.F = d.F) : Hf d' base recs M lay := by
  refine ⟨by rw [hF]; exact hn, fun ks ts ts' c' base' recs' hN hN' hf hlg => .inl ?_⟩
  have hC : (crashD d' ks ts).F = d.F := by
    show (crK d'.F ks ts ts.length).1 = d.F
    rw [hF, crK_id hG.settled ks ts ts.length (Nat.le_refl _)]
  have hG2 : Good (crashD d' ks ts) c base recs := hG.of_F hC rfl
  obtain ⟨e1, e2⟩ := found_is rfl hN' hf hlg hG2.firstOk hG2.lg
  exact ⟨e1, 0, Nat.zero_le _, by rw [e2, List.take_zero, List.append_nil]⟩
theorem Good.entw (hG : Good d c base recs) (k : Nat) : (entOf d (nameW k)).w = ⟨#[]⟩ ∧ (entOf d (nameW k)).l = segT d k := by
  rw [seg_up hG.up]
  unfold entOf txt
  cases hf : d.F (nameW k) with
  | none => exact ⟨rfl, rfl⟩
  | some e =>
    obtain ⟨hw, _⟩ := hG.firm _ e hf
    have h := bytes_eq_empty hw
    show e.w = _ ∧ e.l = e.l ++ e.w
    rw [h]; exact ⟨rfl, (ba_right _).symm⟩
/-- The texts behind a loss of power amid a write. -/
theorem wait_text {d' : Dk} {N : Nat} {x : ByteArray} (hG : Good d c base recs) (hx : x.size ≠ 0) (hF : d'.F = putE d.F (nameW N) (some ⟨(entOf d (nameW N)).l, (entOf d (nameW N)).w ++ x, (entOf d (nameW N)).s⟩)) {ks : List Int} {ts : List (List UInt8)} (hN : NamesF d'.F ts) :
    ∃ m, m ≤ x.size ∧ segT (crashD d' ks ts) N = segT d N ++ x.extract 0 m ∧ ∀ k, k ≠ N → segT (crashD d' ks ts) k = segT d k := by
  obtain ⟨h1, h2⟩ := hG.entw N
  rw [h1, h2, ba_left] at hF
  have he : d'.F (nameW N) = some ⟨segT d N, x, (entOf d (nameW N)).s⟩ := by rw [hF]; unfold putE; rw [if_pos rfl]
  obtain ⟨m, hm, hC⟩ := crash_one (ks := ks) he hx (fun t e' ht h => by
    rw [hF] at h
    unfold putE at h
    rw [if_neg ht] at h
    exact ⟨(hG.firm t e' h).1, (hG.firm t e' h).2.1⟩) hN
  rw [hF, putE_put] at hC
  refine ⟨m, hm, ?_, fun k hk => ?_⟩
  · rw [seg_up rfl]
    unfold txt
    rw [hC]
    unfold putE crE
    rw [if_pos rfl]
    split
    · rename_i hz
      split at hz
      · rename_i hq
        exact (bytes_eq_empty hq.2).symm
      · cases hz
    · rename_i e hz
      split at hz
      · cases hz
      · injection hz with hz
        rw [← hz]
        exact ba_right _
  · rw [seg_up rfl, seg_up hG.up]
    unfold txt
    rw [hC]
    unfold putE
    rw [if_neg (fun e => hk (nameW_inj e))]
theorem Hf.append (hG : Good d c base recs) (hn : Nok d.F) (hs : sealOk l) (h0 : l ≠ []) (hp : placeE c = 0) (hz : c.size ≤ 1000000000) (hl : c.last < 1000) (hw : writeC d (nameW (placeN c)) (placeH c ++ sealB l) ≠ 0) :
    writeC d (nameW (placeN c)) (placeH c ++ sealB l) = 50 ∧ Hf (writeD d (nameW (placeN c)) (placeH c ++ sealB l)) base recs l none := by
  have hN : 1 ≤ placeN c ∧ placeN c ≤ c.last + 1 := by
    rcases place_cases c hp with ⟨_, q, _⟩ | ⟨_, _, _, q, _⟩ | ⟨_, _, _, q, _⟩ <;> omega
  have hsz : (placeH c ++ sealB l).size + (entOf d (nameW (placeN c))).sz ≤ 1048576 := by
    have hb : (sealB l).size ≤ 65536 := by rw [sealB_size]; exact hs.2
    rw [hG.ent, ba_size_app]
    have h00 : (⟨#[]⟩ : ByteArray).size = 0 := rfl
    rcases place_cases c hp with ⟨p0, q1, q2⟩ | ⟨p0, p1, p2, q1, q2⟩ | ⟨p0, p1, p2, q1, q2⟩
    · have f0 : c.first = 0 := by
        by_cases hf : c.first = 0
        · exact hf
        · have := hG.lg.le hf; omega
      rw [q1, q2, hG.none (.inl f0)]
      have := lay0_size
      omega
    · have f0 := hG.lg.first0 p0
      obtain ⟨z1, z2⟩ := hG.lg.size f0
      rw [p1] at z2
      have hz0 : (scanC (segT d c.last)).size = 0 := by simpa using z2
      rw [q1, q2]
      omega
    · rw [q1, q2, hG.none (k := c.last + 1) (.inr (.inl (by omega)))]
      have := goX_size c.size hz
      omega
  have hx : (placeH c ++ sealB l).size ≠ 0 := by
    rw [ba_size_app, sealB_size]
    obtain ⟨p, l', rfl⟩ := List.exists_cons_of_ne_nil h0
    have e : (framesB (p :: l')).length = (frB p).length + (framesB l').length := by unfold framesB; simp only [List.flatMap_cons, List.length_append]
    have := frB_pos p
    omega
  rcases write_codes hG.up (name_ok (by omega)) hsz with h | ⟨h, hF⟩
  · exact absurd h hw
  · refine ⟨h, ?_⟩
    rcases hF with hF | hF
    · exact Hf.of_same hG hn hF
    · refine ⟨hn.write hN.1 (by omega), fun ks ts ts' c' base' recs' hNm hNm' hf hlg => .inl ?_⟩
      obtain ⟨m, hm, t1, t2⟩ := wait_text (ks := ks) hG hx hF hNm
      obtain ⟨c2, k, hk, hlg2, hfo⟩ := half_append hG hs hp hz hm t1 t2
      obtain ⟨e1, e2⟩ := found_is rfl hNm' hf hlg hfo hlg2
      exact ⟨e1, k, hk, e2⟩
theorem Hf.lay {s : ByteArray} (hG : Good d c base recs) (hn : Nok d.F) (hs : s.size ≤ 524288) (hl : c.last < 1000) (hw : layC c d s ≠ 0) :
    layC c d s = 50 ∧ Hf (layD c d s) base recs [] (some s) := by
  have hxs := (layX_size s hs).2
  obtain ⟨k1, k2, k3, _⟩ := head_beg s (by omega)
  have hx0 : (layX s).size ≠ 0 := by have := op_size k1; omega
  have hle : c.first ≤ c.last := by
    by_cases f0 : c.first = 0
    · omega
    · exact (hG.lg.le f0).1
  have hnone : segT d (c.last + 1) = ⟨#[]⟩ := hG.none (by
    by_cases f0 : c.first = 0
    · exact .inl f0
    · exact .inr (.inl (by omega)))
  rcases write_codes (x := layX s) hG.up (name_ok (k := c.last + 1) (by omega)) (by rw [hG.ent, hnone]; have h00 : (⟨#[]⟩ : ByteArray).size = 0 := rfl; omega) with h | ⟨h, hF⟩
  · have hc : layC c d s = (rems (writeD d (layN c) (layX s)) (segsOf c.first c.last)).1 := by unfold layC; rw [if_neg (fun hx => hx h)]
    have hd : layD c d s = (rems (writeD d (layN c) (layX s)) (segsOf c.first c.last)).2 := by unfold layD; rw [if_neg (fun hx => hx h)]
    obtain ⟨w1, w2, w3, w4, w5⟩ := write_done h
    have hwF : (writeD d (layN c) (layX s)).F = putE d.F (nameW (c.last + 1)) (some ⟨layX s, ⟨#[]⟩, true⟩) := by
      have h5 : (writeD d (layN c) (layX s)).F = _ := w5
      rw [h5, ← seg_up hG.up, hnone, ba_left]
    rcases rems_codes (segsOf c.first c.last) (writeD d (layN c) (layX s)) w3 (segs_nodup _ _) (fun t ht => by
      obtain ⟨f0, k, q1, q2, rfl⟩ := mem_segs.1 ht
      refine ⟨name_ok (by omega), ?_⟩
      rw [hwF]
      unfold putE
      rw [if_neg (fun e => by have := nameW_inj e; omega)]
      exact hG.has f0 q1 q2) with k | ⟨k, hk⟩
    · exact absurd (hc.trans k) hw
    · refine ⟨hc.trans k, ?_⟩
      rw [hd]
      generalize (rems (writeD d (layN c) (layX s)) (segsOf c.first c.last)).2 = D at *
      have hnD : Nok D.F := by
        refine (hn.write (k := c.last + 1) (x := layX s) (by omega) (by omega)).sub fun t e ht => ?_
        rcases (hk t).1 with q | q
        · rw [q] at ht; cases ht
        · rw [q] at ht; exact ⟨e, ht⟩
      have hset : Settled D.F := by
        intro t e ht
        rcases (hk t).1 with q | q
        · rw [q] at ht; cases ht
        · rw [q, hwF] at ht
          rcases putE_dom ht with q2 | q2
          · rw [q2] at ht
            unfold putE at ht
            rw [if_pos rfl] at ht
            injection ht with ht
            rw [← ht]; exact ⟨rfl, rfl⟩
          · exact ⟨(hG.firm t e q2).1, (hG.firm t e q2).2.1⟩
      refine ⟨hnD, fun ks ts ts' c' base' recs' hNm hNm' hf hlg => .inr ?_⟩
      have hC : (crashD D ks ts).F = D.F := by
        show (crK D.F ks ts ts.length).1 = D.F
        rw [crK_id hset ks ts ts.length (Nat.le_refl _)]
      have hT1 : segT (crashD D ks ts) (c.last + 1) = layX s := by
        rw [seg_up rfl]
        unfold txt
        rw [hC, (hk _).2 (fun hm => by
          obtain ⟨_, k, q1, q2, q3⟩ := mem_segs.1 hm
          have := nameW_inj q3
          omega), hwF]
        unfold putE
        rw [if_pos rfl]
        exact ba_right _
      have hT2 : ∀ k, c.last + 1 < k → segT (crashD D ks ts) k = ⟨#[]⟩ := by
        intro k hk1
        rw [seg_up rfl]
        unfold txt
        rw [hC]
        cases hfk : D.F (nameW k) with
        | none => rfl
        | some e =>
          exfalso
          rcases (hk (nameW k)).1 with q | q
          · rw [q] at hfk; cases hfk
          · rw [q, hwF] at hfk
            rcases putE_dom hfk with q2 | q2
            · have := nameW_inj q2; omega
            · obtain ⟨_, _, j, _, j1, j2, j3⟩ := hG.firm _ e q2
              have := nameW_inj j3
              omega
      have hlg2 := Lg.new (T' := segT (crashD D ks ts)) (k := c.last + 1) (s := s) (l := []) (by omega) (by omega) (by omega) (by simp) (by rw [hT1]; exact (ba_right _).symm) (by rw [hT2 _ (by omega)]; exact gone_nil)
      obtain ⟨e1, e2⟩ := found_is rfl hNm' hf hlg ⟨fun _ => by show begK (segT (crashD D ks ts) (c.last + 1)) = true; rw [hT1]; exact k2, fun k hk1 hb => by
        show k ≤ c.last + 1
        by_cases h1 : c.last + 1 < k
        · rw [hT2 k h1, beg_nil] at hb; cases hb
        · omega⟩ hlg2
      exact ⟨by rw [e1], e2⟩
  · have h' : writeC d (layN c) (layX s) ≠ 0 := by
      show writeC d (nameW (c.last + 1)) (layX s) ≠ 0
      rw [h]; decide
    have hc : layC c d s = 50 := by unfold layC; rw [if_pos h']; exact h
    have hd : layD c d s = writeD d (nameW (c.last + 1)) (layX s) := by unfold layD; rw [if_pos h']; rfl
    refine ⟨hc, ?_⟩
    rw [hd]
    rcases hF with hF | hF
    · exact Hf.of_same hG hn hF
    · refine ⟨hn.write (by omega) (by omega), fun ks ts ts' c' base' recs' hNm hNm' hf hlg => ?_⟩
      obtain ⟨m, hm, t1, t2⟩ := wait_text (ks := ks) hG hx0 hF hNm
      rw [hnone, ba_left] at t1
      obtain ⟨c2, hfo, hlg2 | hlg2⟩ := half_lay hG hs (by omega) hm t1 t2
      · obtain ⟨e1, e2⟩ := found_is rfl hNm' hf hlg hfo hlg2
        exact .inl ⟨e1, 0, Nat.zero_le _, by rw [e2]; simp⟩
      · obtain ⟨e1, e2⟩ := found_is rfl hNm' hf hlg hfo hlg2
        exact .inr ⟨by rw [e1], e2⟩
end
end Go.Proofs.YtphljjgjpkdpmaaGreatDoor
/- Stage 9: a log's calls, with what may be found behind them. -/
namespace Go.Proofs.YtphljjgjpkdpmaaGreatDoor
open Go.RowKit Go.Maps Go.Sort
set_option linter.unusedVariables false
section
variable {B : Nat} {w w' : World} {lb db mb n n' : Nat} {G : ByteArray → Option Nat} {c c' : Lc} {d d' : Dk} {base : ByteArray} {recs l : List ByteArray}
/-- Open, behind a loss of power. -/
theorem Open_found (h : DAt w db mb n G d) (hv : Va B w) (hlo : ∀ i, DS db mb G i → B ≤ i) (hB : B ≤ w.heap.size) (hd : d.down = false) (hl : d.lit = false) (hk : Nok d.F) (hset : Settled d.F) (hst : d.steps + n < 900000) :
    Calls Tryz.prog 15 #[.pointer (some ⟨db, 0, none⟩)] w fun e w' => ∃ v c d' base recs G' ts, NamesF d.F ts ∧ c.first = begN d ((namesP ts logP).map nm) ∧ Lg (segT d) c base recs ∧ (∀ t e, d'.F t = some e → ∃ e', d.F t = some e') ∧ WAt w' w.heap.size db mb n G' c d' ∧ Chg (DS db mb G) w w' ∧ (∀ s g, G' s = some g → (∃ t, G t = some g) ∨ w.heap.size ≤ g) ∧ Good d' c base recs ∧ d'.steps ≤ d.steps + 1000 ∧ recs.length ≤ maxLen ∧ e = .returned (.tuple #[.pointer (some ⟨w.heap.size, 0, none⟩), .string base, v, .int .i64 0]) ∧ RowN (Own3 w.heap.size db mb G') w' v (recs.map Value.string)
      ∧ DAt w' db mb n G' d' ∧ Va B w' ∧ (∀ i, DS db mb G' i → B ≤ i) ∧ B ≤ w'.heap.size ∧ Below B w w' := by
  refine (Open_up db mb n G d w h B hv hlo hB hd (by omega) hk.size).mono ?_
  rintro e w' ⟨ts, c, base, recs, hN, hf, hlg, hx⟩
  obtain ⟨h0, hg⟩ := open_clean hd hl hk hset hN hlg
  rcases hx with ⟨_, v, G', h1, h2, h3, h4, h5, h6, h7⟩ | ⟨hx, _⟩
  · have hlo' : ∀ i, DS db mb G' i → B ≤ i := by
      intro i hi
      rcases hi with rfl | rfl | ⟨t, hi⟩
      · exact hlo _ (.inl rfl)
      · exact hlo _ (.inr (.inl rfl))
      · rcases h7 t i hi with ⟨u, y⟩ | y
        · exact hlo _ (.inr (.inr ⟨u, y⟩))
        · exact Nat.le_trans hB y
    have hb := h6.below hB hlo
    have hrow : RowN (Own3 w.heap.size db mb G') w' v (recs.map Value.string) := by
      have hl : (recs.map Value.string).length = recs.length := List.length_map _
      rcases h2.2 with ⟨rfl, r0⟩ | ⟨g, cap, cur, rfl, hb', hh, q1, q2, q3, q4⟩
      · have : recs.map Value.string = [] := List.eq_nil_of_length_eq_zero (by rw [hl]; exact r0)
        rw [this]
        exact ⟨none, 0, rfl, Nat.zero_le _, .inl rfl⟩
      · have hR := RowAt.of_own h2
        obtain ⟨a', c', e', hR⟩ := hR
        injection e' with e1 e2 e3
        refine ⟨_, cap, by rw [hl], by rw [hl]; exact q1, ?_⟩
        rcases hR with hR | ⟨b, off, he, hbb, hcc⟩
        · exact .inl hR
        · refine .inr ⟨b, off, by rw [e1]; exact he, hbb, ?_, hcc⟩
          rw [he] at e1
          injection e1 with e1
          injection e1 with e1 e4
          rw [← e1]
          exact fun hs => by rcases hs with q | q; exact (h4 g rfl).1 q; exact (h4 g rfl).2 q
    have hlen : recs.length ≤ maxLen := by
      obtain ⟨a, c2, _, hc2⟩ := hrow.form
      rcases h2.2 with ⟨_, r0⟩ | ⟨g, cap, cur, _, _, _, q1, q2, _⟩
      · rw [r0]; exact Nat.zero_le _
      · exact Nat.le_trans q1 q2
    exact ⟨v, c, _, base, recs, G', ts, hN, hf, hlg, fun t e he => rems_dom _ (0, d) he, h5, h6, h7, hg, by
      have q1 := rems_steps d (tidyL c (namesP ts logP)) (0, d)
      have q2 := tidy_count (c := c) hk hN
      simp only at q1
      omega, hlen, h1, hrow, h5.dr, hv.below hb, hlo', Nat.le_trans hB h6.size, hb⟩
  · exact absurd h0 hx

theorem Hf.wide1 {M : List ByteArray} (h : Hf d base recs M none) (lay : Option ByteArray) : Hf d base recs M lay := ⟨h.1, fun ks ts ts' c' base' recs' a1 a2 a3 a4 => by
  rcases h.2 ks ts ts' c' base' recs' a1 a2 a3 a4 with q | ⟨q, _⟩
  · exact .inl q
  · cases q⟩
theorem Hf.wide2 {lay : Option ByteArray} (h : Hf d base recs [] lay) (M : List ByteArray) : Hf d base recs M lay := ⟨h.1, fun ks ts ts' c' base' recs' a1 a2 a3 a4 => by
  rcases h.2 ks ts ts' c' base' recs' a1 a2 a3 a4 with ⟨q1, k, q2, q3⟩ | q
  · exact .inl ⟨q1, 0, Nat.zero_le _, by rw [q3]; simp⟩
  · exact .inr q⟩
/-- Only these names may be new. -/
def Dom (d d' : Dk) (b : Nat) : Prop := ∀ t e, d'.F t = some e → (∃ e', d.F t = some e') ∨ ∃ k, 1 ≤ k ∧ k ≤ b ∧ t = nameW k
theorem Append_keep (v : Value) (h : Wl B w lb db mb n G c d) (hg : Good d c base recs) (hk : Nok d.F) (hr : RowAt w v (l.map Value.string)) (hlen : l.length ≤ 20000) (hs : ∀ s ∈ l, s.size ≤ 1000000000) (hl : c.last < 1000) (hst : d.steps + 1 < 1000000) (hn : n < 1000000) :
    Calls Tryz.prog 16 #[.pointer (some ⟨lb, 0, none⟩), v] w fun e w' => ∃ (x : Int) (n' : Nat) (c' : Lc) (d' : Dk), e = .returned (.int .i64 x) ∧ n' ≤ n + 1 ∧ WEnd lb db mb G n' c' d' w w' ∧ Dom d d' (c.last + 1) ∧ d'.steps ≤ d.steps + 2 ∧ c'.last ≤ c.last + 1 ∧ ((x = 0 ∧ Good d' c' base (recs ++ l)) ∨ (x = 50 ∧ Hf d' base recs l none) ∨ (x ≠ 0 ∧ x ≠ 50 ∧ Good d' c' base recs)) := by
  have hok := h.lcok hg
  have hsame : Dom d d (c.last + 1) := fun t e he => .inl ⟨e, he⟩
  by_cases h1 : sealOk l
  · by_cases h0 : l = []
    · subst h0
      refine (LAppend_none lb v w h.va.mv hr).mono ?_
      rintro e w' ⟨rfl, g⟩
      exact ⟨0, n, c, d, rfl, by omega, WEnd.same h.wat g, hsame, by omega, by omega, .inl ⟨rfl, by rw [List.append_nil]; exact hg⟩⟩
    · have hp := place_ok (c := c) (by omega)
      refine (LAppend_through lb db mb n G c d B v l w h.wat h.va h.lo h.hb hok hst hn hr hlen h0 h1 hp).mono ?_
      rintro e w' ⟨rfl, n', hn', hE⟩
      have hN : placeN c ≤ c.last + 1 ∧ 1 ≤ placeN c := ⟨by
        rcases place_cases c hp with ⟨_, q, _⟩ | ⟨_, _, _, q, _⟩ | ⟨_, _, _, q, _⟩ <;> omega, (place_lim c hok hp).1⟩
      refine ⟨_, n', _, _, rfl, hn', hE, fun t e he => ?_, writeD_steps _ _ _, writeL_last hp, ?_⟩
      · rcases writeD_dom he with q | q
        · exact .inr ⟨_, hN.2, hN.1, q⟩
        · exact .inl q
      · by_cases hw : writeC d (nameW (placeN c)) (placeH c ++ sealB l) = 0
        · exact .inl ⟨hw, hg.append h1 hp hok.2.2.2 hw⟩
        · exact .inr (.inl (Hf.append hg hk h1 h0 hp hok.2.2.2 hl hw))
  · refine (LAppend_long lb v l w h.va.mv hr hlen hs h1).mono ?_
    rintro e w' ⟨rfl, g⟩
    exact ⟨4, n, c, d, rfl, by omega, WEnd.same h.wat g, hsame, by omega, by omega, .inr (.inr ⟨by decide, by decide, hg⟩)⟩
theorem Lay_keep (s : ByteArray) (h : Wl B w lb db mb n G c d) (hg : Good d c base recs) (hk : Nok d.F) (hs : s.size ≤ 524288) (hl : c.last < 1000) (hst : d.steps + 3 + (c.last + 1 - c.first) < 1000000) (hn : n < 1000000) :
    Calls Tryz.prog 18 #[.pointer (some ⟨lb, 0, none⟩), .string s] w fun e w' => ∃ (x : Int) (n' : Nat) (c' : Lc) (d' : Dk), e = .returned (.int .i64 x) ∧ n' ≤ n + 1 ∧ WEnd lb db mb G n' c' d' w w' ∧ Dom d d' (c.last + 1) ∧ d'.steps ≤ d.steps + 2 + (c.last + 1 - c.first) ∧ c'.last ≤ c.last + 1 ∧ ((x = 0 ∧ Good d' c' s []) ∨ (x = 50 ∧ Hf d' base recs [] (some s))) := by
  refine (Lay_any lb db mb n G c d B s w h.wat h.va h.lo h.hb (h.lcok hg) hs (by omega) hst hn).mono ?_
  rintro e w' ⟨rfl, n', hn', hE⟩
  refine ⟨_, n', _, _, rfl, hn', hE, fun t e he => ?_, layD_steps _ _ _, ?_, ?_⟩
  · have hw : ∀ e, (writeD d (layN c) (layX s)).F t = some e → (∃ e', d.F t = some e') ∨ ∃ k, 1 ≤ k ∧ k ≤ c.last + 1 ∧ t = nameW k := fun e he => by
      rcases writeD_dom he with q | q
      · exact .inr ⟨c.last + 1, by omega, Nat.le_refl _, q⟩
      · exact .inl q
    unfold layD at he
    split at he
    · exact hw e he
    · obtain ⟨e1, h1⟩ := rems_dom _ _ he
      exact hw e1 h1
  · unfold layL
    split
    · omega
    · show c.last + 1 ≤ _; omega
  · by_cases hw : layC c d s = 0
    · exact .inl ⟨hw, hg.lay (by omega) hs hw⟩
    · exact .inr (Hf.lay hg hk hs hl hw)
end
set_option maxRecDepth 100000 in
/-- Is a list the beginning of another one? -/
theorem begins_any (va vb : Value) (a b : List ByteArray) (w : World) (hra : RowAt w va (a.map Value.string)) (S : Nat → Prop) (hrb : RowN S w vb (b.map Value.string)) (ha : a.length ≤ maxLen) (hb : b.length ≤ maxLen) :
    Calls Tryz.prog 21 #[va, vb] w fun e w' => e = .returned (.bool (decide (a = b.take a.length))) ∧ w.grownBy w' none := by
  obtain ⟨pa, ca, rfl⟩ := row_form hra
  obtain ⟨pb, cb, rfl, hcb⟩ := hrb.form
  rw [List.length_map] at hrb hcb ⊢
  have ia : (a.length : Int) ≤ 9223372036854775807 := by unfold maxLen at ha; omega
  have ib : (b.length : Int) ≤ 9223372036854775807 := by unfold maxLen at hb; omega
  have HA := Lib.hid ha
  have HB := Lib.hid hb
  by_cases hl : a.length ≤ b.length
  · have i1 : (a.length : Int) ≤ b.length := by omega
    have i2 : (a.length : Int) ≤ cb := by omega
    have hlt : (b.take a.length).length = a.length := by rw [List.length_take]; omega
    have HS := Lib.hid (Same_any (.slice pa a.length ca) (.slice pb a.length cb) a (b.take a.length) w hra (by rw [List.map_take]; exact hrb.take hl (by rw [List.length_map])) ha (by rw [hlt]; exact ha))
    clear ha hb hra hrb hlt hcb
    go_enter Tryz.func21, Tryz.ntmps21
    go_wp2_with fail
    refine HS.out.mono ?_
    rintro e w1 ⟨rfl, g1⟩
    go_wp2
    go_ret
    exact ⟨rfl, g1⟩
  · have i1 : ¬ (a.length : Int) ≤ b.length := by omega
    have HF : Hid (decide (a = b.take a.length) = false) := decide_eq_false fun e => by
      have := congrArg List.length e
      rw [List.length_take] at this
      omega
    clear ha hb hra hrb hcb
    go_enter Tryz.func21, Tryz.ntmps21
    go_wp2
    go_ret
    exact ⟨by rw [HF.out]; rfl, grow_refl _ _⟩
end Go.Proofs.YtphljjgjpkdpmaaGreatDoor
