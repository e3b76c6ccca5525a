/- Several texts in one: WnS WnC WnG. -/
import Derived.Test.YtphljjgjpkdpmaaGreatDoorY22
import Derived.Test.YtphljjgjpkdpmaaGreatDoorY23
import Derived.Test.YtphljjgjpkdpmaaGreatDoorY17
/- Stage 9: sizes of what is put; a drive with one segment: pure. -/
namespace Go.Proofs.YtphljjgjpkdpmaaGreatDoor
open Go.RowKit Go.Maps Go.Sort
set_option linter.unusedVariables false
theorem numB_three {n : Nat} (h : n ≤ 8192) : (numB (n : Int)).length ≤ 3 := by
  unfold numB
  have hz := Lib.zigzag_nonneg (x := (n : Int)) (by omega)
  exact Lib.uvarint_length 2 _ (by have : (128 : Nat) ^ (2 + 1) = 2097152 := by decide
                                   omega)
theorem frames_sum : ∀ l : List ByteArray, (∀ p ∈ l, p.size ≤ 8192) → (framesB l).length ≤ wsum l + 6 * l.length
  | [], _ => by simp [framesB]
  | p :: l, h => by
    have h1 := h p (List.mem_cons_self ..)
    have h2 := frames_sum l (fun q hq => h q (List.mem_cons_of_mem _ hq))
    have e : framesB (p :: l) = frB p ++ framesB l := by unfold framesB; simp only [List.flatMap_cons]
    have e2 : wsum (p :: l) = (1 + p.size) + wsum l := by unfold wsum; simp
    have h3 := numB_three h1
    rw [e, List.length_append, frB_size, List.length_cons, e2]
    omega
theorem wsum_app (a b : List ByteArray) : wsum (a ++ b) = wsum a + wsum b := by unfold wsum; simp
theorem wsum_part (l : List ByteArray) (a b : Nat) : wsum ((l.drop a).take b) ≤ wsum l := by
  have h1 : wsum l = wsum (l.take a) + wsum (l.drop a) := by rw [← wsum_app, List.take_append_drop]
  have h2 : wsum (l.drop a) = wsum ((l.drop a).take b) + wsum ((l.drop a).drop b) := by rw [← wsum_app, List.take_append_drop]
  omega
/-- Any part of such a list may be put at one time. -/
theorem seal_part {l : List ByteArray} (hl : l.length ≤ 5000) (hs : ∀ p ∈ l, p.size ≤ 8192) (hw : wsum l ≤ 16384) (a b : Nat) : sealOk ((l.drop a).take b) := by
  have h : ∀ p ∈ (l.drop a).take b, p.size ≤ 8192 := fun p hp => hs p (List.mem_of_mem_drop (List.mem_of_mem_take hp))
  refine ⟨h, ?_⟩
  have h1 := frames_sum _ h
  have h2 := wsum_part l a b
  have h3 : ((l.drop a).take b).length ≤ l.length := by rw [List.length_take, List.length_drop]; omega
  omega
/-- A drive with one segment has one name. -/
theorem one_name {d : Dk} {c : Lc} {base : ByteArray} {recs : List ByteArray} (h : Good d c base recs) (h0 : c.first ≠ 0) (h1 : c.first = c.last) {ts : List (List UInt8)} (hN : NamesF d.F ts) : (namesP ts logP).length = 1 := by
  have hall : ∀ x ∈ namesP ts logP, x = (nameW c.first).data.toList := by
    intro x hx
    unfold namesP at hx
    rw [List.mem_filter] at hx
    have := (hN.mem x).1 hx.1
    cases hf : d.F (nm x) with
    | none => rw [hf] at this; cases this
    | some e =>
      obtain ⟨_, _, k, _, k1, k2, k3⟩ := h.firm _ e hf
      have : k = c.first := by omega
      subst this
      have h5 : (nm x).data.toList = x := bs_list x
      rw [← h5, k3]
  have hmem : (nameW c.first).data.toList ∈ namesP ts logP := by
    unfold namesP
    rw [List.mem_filter]
    refine ⟨(hN.mem _).2 ?_, name_pre _⟩
    rw [name_self]
    exact h.has h0 (Nat.le_refl _) (by omega)
  have hnd : (namesP ts logP).Nodup := List.Nodup.sublist List.filter_sublist hN.nodup
  generalize namesP ts logP = L at *
  match L, hall, hmem, hnd with
  | [], _, hm, _ => cases hm
  | [x], _, _, _ => rfl
  | x :: y :: L, ha, _, hn =>
    exfalso
    have e1 := ha x (by simp)
    have e2 := ha y (by simp)
    have := (List.nodup_cons.1 hn).1
    apply this
    rw [e1, ← e2]
    exact List.mem_cons_self ..
theorem layL_one {d : Dk} {c : Lc} {s : ByteArray} (hw : layC c d s = 0) : layL c d s = ⟨c.last + 1, c.last + 1, (layX s).size, false⟩ := by
  have h1 : writeC d (layN c) (layX s) = 0 := by
    unfold layC at hw
    split at hw
    · rename_i hx; exact absurd hw hx
    · rename_i hx; simpa using hx
  unfold layL; rw [if_neg (fun hx => hx h1)]
theorem layD_lit {d : Dk} {c : Lc} {s : ByteArray} (hw : layC c d s = 0) : (layD c d s).lit = d.lit := by
  have h1 : writeC d (layN c) (layX s) = 0 := by
    unfold layC at hw
    split at hw
    · rename_i hx; exact absurd hw hx
    · rename_i hx; simpa using hx
  have hd : layD c d s = (rems (writeD d (layN c) (layX s)) (segsOf c.first c.last)).2 := by unfold layD; rw [if_neg (fun hx => hx h1)]
  have h2 : (rems (writeD d (layN c) (layX s)) (segsOf c.first c.last)).1 = 0 := by
    unfold layC at hw
    rwa [if_neg (fun hx => hx h1)] at hw
  obtain ⟨w1, w2, w3, w4, w5⟩ := write_done h1
  obtain ⟨r1, r2, r3⟩ := rems_done _ _ w3 h2
  rw [hd]
  exact r2.trans w4
theorem writeL_last {d : Dk} {c : Lc} {x : ByteArray} (h : placeE c = 0) : (writeL c d (placeN c) x).last ≤ c.last + 1 := by
  have hp : placeN c ≤ c.last + 1 := by
    rcases place_cases c h with ⟨_, h1, _⟩ | ⟨_, _, _, h1, _⟩ | ⟨_, _, _, h1, _⟩ <;> omega
  unfold writeL
  split
  · exact hp
  · omega
theorem layD_steps (d : Dk) (c : Lc) (s : ByteArray) : (layD c d s).steps ≤ d.steps + 2 + (c.last + 1 - c.first) := by
  have h1 := writeD_steps d (layN c) (layX s)
  unfold layD
  split
  · omega
  · have h2 := rems_steps (writeD d (layN c) (layX s)) (segsOf c.first c.last) (0, writeD d (layN c) (layX s))
    have h3 : (segsOf c.first c.last).length ≤ c.last + 1 - c.first := by
      unfold segsOf
      split
      · simp
      · simp
    unfold rems
    simp only at h2
    omega
abbrev Own3 (lb db mb : Nat) (G : ByteArray → Option Nat) : Nat → Prop := fun i => i = lb ∨ DS db mb G i
section
variable {B : Nat} {w w' : World} {lb db mb n n' : Nat} {G : ByteArray → Option Nat} {c c' : Lc} {d d' : Dk} {base : ByteArray} {recs l : List ByteArray}
/-- A call of Append where nothing is in the way. -/
theorem Append_part (v : Value) (h : Wl B w lb db mb n G c d) (hg : Good d c base recs) (hl : d.lit = false) (hs : sealOk l) (hr : RowAt w v (l.map Value.string)) (hlen : l.length ≤ 20000) (hc : c.last < 999999999) (hst : d.steps + 1 < 1000000) (hn : n < 1000000) :
    Calls Tryz.prog 16 #[.pointer (some ⟨lb, 0, none⟩), v] w fun e w' => e = .returned (.int .i64 0) ∧ ∃ n' c' d', n' ≤ n + 1 ∧ WEnd lb db mb G n' c' d' w w' ∧ Good d' c' base (recs ++ l) ∧ d'.lit = false ∧ d'.steps ≤ d.steps + 2 ∧ c'.last ≤ c.last + 1 := by
  by_cases h0 : l = []
  · subst h0
    refine (LAppend_none lb v w h.va.mv hr).mono ?_
    rintro e w' ⟨rfl, g⟩
    exact ⟨rfl, n, c, d, by omega, WEnd.same h.wat g, by rw [List.append_nil]; exact hg, hl, by omega, by omega⟩
  · refine (Append_good v h hg hl hs h0 hr hlen hc hst hn).mono ?_
    rintro e w' ⟨rfl, n', hn', hE⟩
    have hz := (h.lcok hg).2.2.2
    have hp := place_ok hc
    have hw := hg.append_ok hl hs hp hz
    exact ⟨rfl, n', _, _, hn', hE, hg.append hs hp hz hw, (write_done hw).2.2.2.1.trans hl, writeD_steps _ _ _, writeL_last hp⟩
theorem grow_of_below (h : Below w.heap.size w w') : w.grownBy w' none := ⟨h.os, h.tape, h.output, h.size, fun i hi _ => h.block i hi⟩
/-- A row apart from the log stays so. -/
theorem RowN.over {v : Value} {xs : List Value} (h : RowN (Own3 lb db mb G) w v xs) {G' : ByteArray → Option Nat} (k : Chg (Own3 lb db mb G) w w') (f : ∀ s g, G' s = some g → (∃ t, G t = some g) ∨ w.heap.size ≤ g) : RowN (Own3 lb db mb G') w' v xs := by
  obtain ⟨a, cap, rfl, hc, h⟩ := h
  refine ⟨a, cap, rfl, hc, ?_⟩
  rcases h with h | ⟨b, off, rfl, hb, hn, h⟩
  · exact .inl h
  · refine .inr ⟨b, off, rfl, Nat.lt_of_lt_of_le hb k.size, fun hs => ?_, fun j hj => by rw [← h j hj]; exact World.cell?_of_block (k.block b hb hn)⟩
    rcases hs with y | y | y | ⟨t, y⟩
    · exact hn (.inl y)
    · exact hn (.inr (.inl y))
    · exact hn (.inr (.inr (.inl y)))
    · rcases f t b y with ⟨u, z⟩ | z
      · exact hn (.inr (.inr (.inr ⟨u, z⟩)))
      · omega
theorem RowN.row {S : Nat → Prop} {v : Value} {xs : List Value} (h : RowN S w v xs) : RowAt w v xs := by
  obtain ⟨a, cap, rfl, hc, h⟩ := h
  refine ⟨a, cap, rfl, ?_⟩
  rcases h with h | ⟨b, off, rfl, hb, hn, h⟩
  · exact .inl h
  · exact .inr ⟨b, off, rfl, hb, h⟩
theorem RowN.take {S : Nat → Prop} {a : Option Addr} {m cap cap' k : Nat} {xs : List Value} (h : RowN S w (.slice a m cap) xs) (hk : k ≤ m) (hm : xs.length = m) : RowAt w (.slice a k cap') (xs.take k) := by
  obtain ⟨a', cp, e, hc, h⟩ := h
  injection e with e1 e2 e3
  subst e1
  have hl : (xs.take k).length = k := by rw [List.length_take]; omega
  refine ⟨a, cap', by rw [hl], ?_⟩
  rcases h with h | ⟨b, off, rfl, hb, hn, h⟩
  · subst h; left; simp
  · refine .inr ⟨b, off, rfl, hb, fun j hj => ?_⟩
    rw [hl] at hj
    rw [h j (by omega)]
    simp [List.getD, hj]
theorem RowN.drop {S : Nat → Prop} {a : Option Addr} {m cap k : Nat} {xs : List Value} (h : RowN S w (.slice a m cap) xs) (hk : k ≤ m) (hm : xs.length = m) : RowN S w (.slice (if cap = k then a else a.map (·.add k)) (m - k) (cap - k)) (xs.drop k) := by
  obtain ⟨a', cp, e, hc, h⟩ := h
  injection e with e1 e2 e3
  subst e1 e3
  have hl : (xs.drop k).length = m - k := by rw [List.length_drop]; omega
  refine ⟨_, _, by rw [hl], by omega, ?_⟩
  rcases h with h | ⟨b, off, rfl, hb, hn, h⟩
  · subst h; left; simp
  · by_cases hck : cap = k
    · left
      rw [List.drop_of_length_le (by omega)]
    · right
      rw [if_neg hck]
      refine ⟨b, off + k, congrArg some (add_off b off k), hb, hn, fun j hj => ?_⟩
      rw [hl] at hj
      rw [show off + k + j = off + (k + j) by omega, h (k + j) (by omega)]
      simp [List.getD, List.getElem?_drop]
theorem Wl.of (h : Wl B w lb db mb n G c d) {G' : ByteArray → Option Nat} (k1 : WAt w' lb db mb n' G' c' d') (k2 : Chg (Own3 lb db mb G) w w') (k3 : ∀ s g, G' s = some g → (∃ t, G t = some g) ∨ w.heap.size ≤ g) : Wl B w' lb db mb n' G' c' d' ∧ Below B w w' :=
  ⟨⟨k1, h.va.over h.lo h.hb ⟨G', k1, k2, k3⟩, lo_over h.lo h.hb k3, Nat.le_trans h.hb k2.size⟩, k2.below h.hb h.lo⟩
theorem row_u8 {a : Option Addr} {cp : Nat} {ns : List Int} {k : Nat} (h : RowAt w (.slice a ns.length cp) (ns.map (Value.int .u8))) (hk : k < ns.length) : ∃ bb off, a = some ⟨bb, off, none⟩ ∧ w.cell? ⟨bb, off + k, none⟩ = some (.int .u8 ns[k]) := by
  obtain ⟨a', c', e, h⟩ := h
  injection e with e1 e2 e3
  subst e1
  rcases h with h | ⟨b, off, rfl, hb, hc⟩
  · have : ns = [] := by simpa using h
    subst this; simp at hk
  · exact ⟨b, off, rfl, by rw [hc k (by simpa using hk)]; simp [List.getD, List.getElem?_eq_getElem hk]⟩
end
end Go.Proofs.YtphljjgjpkdpmaaGreatDoor
/- Stage 9: a log behind a loss of power: pure. -/
namespace Go.Proofs.YtphljjgjpkdpmaaGreatDoor
open Go.RowKit Go.Maps Go.Sort
set_option linter.unusedVariables false
/-- Nothing waits, and every file is firm. -/
def Settled (F : ByteArray → Option Ent) : Prop := ∀ x e, F x = some e → e.w.size = 0 ∧ e.s = true
theorem crS_set {p : (ByteArray → Option Ent) × List Int} {s : ByteArray} {e : Ent} (h : (crS p s).1 s = some e) : e.w.size = 0 ∧ e.s = true := by
  unfold crS at h
  split at h
  · rename_i hn
    rw [hn] at h; cases h
  · rename_i e0 he
    have h2 : putE p.1 s (if e0.s = false ∧ (settleE e0 (if e0.w.size = 0 then 0 else p.2.headD 0)).l.size = 0 then none else some { settleE e0 (if e0.w.size = 0 then 0 else p.2.headD 0) with s := true }) s = some e := h
    unfold putE at h2
    rw [if_pos rfl] at h2
    have hw : (settleE e0 (if e0.w.size = 0 then 0 else p.2.headD 0)).w.size = 0 := rfl
    generalize settleE e0 (if e0.w.size = 0 then 0 else p.2.headD 0) = E at h2 hw
    split at h2
    · cases h2
    · injection h2 with h2
      rw [← h2]
      exact ⟨hw, rfl⟩
theorem crK_set (F : ByteArray → Option Ent) (ks : List Int) (ts : List (List UInt8)) (hn : ts.Nodup) : ∀ k, k ≤ ts.length → ∀ j (h : j < ts.length), j < k → ∀ e, (crK F ks ts k).1 (nm ts[j]) = some e → e.w.size = 0 ∧ e.s = true
  | 0, _, j, _, hj, _, _ => absurd hj (Nat.not_lt_zero _)
  | k + 1, hk, j, h, hj, e, he => by
    rw [crK_succ F ks ts k (by omega)] at he
    by_cases hjk : j = k
    · subst hjk
      exact crS_set he
    · have hne : nm ts[j] ≠ nm ts[k] := fun y => by
        have := (List.nodup_iff_pairwise_ne.1 hn)
        rw [List.pairwise_iff_getElem] at this
        exact this j k h (by omega) (by omega) (nm_inj y)
      rw [crS_other _ _ _ hne] at he
      exact crK_set F ks ts hn k (by omega) j h (by omega) e he
theorem crash_settled {d : Dk} {ks : List Int} {ts : List (List UInt8)} (hN : NamesF d.F ts) : Settled (crashD d ks ts).F := by
  intro x e he
  have he' : (crK d.F ks ts ts.length).1 x = some e := he
  by_cases hx : x.data.toList ∈ ts
  · obtain ⟨j, hj, hj2⟩ := List.mem_iff_getElem.1 hx
    have hxx : x = nm ts[j] := by rw [hj2]
    rw [hxx] at he'
    exact crK_set d.F ks ts hN.nodup ts.length (Nat.le_refl _) j hj hj e he'
  · rw [crK_other d.F ks ts ts.length (Nat.le_refl _) x (fun j hj _ y => hx (by rw [y]; exact List.getElem_mem hj))] at he'
    have : (d.F (nm x.data.toList)).isSome = true := by
      show (d.F x).isSome = true
      rw [he']; rfl
    exact absurd ((hN.mem _).2 this) hx
theorem settle_id {e : Ent} (hw : e.w.size = 0) (hs : e.s = true) (n : Int) : ({ settleE e n with s := true } : Ent) = e := by
  obtain ⟨l, w, s⟩ := e
  dsimp only at hw hs
  subst hs
  have hw' := bytes_eq_empty hw
  subst hw'
  have hx : (⟨#[]⟩ : ByteArray).extract 0 (max 0 (min n (((⟨#[]⟩ : ByteArray).size : Nat) : Int))).toNat = ⟨#[]⟩ := by
    apply bytes_eq_empty
    rw [ByteArray.size_extract]
    show min _ 0 - 0 = 0
    omega
  show Ent.mk (l ++ (⟨#[]⟩ : ByteArray).extract 0 _) ⟨#[]⟩ true = _
  rw [hx, ba_right]
theorem crS_id {F : ByteArray → Option Ent} (h : Settled F) (ks : List Int) (s : ByteArray) : crS (F, ks) s = (F, ks) := by
  unfold crS
  split
  · rfl
  · rename_i e he
    have he' : F s = some e := he
    obtain ⟨hw, hs⟩ := h s e he'
    rw [if_neg (fun y => by rw [hs] at y; cases y.1), settle_id hw hs, if_pos hw]
    have : putE F s (some e) = F := by
      funext x; unfold putE; split
      · rename_i hx; rw [hx, he']
      · rfl
    rw [this]
theorem crK_id {F : ByteArray → Option Ent} (h : Settled F) (ks : List Int) (ts : List (List UInt8)) : ∀ k, k ≤ ts.length → crK F ks ts k = (F, ks)
  | 0, _ => rfl
  | k + 1, hk => by rw [crK_succ F ks ts k (by omega), crK_id h ks ts k (by omega), crS_id h]
/-- All names are a log's. -/
def Nok (F : ByteArray → Option Ent) : Prop := ∀ s e, F s = some e → ∃ k, 1 ≤ k ∧ k ≤ 1000 ∧ s = nameW k
theorem Nok.sub {F F' : ByteArray → Option Ent} (h : Nok F) (hs : ∀ s e, F' s = some e → ∃ e', F s = some e') : Nok F' := fun s e he => by
  obtain ⟨e', he'⟩ := hs s e he
  exact h s e' he'
theorem putE_dom {F : ByteArray → Option Ent} {s t : ByteArray} {o : Option Ent} {e : Ent} (h : putE F s o t = some e) : t = s ∨ F t = some e := by
  unfold putE at h
  split at h
  · rename_i hx; exact .inl hx
  · exact .inr h
theorem writeD_dom {d : Dk} {s x t : ByteArray} {e : Ent} (h : (writeD d s x).F t = some e) : t = s ∨ ∃ e', d.F t = some e' := by
  have hA : ∀ e, (appD d s x).F t = some e → t = s ∨ ∃ e', d.F t = some e' := by
    intro e h
    unfold appD at h
    split at h
    · exact .inr ⟨e, h⟩
    split at h
    · exact .inr ⟨e, h⟩
    split at h
    · rw [stepD_F] at h; exact .inr ⟨e, h⟩
    · rcases putE_dom h with h | h
      · exact .inl h
      · exact .inr ⟨e, h⟩
  unfold writeD at h
  split at h
  · exact hA e h
  · unfold syncD at h
    split at h
    · rcases putE_dom h with h | h
      · exact .inl h
      · exact hA _ h
    · rw [stepOfD_F] at h; exact hA _ h
theorem removeD_dom {d : Dk} {s t : ByteArray} {e : Ent} (h : (removeD d s).F t = some e) : ∃ e', d.F t = some e' := by
  unfold removeD at h
  split at h
  · have h' : putE d.F s none t = some e := h
    unfold putE at h'
    split at h'
    · cases h'
    · exact ⟨e, h'⟩
  · rw [stepOfD_F] at h; exact ⟨e, h⟩
theorem rems_dom : ∀ (l : List ByteArray) (p : Int × Dk) {t : ByteArray} {e : Ent}, (l.foldl remS p).2.F t = some e → ∃ e', p.2.F t = some e'
  | [], p, t, e, h => ⟨e, h⟩
  | s :: l, p, t, e, h => by
    rw [List.foldl_cons] at h
    obtain ⟨e1, h1⟩ := rems_dom l _ h
    unfold remS at h1
    split at h1
    · exact ⟨e1, h1⟩
    · exact removeD_dom h1
theorem Nok.write {d : Dk} {k : Nat} {x : ByteArray} (h : Nok d.F) (h1 : 1 ≤ k) (h2 : k ≤ 1000) : Nok (writeD d (nameW k) x).F := fun s e he => by
  rcases writeD_dom he with rfl | ⟨e', he'⟩
  · exact ⟨k, h1, h2, rfl⟩
  · exact h s e' he'
theorem Nok.rems {d : Dk} (h : Nok d.F) (l : List ByteArray) : Nok (rems d l).2.F := h.sub fun s e he => rems_dom l (0, d) he
theorem crS_dom {p : (ByteArray → Option Ent) × List Int} {s t : ByteArray} {e : Ent} (h : (crS p s).1 t = some e) : ∃ e', p.1 t = some e' := by
  by_cases ht : t = s
  · subst ht
    unfold crS at h
    split at h
    · exact ⟨e, h⟩
    · rename_i e0 he0; exact ⟨e0, he0⟩
  · rw [crS_other _ _ _ ht] at h; exact ⟨e, h⟩
theorem crK_dom (F : ByteArray → Option Ent) (ks : List Int) (ts : List (List UInt8)) : ∀ k, k ≤ ts.length → ∀ {t : ByteArray} {e : Ent}, (crK F ks ts k).1 t = some e → ∃ e', F t = some e'
  | 0, _, t, e, h => ⟨e, h⟩
  | k + 1, hk, t, e, h => by
    rw [crK_succ F ks ts k (by omega)] at h
    obtain ⟨e1, h1⟩ := crS_dom h
    exact crK_dom F ks ts k (by omega) h1
theorem Nok.crash {d : Dk} (h : Nok d.F) (ks : List Int) (ts : List (List UInt8)) : Nok (crashD d ks ts).F := h.sub fun s e he => crK_dom d.F ks ts ts.length (Nat.le_refl _) he
theorem Nok.size {F : ByteArray → Option Ent} (h : Nok F) : ∀ s e, F s = some e → s.size ≤ 1000 := fun s e he => by
  obtain ⟨k, k1, k2, rfl⟩ := h s e he
  exact Nat.le_trans (nameW_le (by omega)) (by omega)
/-- What Open makes of a drive that a loss of power left. -/
theorem open_clean {d : Dk} {c : Lc} {base : ByteArray} {recs : List ByteArray} {ts : List (List UInt8)} (hd : d.down = false) (hl : d.lit = false) (hn : Nok d.F) (hset : Settled d.F) (hN : NamesF d.F ts) (hg : Lg (segT d) c base recs) :
    (rems d (tidyL c (namesP ts logP))).1 = 0 ∧ Good (rems d (tidyL c (namesP ts logP))).2 c base recs := by
  have hmem : ∀ s, s ∈ tidyL c (namesP ts logP) ↔ (d.F s).isSome = true ∧ Lib.hasPrefix s.data.toList logP.data.toList = true ∧ keepB c s = false := by
    intro s
    unfold tidyL
    rw [List.mem_filter, mem_names hN]
    constructor
    · rintro ⟨⟨h1, h2⟩, h3⟩; exact ⟨h1, h2, by simpa using h3⟩
    · rintro ⟨h1, h2, h3⟩; exact ⟨⟨h1, h2⟩, by simpa using h3⟩
  have hnd : (tidyL c (namesP ts logP)).Nodup := by
    unfold tidyL
    refine List.Nodup.sublist List.filter_sublist ?_
    rw [List.nodup_iff_pairwise_ne, List.pairwise_map]
    exact List.Pairwise.imp (fun h e => h (nm_inj e)) (List.nodup_iff_pairwise_ne.1 (List.Nodup.sublist List.filter_sublist hN.nodup))
  have h0 : (rems d (tidyL c (namesP ts logP))).1 = 0 := by
    refine rems_go _ _ hd hl hnd fun s hs => ?_
    have h1 := ((hmem s).1 hs).1
    refine ⟨?_, h1⟩
    cases hf : d.F s with
    | none => rw [hf] at h1; cases h1
    | some e =>
      obtain ⟨k, k1, k2, rfl⟩ := hn s e hf
      exact name_ok (by omega)
  refine ⟨h0, ?_⟩
  obtain ⟨r1, r2, r3⟩ := rems_done _ _ hd h0
  generalize (rems d (tidyL c (namesP ts logP))).2 = D at *
  have hkeep : ∀ k, 1 ≤ k → k ≤ 999999999 → (keepB c (nameW k) = true ↔ c.first ≤ k ∧ k ≤ c.last) := by
    intro k h1 h2
    unfold keepB
    rw [numW_name h1 h2]
    simp only [decide_eq_true_eq]
    omega
  have hsame : ∀ k, 1 ≤ k → c.first ≤ k → k ≤ c.last → k ≤ 999999999 → segT D k = segT d k := by
    intro k h1 h2 h3 h4
    rw [seg_up r1, seg_up hd]
    unfold txt
    rw [(r3 (nameW k)).2 (fun hm => by
      have := ((hmem _).1 hm).2.2
      rw [(hkeep k h1 h4).2 ⟨h2, h3⟩] at this; cases this)]
  refine ⟨r1, hg.keep (fun f0 k q1 q2 => hsame k (by omega) q1 q2 (by have := hg.le f0; omega)) (fun f0 => ?_), fun s e he => ?_⟩
  · by_cases h9 : c.last = 999999999
    · exact .inl h9
    · right; right
      have hle := hg.le f0
      have : segT D (c.last + 1) = ⟨#[]⟩ := by
        rw [seg_up r1]
        unfold txt
        cases hf : D.F (nameW (c.last + 1)) with
        | none => rfl
        | some e =>
          exfalso
          by_cases hm : nameW (c.last + 1) ∈ tidyL c (namesP ts logP)
          · rw [(r3 _).1 hm] at hf; cases hf
          · apply hm
            rw [(r3 _).2 hm] at hf
            refine (hmem _).2 ⟨by rw [hf]; rfl, name_pre _, ?_⟩
            cases hk : keepB c (nameW (c.last + 1)) with
            | false => rfl
            | true => have := (hkeep (c.last + 1) (by omega) (by omega)).1 hk; omega
      rw [this]; exact gone_nil
  · by_cases hm : s ∈ tidyL c (namesP ts logP)
    · rw [(r3 s).1 hm] at he; cases he
    · have he' := he
      rw [(r3 s).2 hm] at he'
      obtain ⟨k, k1, k2, rfl⟩ := hn s e he'
      obtain ⟨e1, e2⟩ := hset _ e he'
      have hk : keepB c (nameW k) = true := by
        cases hk : keepB c (nameW k) with
        | true => rfl
        | false => exact absurd ((hmem _).2 ⟨by rw [he']; rfl, name_pre _, hk⟩) hm
      have := (hkeep k k1 (by omega)).1 hk
      refine ⟨e1, e2, k, fun h0 => ?_, this.1, this.2, rfl⟩
      have h5 : c.last = 0 := congrArg Lc.last (hg.none h0).1
      omega
theorem tidy_count {d : Dk} {c : Lc} {ts : List (List UInt8)} (hn : Nok d.F) (hN : NamesF d.F ts) : (tidyL c (namesP ts logP)).length ≤ 1000 := by
  have hnd : (tidyL c (namesP ts logP)).Nodup := by
    unfold tidyL
    refine List.Nodup.sublist List.filter_sublist ?_
    rw [List.nodup_iff_pairwise_ne, List.pairwise_map]
    exact List.Pairwise.imp (fun h e => h (nm_inj e)) (List.nodup_iff_pairwise_ne.1 (List.Nodup.sublist List.filter_sublist hN.nodup))
  have := sub_len (b := (List.range' 1 1000).map nameW) hnd (fun s hs => by
    unfold tidyL at hs
    have h1 := ((mem_names hN).1 (List.mem_filter.1 hs).1).1
    cases hf : d.F s with
    | none => rw [hf] at h1; cases h1
    | some e =>
      obtain ⟨k, k1, k2, rfl⟩ := hn s e hf
      exact List.mem_map.2 ⟨k, by rw [List.mem_range'_1]; omega, rfl⟩)
  rwa [List.length_map, List.length_range'] at this
theorem Good.of_F {d d' : Dk} {c : Lc} {base : ByteArray} {recs : List ByteArray} (h : Good d c base recs) (hF : d'.F = d.F) (hd : d'.down = false) : Good d' c base recs := by
  have hs : segT d' = segT d := by
    funext k
    rw [seg_up hd, seg_up h.up, hF]
  exact ⟨hd, by rw [hs]; exact h.lg, by rw [hF]; exact h.firm⟩
theorem Good.settled {d : Dk} {c : Lc} {base : ByteArray} {recs : List ByteArray} (h : Good d c base recs) : Settled d.F := fun s e he => by
  obtain ⟨h1, h2, _⟩ := h.firm s e he
  exact ⟨h1, h2⟩
/-- Another loss of power changes nothing. -/
theorem Good.crash {d : Dk} {c : Lc} {base : ByteArray} {recs : List ByteArray} (h : Good d c base recs) (ks : List Int) (ts : List (List UInt8)) : Good (crashD d ks ts) c base recs := by
  refine h.of_F ?_ rfl
  show (crK d.F ks ts ts.length).1 = d.F
  rw [crK_id h.settled ks ts ts.length (Nat.le_refl _)]
end Go.Proofs.YtphljjgjpkdpmaaGreatDoor
/- Stage 9: a log's calls, whatever they come to; Open behind a loss of power. -/
namespace Go.Proofs.YtphljjgjpkdpmaaGreatDoor
open Go.RowKit Go.Maps Go.Sort
set_option linter.unusedVariables false
/-- A log's numbers are in order. -/
def LcN (c : Lc) : Prop := (c.first = 0 ↔ c.last = 0) ∧ c.first ≤ c.last
section
variable {B : Nat} {w w' : World} {lb db mb n n' : Nat} {G : ByteArray → Option Nat} {c c' : Lc} {d d' : Dk} {base : ByteArray} {recs l : List ByteArray}
theorem writeL_n (h : LcN c) (hp : placeE c = 0) (hs : sealOk l) (hc : LcOk c) : LcN (writeL c d (placeN c) (placeH c ++ sealB l)) ∧ (writeL c d (placeN c) (placeH c ++ sealB l)).size ≤ c.size + 100000 := by
  obtain ⟨q1, q2, q3⟩ := place_lim c hc hp
  have hb : (sealB l).size ≤ 65536 := by rw [sealB_size]; exact hs.2
  have hN : c.last ≤ placeN c := by
    rcases place_cases c hp with ⟨h1, h2, _⟩ | ⟨_, _, _, h1, _⟩ | ⟨_, _, _, h1, _⟩ <;> omega
  obtain ⟨h1, h2⟩ := h
  unfold writeL
  split
  · unfold growC LcN
    rw [ba_size_app]
    generalize placeN c = N at *
    by_cases f0 : c.first = 0
    · rw [if_pos f0]
      refine ⟨⟨⟨fun h => ?_, fun h => h⟩, Nat.le_refl _⟩, ?_⟩
      · have h' : N = 0 := h
        omega
      · show (if N = c.last then c.size else 0) + _ ≤ _
        split <;> omega
    · rw [if_neg f0]
      refine ⟨⟨⟨fun h => absurd h f0, fun h => ?_⟩, ?_⟩, ?_⟩
      · have h' : N = 0 := h
        omega
      · show c.first ≤ N
        omega
      · show (if N = c.last then c.size else 0) + _ ≤ _
        split <;> omega
  · exact ⟨⟨h1, h2⟩, by omega⟩
theorem Append_gen (v : Value) (h : Wl B w lb db mb n G c d) (hc : LcN c) (hz : c.size ≤ 1000000000) (hr : RowAt w v (l.map Value.string)) (hlen : l.length ≤ 20000) (hs : ∀ s ∈ l, s.size ≤ 1000000000) (hl : c.last < 1000) (hst : d.steps + 1 < 1000000) (hn : n < 1000000) (hk : Nok d.F) :
    Calls Tryz.prog 16 #[.pointer (some ⟨lb, 0, none⟩), v] w fun e w' => (∃ x : Int, e = .returned (.int .i64 x)) ∧ ∃ n' c' d', n' ≤ n + 1 ∧ WEnd lb db mb G n' c' d' w w' ∧ Nok d'.F ∧ d'.steps ≤ d.steps + 2 ∧ c'.last ≤ c.last + 1 ∧ c'.size ≤ c.size + 100000 ∧ LcN c' := by
  by_cases h1 : sealOk l
  · by_cases h0 : l = []
    · subst h0
      refine (LAppend_none lb v w h.va.mv hr).mono ?_
      rintro e w' ⟨rfl, g⟩
      exact ⟨⟨_, rfl⟩, n, c, d, by omega, WEnd.same h.wat g, hk, by omega, by omega, by omega, hc⟩
    · have hok : LcOk c := ⟨hc.1, hc.2, by omega, hz⟩
      have hp := place_ok (c := c) (by omega)
      refine (LAppend_through lb db mb n G c d B v l w h.wat h.va h.lo h.hb hok hst hn hr hlen h0 h1 hp).mono ?_
      rintro e w' ⟨rfl, n', hn', hE⟩
      have hN : placeN c ≤ c.last + 1 ∧ 1 ≤ placeN c := ⟨by
        rcases place_cases c hp with ⟨_, q, _⟩ | ⟨_, _, _, q, _⟩ | ⟨_, _, _, q, _⟩ <;> omega, (place_lim c hok hp).1⟩
      obtain ⟨e1, e2⟩ := writeL_n (d := d) hc hp h1 hok
      exact ⟨⟨_, rfl⟩, n', _, _, hn', hE, hk.write hN.2 (by omega), writeD_steps _ _ _, writeL_last hp, e2, e1⟩
  · refine (LAppend_long lb v l w h.va.mv hr hlen hs h1).mono ?_
    rintro e w' ⟨rfl, g⟩
    exact ⟨⟨_, rfl⟩, n, c, d, by omega, WEnd.same h.wat g, hk, by omega, by omega, by omega, hc⟩
theorem Lay_gen (s : ByteArray) (h : Wl B w lb db mb n G c d) (hc : LcN c) (hz : c.size ≤ 1000000000) (hs : s.size ≤ 524288) (hl : c.last < 1000) (hst : d.steps + 3 + (c.last + 1 - c.first) < 1000000) (hn : n < 1000000) (hk : Nok d.F) :
    Calls Tryz.prog 18 #[.pointer (some ⟨lb, 0, none⟩), .string s] w fun e w' => (∃ x : Int, e = .returned (.int .i64 x)) ∧ ∃ n' c' d', n' ≤ n + 1 ∧ WEnd lb db mb G n' c' d' w w' ∧ Nok d'.F ∧ d'.steps ≤ d.steps + 2 + (c.last + 1 - c.first) ∧ c'.last ≤ c.last + 1 ∧ c'.size ≤ c.size + 700000 ∧ LcN c' := by
  have hok : LcOk c := ⟨hc.1, hc.2, by omega, hz⟩
  refine (Lay_any lb db mb n G c d B s w h.wat h.va h.lo h.hb hok hs (by omega) hst hn).mono ?_
  rintro e w' ⟨rfl, n', hn', hE⟩
  have hx := (layX_size s hs).2
  refine ⟨⟨_, rfl⟩, n', _, _, hn', hE, ?_, layD_steps _ _ _, ?_, ?_, ?_⟩
  · have hw := hk.write (k := c.last + 1) (x := layX s) (by omega) (by omega)
    unfold layD
    split
    · exact hw
    · exact hw.rems _
  · unfold layL
    split
    · omega
    · show c.last + 1 ≤ _; omega
  · unfold layL
    split
    · omega
    · show (layX s).size ≤ _; omega
  · unfold layL
    split
    · exact hc
    · exact ⟨⟨fun h => h, fun h => h⟩, Nat.le_refl _⟩
theorem Fuse_gen (k : Int) (h : Wl B w lb db mb n G c d) (hk : k ≤ 9223372036854775807) :
    Calls Tryz.prog 19 #[.pointer (some ⟨db, 0, none⟩), .int .i64 k] w fun e w' => e = .returned (.tuple #[]) ∧ WEnd lb db mb G n c (fuseD d k) w w' :=
  (Fuse_any db mb n G d k w h.wat.dr hk).mono fun e w' ⟨he, hE⟩ => ⟨he, WEnd.drive h.wat hE⟩
theorem own_ints {ks : List Int} {v8 : Value} {w8 : World} (o8 : w8.ownsRow 0 3 1 v8 (0 + (ks.map (Value.int .i64)).length) ([] ++ ks.map (Value.int .i64))) (g8 : (w.alloc (.cells #[] 3)).grownBy w8 (Value.slice (some ⟨w.heap.size, 0, none⟩) 0 0).ownBlock) (m8 : Moved (w.alloc (.cells #[] 3)) (.slice (some ⟨w.heap.size, 0, none⟩) 0 0) v8) :
    NewBlk w v8 ∧ w.grownBy w8 none ∧ w8.ownsRow 0 3 1 v8 ks.length (ks.map (Value.int .i64)) := by
  refine ⟨fun k hk => ?_, ?_, by simpa using o8⟩
  · rcases m8 with m | ⟨j, hj, m⟩
    · rw [m] at hk
      have : w.heap.size = k := by simpa [Value.ownBlock] using hk
      omega
    · rw [m] at hk
      injection hk with hk
      subst hk
      have : (w.alloc (.cells #[] 3)).heap.size = w.heap.size + 1 := by simp
      omega
  · have hne : ∀ i, i < w.heap.size → some i ≠ (Value.slice (some ⟨w.heap.size, 0, none⟩) 0 0).ownBlock := fun i hi e => by
      have : i = w.heap.size := by simpa [Value.ownBlock] using e
      omega
    exact ⟨g8.os, g8.tape, g8.output, Nat.le_trans (by simp) g8.size, fun i hi _ => (g8.block i (by simp; omega) (hne i hi)).trans (Below.heap_alloc w _ i hi)⟩
/-- Open, behind a loss of power. -/
theorem Open_clean (h : DAt w db mb n G d) (hv : Va B w) (hlo : ∀ i, DS db mb G i → B ≤ i) (hB : B ≤ w.heap.size) (hd : d.down = false) (hl : d.lit = false) (hk : Nok d.F) (hset : Settled d.F) (hst : d.steps + n < 900000) :
    Calls Tryz.prog 15 #[.pointer (some ⟨db, 0, none⟩)] w fun e w' => ∃ v c d' base recs G', Good d' c base recs ∧ d'.steps ≤ d.steps + 1000 ∧ recs.length ≤ maxLen ∧ e = .returned (.tuple #[.pointer (some ⟨w.heap.size, 0, none⟩), .string base, v, .int .i64 0]) ∧ RowN (DS db mb G') w' v (recs.map Value.string)
      ∧ DAt w' db mb n G' d' ∧ Va B w' ∧ (∀ i, DS db mb G' i → B ≤ i) ∧ B ≤ w'.heap.size ∧ Below B w w' := by
  refine (Open_up db mb n G d w h B hv hlo hB hd (by omega) hk.size).mono ?_
  rintro e w' ⟨ts, c, base, recs, hN, hf, hlg, hx⟩
  obtain ⟨h0, hg⟩ := open_clean hd hl hk hset hN hlg
  rcases hx with ⟨_, v, G', h1, h2, h3, h4, h5, h6, h7⟩ | ⟨hx, _⟩
  · have hlo' : ∀ i, DS db mb G' i → B ≤ i := by
      intro i hi
      rcases hi with rfl | rfl | ⟨t, hi⟩
      · exact hlo _ (.inl rfl)
      · exact hlo _ (.inr (.inl rfl))
      · rcases h7 t i hi with ⟨u, y⟩ | y
        · exact hlo _ (.inr (.inr ⟨u, y⟩))
        · exact Nat.le_trans hB y
    have hb := h6.below hB hlo
    have hrow : RowN (DS db mb G') w' v (recs.map Value.string) := by
      have hl : (recs.map Value.string).length = recs.length := List.length_map _
      rcases h2.2 with ⟨rfl, r0⟩ | ⟨g, cap, cur, rfl, hb', hh, q1, q2, q3, q4⟩
      · have : recs.map Value.string = [] := List.eq_nil_of_length_eq_zero (by rw [hl]; exact r0)
        rw [this]
        exact ⟨none, 0, rfl, Nat.zero_le _, .inl rfl⟩
      · have hR := RowAt.of_own h2
        obtain ⟨a', c', e', hR⟩ := hR
        injection e' with e1 e2 e3
        refine ⟨_, cap, by rw [hl], by rw [hl]; exact q1, ?_⟩
        rcases hR with hR | ⟨b, off, he, hbb, hcc⟩
        · exact .inl hR
        · refine .inr ⟨b, off, by rw [e1]; exact he, hbb, ?_, hcc⟩
          rw [he] at e1
          injection e1 with e1
          injection e1 with e1 e4
          rw [← e1]
          exact (h4 g rfl).2
    have hlen : recs.length ≤ maxLen := by
      obtain ⟨a, c2, _, hc2⟩ := hrow.form
      rcases h2.2 with ⟨_, r0⟩ | ⟨g, cap, cur, _, _, _, q1, q2, _⟩
      · rw [r0]; exact Nat.zero_le _
      · exact Nat.le_trans q1 q2
    exact ⟨v, c, _, base, recs, G', hg, by
      have q1 := rems_steps d (tidyL c (namesP ts logP)) (0, d)
      have q2 := tidy_count (c := c) hk hN
      unfold rems
      simp only at q1
      omega, hlen, h1, hrow, h5.dr, hv.below hb, hlo', Nat.le_trans hB h6.size, hb⟩
  · exact absurd h0 hx
end
end Go.Proofs.YtphljjgjpkdpmaaGreatDoor
