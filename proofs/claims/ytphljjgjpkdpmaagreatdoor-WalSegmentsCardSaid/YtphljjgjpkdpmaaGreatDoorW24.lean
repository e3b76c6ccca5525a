/- Several texts in one: WnS WnSeg. -/
import Derived.Test.YtphljjgjpkdpmaaGreatDoorW22
import Derived.Test.YtphljjgjpkdpmaaGreatDoorW23
/- Stage 9: sizes of what is put; a drive with one segment: pure. -/
namespace Go.Proofs.YtphljjgjpkdpmaaGreatDoor
open Go.RowKit Go.Maps Go.Sort
set_option linter.unusedVariables false
theorem numB_three {n : Nat} (h : n ≤ 8192) : (numB (n : Int)).length ≤ 3 := by
  unfold numB
  have hz := Lib.zigzag_nonneg (x := (n : Int)) (by omega)
  exact Lib.uvarint_length 2 _ (by have : (128 : Nat) ^ (2 + 1) = 2097152 := by decide
                                   omega)
theorem frames_sum : ∀ l : List ByteArray, (∀ p ∈ l, p.size ≤ 8192) → (framesB l).length ≤ wsum l + 6 * l.length
  | [], _ => by simp [framesB]
  | p :: l, h => by
    have h1 := h p (List.mem_cons_self ..)
    have h2 := frames_sum l (fun q hq => h q (List.mem_cons_of_mem _ hq))
    have e : framesB (p :: l) = frB p ++ framesB l := by unfold framesB; simp only [List.flatMap_cons]
    have e2 : wsum (p :: l) = (1 + p.size) + wsum l := by unfold wsum; simp
    have h3 := numB_three h1
    rw [e, List.length_append, frB_size, List.length_cons, e2]
    omega
theorem wsum_app (a b : List ByteArray) : wsum (a ++ b) = wsum a + wsum b := by unfold wsum; simp
theorem wsum_part (l : List ByteArray) (a b : Nat) : wsum ((l.drop a).take b) ≤ wsum l := by
  have h1 : wsum l = wsum (l.take a) + wsum (l.drop a) := by rw [← wsum_app, List.take_append_drop]
  have h2 : wsum (l.drop a) = wsum ((l.drop a).take b) + wsum ((l.drop a).drop b) := by rw [← wsum_app, List.take_append_drop]
  omega
/-- Any part of such a list may be put at one time. -/
theorem seal_part {l : List ByteArray} (hl : l.length ≤ 5000) (hs : ∀ p ∈ l, p.size ≤ 8192) (hw : wsum l ≤ 16384) (a b : Nat) : sealOk ((l.drop a).take b) := by
  have h : ∀ p ∈ (l.drop a).take b, p.size ≤ 8192 := fun p hp => hs p (List.mem_of_mem_drop (List.mem_of_mem_take hp))
  refine ⟨h, ?_⟩
  have h1 := frames_sum _ h
  have h2 := wsum_part l a b
  have h3 : ((l.drop a).take b).length ≤ l.length := by rw [List.length_take, List.length_drop]; omega
  omega
/-- A drive with one segment has one name. -/
theorem one_name {d : Dk} {c : Lc} {base : ByteArray} {recs : List ByteArray} (h : Good d c base recs) (h0 : c.first ≠ 0) (h1 : c.first = c.last) {ts : List (List UInt8)} (hN : NamesF d.F ts) : (namesP ts logP).length = 1 := by
  have hall : ∀ x ∈ namesP ts logP, x = (nameW c.first).data.toList := by
    intro x hx
    unfold namesP at hx
    rw [List.mem_filter] at hx
    have := (hN.mem x).1 hx.1
    cases hf : d.F (nm x) with
    | none => rw [hf] at this; cases this
    | some e =>
      obtain ⟨_, _, k, _, k1, k2, k3⟩ := h.firm _ e hf
      have : k = c.first := by omega
      subst this
      have h5 : (nm x).data.toList = x := bs_list x
      rw [← h5, k3]
  have hmem : (nameW c.first).data.toList ∈ namesP ts logP := by
    unfold namesP
    rw [List.mem_filter]
    refine ⟨(hN.mem _).2 ?_, name_pre _⟩
    rw [name_self]
    exact h.has h0 (Nat.le_refl _) (by omega)
  have hnd : (namesP ts logP).Nodup := List.Nodup.sublist List.filter_sublist hN.nodup
  generalize namesP ts logP = L at *
  match L, hall, hmem, hnd with
  | [], _, hm, _ => cases hm
  | [x], _, _, _ => rfl
  | x :: y :: L, ha, _, hn =>
    exfalso
    have e1 := ha x (by simp)
    have e2 := ha y (by simp)
    have := (List.nodup_cons.1 hn).1
    apply this
    rw [e1, ← e2]
    exact List.mem_cons_self ..
theorem layL_one {d : Dk} {c : Lc} {s : ByteArray} (hw : layC c d s = 0) : layL c d s = ⟨c.last + 1, c.last + 1, (layX s).size, false⟩ := by
  have h1 : writeC d (layN c) (layX s) = 0 := by
    unfold layC at hw
    split at hw
    · rename_i hx; exact absurd hw hx
    · rename_i hx; simpa using hx
  unfold layL; rw [if_neg (fun hx => hx h1)]
theorem layD_lit {d : Dk} {c : Lc} {s : ByteArray} (hw : layC c d s = 0) : (layD c d s).lit = d.lit := by
  have h1 : writeC d (layN c) (layX s) = 0 := by
    unfold layC at hw
    split at hw
    · rename_i hx; exact absurd hw hx
    · rename_i hx; simpa using hx
  have hd : layD c d s = (rems (writeD d (layN c) (layX s)) (segsOf c.first c.last)).2 := by unfold layD; rw [if_neg (fun hx => hx h1)]
  have h2 : (rems (writeD d (layN c) (layX s)) (segsOf c.first c.last)).1 = 0 := by
    unfold layC at hw
    rwa [if_neg (fun hx => hx h1)] at hw
  obtain ⟨w1, w2, w3, w4, w5⟩ := write_done h1
  obtain ⟨r1, r2, r3⟩ := rems_done _ _ w3 h2
  rw [hd]
  exact r2.trans w4
theorem writeL_last {d : Dk} {c : Lc} {x : ByteArray} (h : placeE c = 0) : (writeL c d (placeN c) x).last ≤ c.last + 1 := by
  have hp : placeN c ≤ c.last + 1 := by
    rcases place_cases c h with ⟨_, h1, _⟩ | ⟨_, _, _, h1, _⟩ | ⟨_, _, _, h1, _⟩ <;> omega
  unfold writeL
  split
  · exact hp
  · omega
theorem layD_steps (d : Dk) (c : Lc) (s : ByteArray) : (layD c d s).steps ≤ d.steps + 2 + (c.last + 1 - c.first) := by
  have h1 := writeD_steps d (layN c) (layX s)
  unfold layD
  split
  · omega
  · have h2 := rems_steps (writeD d (layN c) (layX s)) (segsOf c.first c.last) (0, writeD d (layN c) (layX s))
    have h3 : (segsOf c.first c.last).length ≤ c.last + 1 - c.first := by
      unfold segsOf
      split
      · simp
      · simp
    unfold rems
    simp only at h2
    omega
abbrev Own3 (lb db mb : Nat) (G : ByteArray → Option Nat) : Nat → Prop := fun i => i = lb ∨ DS db mb G i
section
variable {B : Nat} {w w' : World} {lb db mb n n' : Nat} {G : ByteArray → Option Nat} {c c' : Lc} {d d' : Dk} {base : ByteArray} {recs l : List ByteArray}
/-- A call of Append where nothing is in the way. -/
theorem Append_part (v : Value) (h : Wl B w lb db mb n G c d) (hg : Good d c base recs) (hl : d.lit = false) (hs : sealOk l) (hr : RowAt w v (l.map Value.string)) (hlen : l.length ≤ 20000) (hc : c.last < 999999999) (hst : d.steps + 1 < 1000000) (hn : n < 1000000) :
    Calls Tryz.prog 16 #[.pointer (some ⟨lb, 0, none⟩), v] w fun e w' => e = .returned (.int .i64 0) ∧ ∃ n' c' d', n' ≤ n + 1 ∧ WEnd lb db mb G n' c' d' w w' ∧ Good d' c' base (recs ++ l) ∧ d'.lit = false ∧ d'.steps ≤ d.steps + 2 ∧ c'.last ≤ c.last + 1 := by
  by_cases h0 : l = []
  · subst h0
    refine (LAppend_none lb v w h.va.mv hr).mono ?_
    rintro e w' ⟨rfl, g⟩
    exact ⟨rfl, n, c, d, by omega, WEnd.same h.wat g, by rw [List.append_nil]; exact hg, hl, by omega, by omega⟩
  · refine (Append_good v h hg hl hs h0 hr hlen hc hst hn).mono ?_
    rintro e w' ⟨rfl, n', hn', hE⟩
    have hz := (h.lcok hg).2.2.2
    have hp := place_ok hc
    have hw := hg.append_ok hl hs hp hz
    exact ⟨rfl, n', _, _, hn', hE, hg.append hs hp hz hw, (write_done hw).2.2.2.1.trans hl, writeD_steps _ _ _, writeL_last hp⟩
theorem grow_of_below (h : Below w.heap.size w w') : w.grownBy w' none := ⟨h.os, h.tape, h.output, h.size, fun i hi _ => h.block i hi⟩
/-- A row apart from the log stays so. -/
theorem RowN.over {v : Value} {xs : List Value} (h : RowN (Own3 lb db mb G) w v xs) {G' : ByteArray → Option Nat} (k : Chg (Own3 lb db mb G) w w') (f : ∀ s g, G' s = some g → (∃ t, G t = some g) ∨ w.heap.size ≤ g) : RowN (Own3 lb db mb G') w' v xs := by
  obtain ⟨a, cap, rfl, hc, h⟩ := h
  refine ⟨a, cap, rfl, hc, ?_⟩
  rcases h with h | ⟨b, off, rfl, hb, hn, h⟩
  · exact .inl h
  · refine .inr ⟨b, off, rfl, Nat.lt_of_lt_of_le hb k.size, fun hs => ?_, fun j hj => by rw [← h j hj]; exact World.cell?_of_block (k.block b hb hn)⟩
    rcases hs with y | y | y | ⟨t, y⟩
    · exact hn (.inl y)
    · exact hn (.inr (.inl y))
    · exact hn (.inr (.inr (.inl y)))
    · rcases f t b y with ⟨u, z⟩ | z
      · exact hn (.inr (.inr (.inr ⟨u, z⟩)))
      · omega
theorem RowN.row {S : Nat → Prop} {v : Value} {xs : List Value} (h : RowN S w v xs) : RowAt w v xs := by
  obtain ⟨a, cap, rfl, hc, h⟩ := h
  refine ⟨a, cap, rfl, ?_⟩
  rcases h with h | ⟨b, off, rfl, hb, hn, h⟩
  · exact .inl h
  · exact .inr ⟨b, off, rfl, hb, h⟩
theorem RowN.take {S : Nat → Prop} {a : Option Addr} {m cap cap' k : Nat} {xs : List Value} (h : RowN S w (.slice a m cap) xs) (hk : k ≤ m) (hm : xs.length = m) : RowAt w (.slice a k cap') (xs.take k) := by
  obtain ⟨a', cp, e, hc, h⟩ := h
  injection e with e1 e2 e3
  subst e1
  have hl : (xs.take k).length = k := by rw [List.length_take]; omega
  refine ⟨a, cap', by rw [hl], ?_⟩
  rcases h with h | ⟨b, off, rfl, hb, hn, h⟩
  · subst h; left; simp
  · refine .inr ⟨b, off, rfl, hb, fun j hj => ?_⟩
    rw [hl] at hj
    rw [h j (by omega)]
    simp [List.getD, hj]
theorem RowN.drop {S : Nat → Prop} {a : Option Addr} {m cap k : Nat} {xs : List Value} (h : RowN S w (.slice a m cap) xs) (hk : k ≤ m) (hm : xs.length = m) : RowN S w (.slice (if cap = k then a else a.map (·.add k)) (m - k) (cap - k)) (xs.drop k) := by
  obtain ⟨a', cp, e, hc, h⟩ := h
  injection e with e1 e2 e3
  subst e1 e3
  have hl : (xs.drop k).length = m - k := by rw [List.length_drop]; omega
  refine ⟨_, _, by rw [hl], by omega, ?_⟩
  rcases h with h | ⟨b, off, rfl, hb, hn, h⟩
  · subst h; left; simp
  · by_cases hck : cap = k
    · left
      rw [List.drop_of_length_le (by omega)]
    · right
      rw [if_neg hck]
      refine ⟨b, off + k, congrArg some (add_off b off k), hb, hn, fun j hj => ?_⟩
      rw [hl] at hj
      rw [show off + k + j = off + (k + j) by omega, h (k + j) (by omega)]
      simp [List.getD, List.getElem?_drop]
theorem Wl.of (h : Wl B w lb db mb n G c d) {G' : ByteArray → Option Nat} (k1 : WAt w' lb db mb n' G' c' d') (k2 : Chg (Own3 lb db mb G) w w') (k3 : ∀ s g, G' s = some g → (∃ t, G t = some g) ∨ w.heap.size ≤ g) : Wl B w' lb db mb n' G' c' d' ∧ Below B w w' :=
  ⟨⟨k1, h.va.over h.lo h.hb ⟨G', k1, k2, k3⟩, lo_over h.lo h.hb k3, Nat.le_trans h.hb k2.size⟩, k2.below h.hb h.lo⟩
theorem row_u8 {a : Option Addr} {cp : Nat} {ns : List Int} {k : Nat} (h : RowAt w (.slice a ns.length cp) (ns.map (Value.int .u8))) (hk : k < ns.length) : ∃ bb off, a = some ⟨bb, off, none⟩ ∧ w.cell? ⟨bb, off + k, none⟩ = some (.int .u8 ns[k]) := by
  obtain ⟨a', c', e, h⟩ := h
  injection e with e1 e2 e3
  subst e1
  rcases h with h | ⟨b, off, rfl, hb, hc⟩
  · have : ns = [] := by simpa using h
    subst this; simp at hk
  · exact ⟨b, off, rfl, by rw [hc k (by simpa using hk)]; simp [List.getD, List.getElem?_eq_getElem hk]⟩
end
end Go.Proofs.YtphljjgjpkdpmaaGreatDoor
/- The law WalSegments: its walk. -/
namespace Go.Proofs.YtphljjgjpkdpmaaGreatDoor
open Go.RowKit Go.Maps Go.Sort
set_option linter.unusedVariables false
set_option maxRecDepth 100000 in
set_option maxHeartbeats 8000000 in
theorem law_WalSegments (v : Value) (l : List ByteArray) {w : World} (hr : RowAt w v (l.map Value.string)) (hs : ∀ s ∈ l, s.size ≤ maxLen) (hl : l.length ≤ maxLen) (vc : Value) (ns : List Int) (hrc : RowAt w vc (ns.map (Value.int .u8))) (hcb : ∀ n ∈ ns, 0 ≤ n ∧ n ≤ 255) (hcl : ns.length ≤ maxLen) (b : ByteArray) (hb : b.size ≤ maxLen) (hv : Va w.heap.size w) :
    Calls Tryz.prog 6 #[v, vc, .string b] w fun e w' => e = .returned (.bool true) ∧ Below w.heap.size w w' := by
  obtain ⟨a, ca, rfl⟩ := hr.len
  obtain ⟨a1, c1, rfl⟩ := hrc.len
  rw [List.length_map] at hr hrc ⊢
  have HV := Lib.hid hv
  have HR := Lib.hid hr
  have HRC := Lib.hid hrc
  have HCB := Lib.hid hcb
  have HS := Lib.hid hs
  have HL := Lib.hid hl
  have HB := Lib.hid hb
  have hcl' : (ns.length : Int) ≤ 9223372036854775807 := by unfold maxLen at hcl; omega
  have hl' : (l.length : Int) ≤ 9223372036854775807 := by unfold maxLen at hl; omega
  clear hv hr hs hl hb hrc hcb hcl
  go_enter Tryz.func6, Tryz.ntmps6
  go_wp2_with fail
  refine (awake09_any w HV.out).mono ?_
  rintro e w1 ⟨rfl, g1⟩
  have G1 := Lib.hid g1
  clear g1
  go_wp2_with fail
  have hW := Lib.hid (wo_ok _ _ l b ((HR.out.kept G1.out).kept (World.grownBy_alloc w1 (.cells #[.int .i64 0, .slice a l.length ca, .string b, .string ⟨#[]⟩, .int .i64 0, .slice none 0 0] 37) none)) HS.out HL.out HB.out)
  refine (great09_any _ _ _ (one_wo w1 0 0 (.slice a l.length ca) (.slice none 0 0) b ⟨#[]⟩) (by show 1 ≤ maxLen; decide) (fun o ho => ⟨l, [], by rw [List.mem_singleton] at ho; rw [ho]; exact hW.out⟩)).mono ?_
  rintro e w2 ⟨he, g2⟩
  have G2 := Lib.hid (grow_none (grow_none G1.out (World.grownBy_alloc _ _ _)) g2)
  have AW := Lib.hid (awake09_any w2 ((HV.out.keep G2.out).mono G2.out.size))
  clear g2
  rcases he with rfl | ⟨rfl, _, hsm⟩
  · go_wp2_with fail
    refine AW.out.mono ?_
    rintro e w3 ⟨rfl, g3⟩
    have G3 := Lib.hid (grow_none G2.out g3)
    clear g3
    go_wp2
    go_ret
    exact ⟨rfl, below_of_none G3.out⟩
  by_cases hn : 100 < ns.length
  · have i1 : (100 : Int) < ns.length := by omega
    go_wp2_with fail
    refine AW.out.mono ?_
    rintro e w3 ⟨rfl, g3⟩
    have G3 := Lib.hid (grow_none G2.out g3)
    clear g3
    go_wp2
    go_ret
    exact ⟨rfl, below_of_none G3.out⟩
  have i1 : ¬ (100 : Int) < ns.length := by omega
  by_cases hn2 : 5000 < l.length
  · have i2 : (5000 : Int) < l.length := by omega
    go_wp2_with fail
    refine AW.out.mono ?_
    rintro e w3 ⟨rfl, g3⟩
    have G3 := Lib.hid (grow_none G2.out g3)
    clear g3
    go_wp2
    go_ret
    exact ⟨rfl, below_of_none G3.out⟩
  have i2 : ¬ (5000 : Int) < l.length := by omega
  have hx := hsm _ (List.mem_singleton.2 rfl) l [] hW.out
  have HSUM : Hid (wsum l ≤ 16384 ∧ b.size ≤ 16384) := by
    have := hx.1
    have e1 : (⟨0, .slice a l.length ca, b, ⟨#[]⟩, 0, .slice none 0 0⟩ : Wo).text = b := rfl
    rw [e1] at this
    show _ ∧ _
    omega
  have HN := Lib.hid (show ns.length ≤ 100 by omega)
  have HN2 := Lib.hid (show l.length ≤ 5000 by omega)
  have R2 := Lib.hid (HR.out.kept G2.out)
  clear hx hsm AW hW hn hn2
  have hl5 : (l.length : Int) ≤ 5000 := by omega
  have hn1 : (ns.length : Int) ≤ 100 := by omega
  go_wp2
  go_loop [48] (fun i => ∃ k : Nat, k ≤ l.length ∧ i = .int .i64 k ∧ ∀ s ∈ l.take k, s.size ≤ 8192) (fun i => l.length - (intOf i).toNat)
  case atStart => exact ⟨0, Nat.zero_le _, rfl, by simp⟩
  case round =>
    obtain ⟨k, hk, rfl, hall⟩ := hrel
    have HA := Lib.hid hall
    clear hall
    by_cases hlt : k < l.length
    · obtain ⟨bb, off, rfl, hcell⟩ := row_str R2.out hlt
      obtain ⟨t, ht⟩ : ∃ t, t = l[k] := ⟨_, rfl⟩
      have HT : Hid (∀ s ∈ l.take (k + 1), s.size ≤ 8192 ∨ s = t) := by
        intro s hs
        rw [List.take_succ_eq_append_getElem hlt, List.mem_append, List.mem_singleton] at hs
        rcases hs with hs | hs
        · exact .inl (HA.out s hs)
        · exact .inr (by rw [hs, ht])
      rw [← ht] at hcell
      have hki : (k : Int) < l.length := by omega
      clear ht
      by_cases hbig : 8192 < t.size
      · have h1 : decide ((8192 : Int) < t.size) = true := decide_eq_true (by omega)
        clear hbig
        go_wp2
        go_ret
        exact ⟨rfl, below_of_none G2.out⟩
      · have h1 : decide ((8192 : Int) < t.size) = false := decide_eq_false (by omega)
        have HBG := Lib.hid hbig
        clear hbig
        go_wp2
        go_round
        case rel => exact ⟨k + 1, by omega, by go_num, fun s hs => by
          rcases HT.out s hs with h | rfl
          · exact h
          · have := HBG.out; omega⟩
        case measure => simp [intOf]; omega
    · obtain rfl : k = l.length := by omega
      have HALL : Hid (∀ s ∈ l, s.size ≤ 8192) := by have := HA.out; rw [List.take_length] at this; exact this
      have V2 := Lib.hid (HV.out.keep G2.out)
      obtain ⟨B, hBB⟩ : ∃ B, B = w.heap.size := ⟨_, rfl⟩
      rw [← hBB] at V2
      have HBE := Lib.hid hBB
      clear hBB hk hlt HA
      go_wp2_with fail
      refine (New_any w2).mono ?_
      rintro e w3 ⟨rfl, h3, g3⟩
      have V3 := Lib.hid (V2.out.keep g3)
      have B3 : Hid (B ≤ w2.heap.size) := by show B ≤ _; have := HBE.out; have := G2.out.size; omega
      have H3 := Lib.hid h3
      have G3 := Lib.hid (grow_none G2.out g3)
      have Z3 := Lib.hid g3.size
      obtain ⟨db, hdb⟩ : ∃ db, db = w2.heap.size + 1 := ⟨_, rfl⟩
      obtain ⟨mb, hmb⟩ : ∃ mb, mb = w2.heap.size := ⟨_, rfl⟩
      rw [← hdb, ← hmb] at H3
      rw [← hdb]
      have LO3 : Hid (∀ i, DS db mb (fun _ => none) i → B ≤ i) := by
        intro i hi
        have := B3.out
        rcases hi with rfl | rfl | ⟨s, hs⟩
        · omega
        · omega
        · cases hs
      clear h3 g3 hdb hmb
      go_wp2_with fail
      refine (Open_good H3.out V3.out LO3.out (Nat.le_trans B3.out Z3.out) Good.new (by decide)).mono ?_
      rintro e w4 ⟨v4, G4, rfl, o4, n4, f4, h4, c4, x4⟩
      have W4 := Lib.hid h4
      have E4 : Hid (Below B w w4) := by
        have := HBE.out
        subst this
        exact (below_of_none G3.out).trans (c4.below (Nat.le_trans B3.out Z3.out) LO3.out)
      obtain ⟨lb, hlb⟩ : ∃ lb, lb = w3.heap.size := ⟨_, rfl⟩
      rw [← hlb] at W4
      rw [← hlb]
      obtain ⟨a4, k4, rfl⟩ := own_form o4
      clear o4 n4 f4 h4 c4 x4 hlb
      have GW4 : Hid (w.grownBy w4 none) := by
        have h1 := E4.out
        rw [HBE.out] at h1
        exact grow_of_below h1
      go_wp2_with fail
      refine (own09_any _ l w4 (HR.out.kept GW4.out) (by have := HN2.out; omega)).mono ?_
      rintro e w5 ⟨v5, rfl, o5, n5, g5⟩
      have W5 := Lib.hid (W4.out.keep g5)
      have E5 := Lib.hid (E4.out.trans (bel_none g5 W4.out.hb))
      have hrow := RowN.of_new (S := Own3 lb db mb G4) o5 n5 (fun i hi => by
        rcases hi with rfl | hi
        · exact W4.out.wat.lt
        · exact W4.out.wat.dr.live i hi)
      obtain ⟨ar, cr, rfl⟩ := own_form o5
      have HRW := Lib.hid hrow
      clear o5 n5 g5 hrow
      go_wp2
      go_loopw [14, 68] (fun r i wr => ∃ (j m n' : Nat) (G : ByteArray → Option Nat) (c : Lc) (d : Dk), j ≤ ns.length ∧ i = .int .i64 j ∧ m ≤ l.length ∧ Wl B wr lb db mb n' G c d ∧ Good d c ⟨#[]⟩ (l.take m) ∧ d.lit = false ∧ d.steps ≤ 2 * j ∧ n' ≤ j ∧ c.last ≤ j ∧ RowN (Own3 lb db mb G) wr r ((l.drop m).map Value.string) ∧ Below B w wr) (fun _ i _ => ns.length - (intOf i).toNat)
      case atStart => exact ⟨0, 0, 0, G4, ⟨0, 0, 0, false⟩, newD, Nat.zero_le _, rfl, Nat.zero_le _, W5.out, Good.new, rfl, Nat.le_refl _, Nat.le_refl _, Nat.le_refl _, HRW.out, E5.out⟩
      case round =>
        obtain ⟨j, m, n', G, c, d, hj, rfl, hm, hW, hg, hlit, hst, hn', hcl, hrow, hE⟩ := hrel
        have W := Lib.hid hW
        have GD := Lib.hid hg
        have HLIT := Lib.hid hlit
        have HST := Lib.hid hst
        have HN' := Lib.hid hn'
        have HCL := Lib.hid hcl
        have HM := Lib.hid hm
        have E := Lib.hid hE
        have GW : Hid (w.grownBy wr none) := by
          rw [HBE.out] at hE
          exact grow_of_below hE
        obtain ⟨ap, cp, rfl, hcp⟩ := hrow.form
        obtain ⟨K, hK⟩ : ∃ K, K = l.length - m := ⟨_, rfl⟩
        rw [List.length_map, List.length_drop, ← hK] at hrow hcp
        rw [List.length_map, List.length_drop, ← hK]
        have HK := Lib.hid hK
        have HRO := Lib.hid hrow
        have hK5 : (K : Int) ≤ 5000 := by have := HN2.out; omega
        have hcpi : (K : Int) ≤ cp := by omega
        have HCP := Lib.hid hcp
        clear hW hg hlit hst hn' hcl hm hE hK hrow
        by_cases hlt : j < ns.length
        · obtain ⟨bc, oc, rfl, hcell⟩ := row_u8 (HRC.out.kept GW.out) hlt
          obtain ⟨x, hx⟩ : ∃ x, x = ns[j] := ⟨_, rfl⟩
          have hxb := HCB.out x (by rw [hx]; exact List.getElem_mem hlt)
          rw [← hx] at hcell
          have hj1 : (j : Int) < ns.length := by omega
          have hj0 : (0 : Int) ≤ j := by omega
          have hxw : IntKind.i64.wrap x = x := by rw [IntKind.wrap_i64]; omega
          obtain ⟨q, hq⟩ : ∃ q : Nat, x.tmod 8 = (q : Int) ∧ q < 8 := by
            refine ⟨(x % 8).toNat, ?_, by omega⟩
            rw [Int.tmod_eq_emod_of_nonneg hxb.1]; omega
          have hq1 := hq.1
          obtain ⟨t, ht⟩ : ∃ t : Nat, min (q : Int) (K : Int) = (t : Int) := ⟨min q K, by omega⟩
          have HT : Hid (t ≤ K ∧ t < 8) := by show _ ∧ _; have := hq.2; omega
          have ht0 : (0 : Int) ≤ t := by omega
          have ht1 : (t : Int) ≤ cp := by omega
          have htk : (t : Int) ≤ K := by omega
          have HJ := Lib.hid hlt
          have HP := Lib.hid (Append_part (l := (l.drop m).take t) (.slice ap t cp) W.out GD.out HLIT.out (seal_part HN2.out HALL.out HSUM.out.1 m t) (by rw [List.map_take]; exact HRO.out.take HT.out.1 (by rw [List.length_map, List.length_drop]; exact HK.out.symm)) (by rw [List.length_take, List.length_drop]; have := HN2.out; omega) (by have := HCL.out; have := HN.out; omega) (by have := HST.out; have := HN.out; omega) (by have := HN'.out; have := HN.out; omega))
          clear hx hxb hq hlt
          go_wp2_with fail
          refine HP.out.mono ?_
          rintro e w7 ⟨rfl, n7, c7, d7, hn7, ⟨G7, k1, k2, k3⟩, g7, l7, s7, z7⟩
          obtain ⟨W7, E7⟩ := W.out.of k1 k2 k3
          have R7 := Lib.hid (HRO.out.over k2 k3)
          have W7 := Lib.hid W7
          have E7 := Lib.hid (E.out.trans E7)
          have A7 : Hid (Good d7 c7 ⟨#[]⟩ (l.take (m + t)) ∧ d7.lit = false ∧ d7.steps ≤ 2 * (j + 1) ∧ n7 ≤ j + 1 ∧ c7.last ≤ j + 1) := by
            have h1 := HST.out
            have h2 := HN'.out
            have h3 := HCL.out
            refine ⟨?_, l7, by omega, by omega, by omega⟩
            rw [List.take_add]; exact g7
          have HD := Lib.hid (R7.out.drop HT.out.1 (by rw [List.length_map, List.length_drop]; exact HK.out.symm))
          clear hn7 k1 k2 k3 g7 l7 s7 z7
          have HDL : Hid (∀ (S : Nat → Prop) (W : World) (v : Value), RowN S W v (((l.drop m).map Value.string).drop t) → RowN S W v ((l.drop (m + t)).map Value.string)) := fun S W v h => by
            rw [← List.drop_drop, List.map_drop]; exact h
          by_cases hq : cp = t
          · subst hq
            have hz : K - cp = 0 := by have := HT.out.1; omega
            rw [if_pos rfl, hz, Nat.sub_self] at HD
            clear hz
            go_wp2_with fail
            go_roundw
            case rel => exact ⟨j + 1, m + cp, n7, G7, c7, d7, by have := HJ.out; omega, by go_num, by have := HT.out.1; have := HK.out; have := HM.out; omega, W7.out, A7.out.1, A7.out.2.1, A7.out.2.2.1, A7.out.2.2.2.1, A7.out.2.2.2.2, HDL.out _ _ _ HD.out, E7.out⟩
            case measure => have := HJ.out; simp [intOf]; omega
          · rw [if_neg hq] at HD
            go_wp2_with fail
            go_roundw
            case rel => exact ⟨j + 1, m + t, n7, G7, c7, d7, by have := HJ.out; omega, by go_num, by have := HT.out.1; have := HK.out; have := HM.out; omega, W7.out, A7.out.1, A7.out.2.1, A7.out.2.2.1, A7.out.2.2.2.1, A7.out.2.2.2.2, HDL.out _ _ _ HD.out, E7.out⟩
            case measure => have := HJ.out; simp [intOf]; omega
        · obtain rfl : j = ns.length := by omega
          have HP := Lib.hid (Append_part (l := l.drop m) (.slice ap K cp) W.out GD.out HLIT.out (by have := seal_part HN2.out HALL.out HSUM.out.1 m l.length; rwa [List.take_of_length_le (by rw [List.length_drop]; omega)] at this) HRO.out.row (by rw [List.length_drop]; have := HN2.out; omega) (by have := HCL.out; have := HN.out; omega) (by have := HST.out; have := HN.out; omega) (by have := HN'.out; have := HN.out; omega))
          clear hlt
          go_wp2_with fail
          refine HP.out.mono ?_
          rintro e w7 ⟨rfl, n7, c7, d7, hn7, ⟨G7, k1, k2, k3⟩, g7, l7, s7, z7⟩
          obtain ⟨W7, E7⟩ := W.out.of k1 k2 k3
          have W7 := Lib.hid W7
          have E7 := Lib.hid (E.out.trans E7)
          rw [List.take_append_drop] at g7
          have A7 : Hid (Good d7 c7 ⟨#[]⟩ l ∧ d7.lit = false ∧ d7.steps ≤ 300 ∧ n7 ≤ 200 ∧ c7.last ≤ 200) := by
            have h1 := HST.out
            have h2 := HN'.out
            have h3 := HCL.out
            have h4 := HN.out
            exact ⟨g7, l7, by omega, by omega, by omega⟩
          clear hn7 k1 k2 k3 g7 l7 s7 z7
          go_wp2_with fail
          refine (Open_good W7.out.wat.dr W7.out.va (fun i hi => W7.out.lo i (.inr hi)) W7.out.hb A7.out.1 (by have := A7.out.2.2.1; have := A7.out.2.2.2.1; omega)).mono ?_
          rintro e w8 ⟨v8, G8, rfl, o8, n8, f8, h8, c8, x8⟩
          have E8 : Hid (Below B w w8) := E7.out.trans (c8.below W7.out.hb (fun i hi => W7.out.lo i (.inr hi)))
          have L8 : Hid (LAt w8 lb db c7) := c8.blk W7.out.wat.log W7.out.wat.far
          have W8 := Lib.hid h8
          have R8 := Lib.hid (RowAt.of_own o8)
          obtain ⟨a8, k8, rfl⟩ := own_form o8
          obtain ⟨lb2, hlb2⟩ : ∃ lb2, lb2 = w7.heap.size := ⟨_, rfl⟩
          rw [← hlb2] at W8
          rw [← hlb2]
          have G8' : Hid (w.grownBy w8 none) := by
            have h1 := E8.out
            rw [HBE.out] at h1
            exact grow_of_below h1
          have HSM := Lib.hid (Same_any (.slice a8 l.length k8) (.slice a l.length ca) l l w8 R8.out (HR.out.kept G8'.out) HL.out HL.out)
          rw [decide_eq_true rfl] at HSM
          clear o8 n8 f8 h8 c8 x8 hlb2
          go_wp2_with fail
          refine HSM.out.mono ?_
          rintro e w9 ⟨rfl, g9⟩
          have W9 := Lib.hid (W8.out.keep g9)
          have E9 := Lib.hid (E8.out.trans (bel_none g9 W8.out.hb))
          have L9 := Lib.hid (LAt.keep L8.out g9)
          clear g9
          go_wp2_with fail
          refine (Segment_any lb2 db c7 w9 W9.out.wat.log).mono ?_
          rintro e w10 ⟨rfl, rfl⟩
          go_wp2_with fail
          refine (Segment_any lb db c7 w10 L9.out).mono ?_
          rintro e w11 ⟨rfl, rfl⟩
          have hb16 : b.size ≤ 524288 := by have := HSUM.out.2; omega
          have hc9 : c7.last < 999999999 := by have := A7.out.2.2.2.2; omega
          have HLY := Lib.hid (Lay_good b W9.out A7.out.1 A7.out.2.1 hb16 hc9 (by have := A7.out.2.2.1; have := A7.out.2.2.2.2; omega) (by have := A7.out.2.2.2.1; omega))
          have HLOK := Lib.hid (A7.out.1.lay_ok A7.out.2.1 hc9 hb16)
          have HG12 := Lib.hid (A7.out.1.lay hc9 hb16 HLOK.out)
          have HL1 := Lib.hid (layL_one HLOK.out)
          have HS12 := Lib.hid (layD_steps d7 c7 b)
          clear hb16 hc9
          go_wp2_with fail
          refine HLY.out.mono ?_
          rintro e w12 ⟨rfl, n12, hn12, ⟨G12, k1, k2, k3⟩⟩
          obtain ⟨W12, E12⟩ := W9.out.of k1 k2 k3
          have W12 := Lib.hid W12
          have E12 := Lib.hid (E9.out.trans E12)
          have N12 : Hid (n12 ≤ 300) := by show n12 ≤ 300; have := A7.out.2.2.2.1; omega
          clear hn12 k1 k2 k3
          go_wp2_with fail
          refine (Open_good W12.out.wat.dr W12.out.va (fun i hi => W12.out.lo i (.inr hi)) W12.out.hb HG12.out (by have := A7.out.2.2.1; have := A7.out.2.2.2.2; have := HS12.out; have := N12.out; omega)).mono ?_
          rintro e w13 ⟨v13, G13, rfl, o13, n13, f13, h13, c13, x13⟩
          have E13 : Hid (Below B w w13) := E12.out.trans (c13.below W12.out.hb (fun i hi => W12.out.lo i (.inr hi)))
          have W13 := Lib.hid h13
          obtain ⟨a13, k13, rfl⟩ := own_form o13
          have HNM := Lib.hid (Names_any db mb n12 G13 (layD c7 d7 b) logP w13 W13.out.wat.dr)
          have hbb : (b.toList == b.toList) = true := by simp
          clear o13 n13 f13 h13 c13 x13
          go_wp2_with fail
          refine HNM.out.mono ?_
          rintro e w14 ⟨v14, l14, rfl, hl14, hn14, o14, n14, g14⟩
          have h1 : l14.length = 1 := by
            rcases hl14 with ⟨hx, _⟩ | ⟨_, ts, hN, rfl⟩
            · rw [HG12.out.up] at hx; cases hx
            · exact one_name HG12.out (by rw [HL1.out]; show c7.last + 1 ≠ 0; omega) (by rw [HL1.out]) (Names.toF W13.out.wat.dr hN)
          rw [h1] at o14
          obtain ⟨a14, k14, rfl⟩ := own_form o14
          have E14 := Lib.hid (E13.out.trans (bel_none g14 W13.out.hb))
          rw [HBE.out] at E14
          clear hl14 hn14 o14 n14 g14 h1
          go_wp2
          go_ret
          exact ⟨rfl, E14.out⟩
end Go.Proofs.YtphljjgjpkdpmaaGreatDoor
