/- Several texts in one: WalC. -/
import Derived.Test.YtphljjgjpkdpmaaGreatDoorK16
import Derived.Test.YtphljjgjpkdpmaaGreatDoorK17
/- Several texts in one: WlU WlQ WlR WlS WlT. -/
namespace Go.Proofs.YtphljjgjpkdpmaaGreatDoor
open Go.RowKit Go.Maps Go.Sort
set_option linter.unusedVariables false
theorem goes_eq {T T' : Nat → ByteArray} {k : Nat} (h1 : T' k = T k) (h2 : goneK (T' (k + 1)) = goneK (T (k + 1))) (h3 : goneN (T' (k + 1)) = goneN (T (k + 1))) : goes T' k ↔ goes T k := by
  unfold goes; rw [h1, h2, h3]
theorem recOf_eq {T T' : Nat → ByteArray} {k : Nat} (h1 : T' k = T k) (h3 : goneN (T' (k + 1)) = goneN (T (k + 1))) : recOf T' k = recOf T k := by
  unfold recOf; rw [h1, h3]
theorem recs_eq {T T' : Nat → ByteArray} {f : Nat} : ∀ m, (∀ i, i < m → recOf T' (f + i) = recOf T (f + i)) → recsOf T' f m = recsOf T f m
  | 0, _ => by unfold recsOf; simp only [List.range_zero, List.flatMap_nil]
  | m + 1, h => by rw [recs_succ, recs_succ, recs_eq m (fun i hi => h i (by omega)), h m (by omega)]
theorem drop1_app {a l : List ByteArray} (h : a ≠ []) : (a ++ l).drop 1 = a.drop 1 ++ l := by
  cases a with
  | nil => exact absurd rfl h
  | cons x a => rfl
theorem ba_size_app (a b : ByteArray) : (a ++ b).size = a.size + b.size := ByteArray.size_append
section
variable {T T' : Nat → ByteArray} {c : Lc} {base : ByteArray} {recs l : List ByteArray}
theorem Lg.first0 (h : Lg T c base recs) (h0 : c.last ≠ 0) : c.first ≠ 0 := fun e => h0 (by rw [(h.none e).1])
theorem Lg.last0 (h : Lg T c base recs) (h0 : c.first ≠ 0) : c.last ≠ 0 := fun e => by have := h.le h0; omega
theorem Lg.op (h : Lg T c base recs) (h0 : c.first ≠ 0) {k : Nat} (h1 : c.first ≤ k) (h2 : k ≤ c.last) : opB (T k) = true := by
  by_cases he : k = c.first
  · rw [he]; exact beg_op (h.beg h0).1
  · have := (h.all h0 (k - 1) (by omega) (by omega)).1
    rw [show k - 1 + 1 = k by omega] at this
    exact gone_op this
theorem Lg.put_same (h : Lg T c base recs) (h0 : c.last ≠ 0) (ht : c.torn = false) (hl : ∀ p ∈ l, p.size ≤ 1048576) (hT : T' c.last = T c.last ++ bs (framesB l)) (hO : ∀ k, k < c.last → T' k = T k) (hN : goneK (T' (c.last + 1)) = false) :
    Lg T' ⟨c.first, c.last, c.size + (framesB l).length, false⟩ base (recs ++ l) := by
  have f0 := h.first0 h0
  have hle := h.le f0
  obtain ⟨z1, z2⟩ := h.size f0
  rw [ht] at z2
  have hz : (scanC (T c.last)).size = 0 := by simpa using z2
  have hop := h.op f0 hle.1 (Nat.le_refl _)
  obtain ⟨g1, g2⟩ := gone_add hop (bs (framesB l))
  obtain ⟨b1, b2⟩ := beg_add hop (bs (framesB l))
  rw [← hT] at g1 g2 b1 b2
  obtain ⟨s1, s2⟩ := scan_add hz hl
  rw [← hT] at s1 s2
  have hk : ∀ k, k < c.last → goneK (T' (k + 1)) = goneK (T (k + 1)) ∧ goneN (T' (k + 1)) = goneN (T (k + 1)) := by
    intro k hk
    by_cases he : k + 1 = c.last
    · rw [he]; exact ⟨g1, g2⟩
    · rw [hO (k + 1) (by omega)]; exact ⟨rfl, rfl⟩
  refine ⟨fun e => absurd e f0, fun _ => ?_, fun _ => hle, fun _ k k1 k2 => ?_, fun _ => .inr fun hg => ?_, fun _ => ⟨?_, ?_⟩, fun _ => ?_⟩
  · by_cases he : c.first = c.last
    · show begK (T' c.first) = true ∧ base = begB (T' c.first)
      rw [he, b1, b2, ← he]; exact h.beg f0
    · show begK (T' c.first) = true ∧ base = begB (T' c.first)
      rw [hO c.first (by omega)]; exact h.beg f0
  · exact (goes_eq (hO k k2) (hk k k2).1 (hk k k2).2).2 (h.all f0 k k1 k2)
  · have := hg.1
    rw [hN] at this; cases this
  · show c.size + (framesB l).length + (scanC (T' c.last)).size = (T' c.last).size
    rw [s2, hT, ba_size_app, bs_size]; omega
  · show false = decide ((scanC (T' c.last)).size ≠ 0)
    rw [s2]; rfl
  · show recs ++ l = recsOf T' c.first (c.last - c.first) ++ (scanL (T' c.last)).drop 1
    rw [s1, drop1_app (scan_ne hop), recs_eq (T := T) (c.last - c.first) (fun i hi => recOf_eq (hO _ (by omega)) (hk _ (by omega)).2), h.recs f0, List.append_assoc]
theorem Lg.put_next (h : Lg T c base recs) (f0 : c.first ≠ 0) (h9 : c.last < 999999999) (hz9 : c.size ≤ 1000000000) (hl : ∀ p ∈ l, p.size ≤ 1048576) (hT : T' (c.last + 1) = goX c.size ++ bs (framesB l)) (hO : ∀ k, k ≤ c.last → T' k = T k) (hN : goneK (T' (c.last + 1 + 1)) = false) :
    Lg T' ⟨c.first, c.last + 1, (T' (c.last + 1)).size, false⟩ base (recs ++ l) := by
  have hle := h.le f0
  obtain ⟨z1, z2⟩ := h.size f0
  obtain ⟨k1, k2, k3, k4, k5, k6⟩ := head_gone (c.size : Int) (by omega)
  have hop := h.op f0 hle.1 (Nat.le_refl _)
  obtain ⟨g1, g2⟩ := gone_add k1 (bs (framesB l))
  rw [← hT] at g1 g2
  obtain ⟨s1, s2⟩ := scan_add k6 hl
  rw [← hT] at s1 s2
  obtain ⟨c1, c2⟩ := scan_front (T c.last)
  have hex : (T c.last).extract 0 ((c.size : Int)).toNat = (T c.last).extract 0 ((T c.last).size - (scanC (T c.last)).size) := by
    congr 1; omega
  have hgo : goes T' c.last := by
    refine ⟨by rw [g1, k2], ?_⟩
    rw [g2, k3, hO _ (Nat.le_refl _)]
    refine ⟨by omega, by omega, ?_, ?_⟩
    · rw [hex, c1]; exact scan_ne hop
    · rw [hex]; exact c2
  have hrec : recOf T' c.last = (scanL (T c.last)).drop 1 := by
    unfold recOf cutL
    rw [g2, k3, hO _ (Nat.le_refl _), hex, c1]
  refine ⟨fun e => absurd e f0, fun _ => ?_, fun _ => ⟨by show c.first ≤ c.last + 1; omega, h9⟩, fun _ k q1 q2 => ?_, fun _ => .inr fun hg => ?_, fun _ => ⟨?_, ?_⟩, fun _ => ?_⟩
  · show begK (T' c.first) = true ∧ base = begB (T' c.first)
    rw [hO c.first hle.1]; exact h.beg f0
  · have q2' : k < c.last + 1 := q2
    by_cases he : k = c.last
    · rw [he]; exact hgo
    · refine (goes_eq (hO k (by omega)) ?_ ?_).2 (h.all f0 k q1 (by omega))
      · rw [hO (k + 1) (by omega)]
      · rw [hO (k + 1) (by omega)]
  · have := hg.1
    rw [hN] at this; cases this
  · show (T' (c.last + 1)).size + (scanC (T' (c.last + 1))).size = (T' (c.last + 1)).size
    rw [s2]; rfl
  · show false = decide ((scanC (T' (c.last + 1))).size ≠ 0)
    rw [s2]; rfl
  · show recs ++ l = recsOf T' c.first (c.last + 1 - c.first) ++ (scanL (T' (c.last + 1))).drop 1
    rw [s1, k5, show c.last + 1 - c.first = c.last - c.first + 1 by omega, recs_succ, recs_eq (T := T) (c.last - c.first) (fun i hi => recOf_eq (hO _ (by omega)) (by rw [hO _ (by omega)])), show c.first + (c.last - c.first) = c.last by omega, hrec, h.recs f0]
    rfl
/-- A log that begins anew. -/
theorem Lg.new {k : Nat} {s : ByteArray} (hk : 1 ≤ k) (hk2 : k ≤ 999999999) (hs : s.size ≤ 1000000) (hl : ∀ p ∈ l, p.size ≤ 1048576) (hT : T' k = layX s ++ bs (framesB l)) (hN : goneK (T' (k + 1)) = false) :
    Lg T' ⟨k, k, (T' k).size, false⟩ s l := by
  obtain ⟨k1, k2, k3, k4, k5, k6⟩ := head_beg s hs
  obtain ⟨g1, g2⟩ := beg_add k1 (bs (framesB l))
  rw [← hT] at g1 g2
  obtain ⟨s1, s2⟩ := scan_add k6 hl
  rw [← hT] at s1 s2
  have f0 : k ≠ 0 := by omega
  refine ⟨fun e => absurd e f0, fun _ => ⟨by rw [g1, k2], by rw [g2, k3]⟩, fun _ => ⟨Nat.le_refl _, hk2⟩, fun _ i q1 q2 => ?_, fun _ => .inr fun hg => ?_, fun _ => ⟨?_, ?_⟩, fun _ => ?_⟩
  · have q1' : k ≤ i := q1
    have q2' : i < k := q2
    omega
  · have := hg.1
    rw [hN] at this; cases this
  · show (T' k).size + (scanC (T' k)).size = (T' k).size
    rw [s2]; rfl
  · show false = decide ((scanC (T' k)).size ≠ 0)
    rw [s2]; rfl
  · show l = recsOf T' k (k - k) ++ (scanL (T' k)).drop 1
    rw [Nat.sub_self, s1, k5]
    rfl
/-- The log is what it was, where its segments hold what they held. -/
theorem Lg.keep (h : Lg T c base recs) (hO : c.first ≠ 0 → ∀ k, c.first ≤ k → k ≤ c.last → T' k = T k) (hN : c.first ≠ 0 → c.last = 999999999 ∨ T' (c.last + 1) = T (c.last + 1) ∨ goneK (T' (c.last + 1)) = false) : Lg T' c base recs := by
  refine ⟨h.none, fun f0 => ?_, h.le, fun f0 k q1 q2 => ?_, fun f0 => ?_, fun f0 => ?_, fun f0 => ?_⟩
  · rw [hO f0 _ (Nat.le_refl _) (h.le f0).1]; exact h.beg f0
  · exact (goes_eq (hO f0 k q1 (by omega)) (by rw [hO f0 (k + 1) (by omega) (by omega)]) (by rw [hO f0 (k + 1) (by omega) (by omega)])).2 (h.all f0 k q1 q2)
  · rcases hN f0 with y | y | y
    · exact .inl y
    · rcases h.stop f0 with z | z
      · exact .inl z
      · exact .inr fun hg => z ((goes_eq (hO f0 _ (h.le f0).1 (Nat.le_refl _)) (by rw [y]) (by rw [y])).1 hg)
    · exact .inr fun hg => by
        have := hg.1
        rw [y] at this; cases this
  · rw [hO f0 _ (h.le f0).1 (Nat.le_refl _)]; exact h.size f0
  · have hle := h.le f0
    rw [hO f0 _ hle.1 (Nat.le_refl _), recs_eq (T := T) (c.last - c.first) (fun i hi => recOf_eq (hO f0 _ (by omega) (by omega)) (by rw [hO f0 _ (by omega) (by omega)]))]; exact h.recs f0
end
theorem RowN.of_new {S : Nat → Prop} {w0 w : World} {e : TypeId} {v : Value} {n : Nat} {xs : List Value} (h : w.ownsRow 0 e 1 v n xs) (hn : NewBlk w0 v) (hS : ∀ i, S i → i < w0.heap.size) : RowN S w v xs := by
  have hl : xs.length = n := by have := h.1; omega
  rcases h.2 with ⟨rfl, rfl⟩ | ⟨g, cap, cur, rfl, hb, hh, h1, h2, h3, h4⟩
  · have : xs = [] := List.eq_nil_of_length_eq_zero hl
    subst this
    exact ⟨none, 0, rfl, Nat.zero_le _, .inl rfl⟩
  · subst hl
    refine ⟨_, cap, rfl, h1, .inr ⟨g, 0, rfl, (Array.getElem?_eq_some_iff.1 hh).1, fun hs => ?_, fun j hj => ?_⟩⟩
    · have := hn g rfl
      have := hS g hs
      omega
    have := h.cells (g := g) rfl j (xs.getD j undef) (by simp [List.getD, List.getElem?_eq_getElem hj])
    have hadd : (⟨g, 0, none⟩ : Addr).add j = ⟨g, j, none⟩ := by unfold Addr.add; split <;> simp_all
    rw [hadd] at this
    rw [Nat.zero_add]
    exact this
theorem RowN.form {S : Nat → Prop} {w : World} {v : Value} {xs : List Value} (h : RowN S w v xs) : ∃ a c, v = .slice a xs.length c ∧ xs.length ≤ c := by
  obtain ⟨a, c, e, hc, _⟩ := h
  exact ⟨a, c, e, hc⟩
/-- What a cell of such a row reads as. -/
theorem RowN.at {S : Nat → Prop} {w : World} {a : Option Addr} {n cap : Nat} {l : List (List UInt8)} (h : RowN S w (.slice a n cap) (l.map encStr)) {k : Nat} (hk : k < l.length) :
    ∃ b off, a = some ⟨b, off, none⟩ ∧ b < w.heap.size ∧ ¬ S b ∧ w.cell? ⟨b, off + k, none⟩ = some (.string (nm l[k])) := by
  obtain ⟨a', cap', e, hc, h⟩ := h
  injection e with e1 e2 e3
  subst e1
  rcases h with h | ⟨b, off, rfl, hb, hn, h⟩
  · have : l.length = 0 := by have := congrArg List.length h; simpa using this
    omega
  · refine ⟨b, off, rfl, hb, hn, ?_⟩
    rw [h k (by simpa using hk)]
    simp [List.getD, List.getElem?_eq_getElem hk]
def logP : ByteArray := ⟨#[108, 111, 103, 46]⟩
noncomputable def keepB (c : Lc) (s : ByteArray) : Bool := decide (0 < numW s ∧ c.first ≤ numW s ∧ numW s ≤ c.last)
/-- The files that are none of the log's. -/
noncomputable def tidyL (c : Lc) (l : List (List UInt8)) : List ByteArray := (l.map nm).filter fun s => !keepB c s
theorem tidyL_snoc (c : Lc) (l : List (List UInt8)) {k : Nat} (hk : k < l.length) : tidyL c (l.take (k + 1)) = tidyL c (l.take k) ++ (if keepB c (nm l[k]) then [] else [nm l[k]]) := by
  unfold tidyL
  rw [List.take_succ_eq_append_getElem hk, List.map_append, List.filter_append]
  congr 1
  cases h : keepB c (nm l[k]) <;> simp [h]
theorem tidyL_le (c : Lc) (l : List (List UInt8)) : (tidyL c l).length ≤ l.length := by
  unfold tidyL
  have := List.length_filter_le (fun s => !keepB c s) (l.map nm)
  rwa [List.length_map] at this
def TidyE (lb db mb n : Nat) (G : ByteArray → Option Nat) (c : Lc) (d : Dk) (w : World) (e : Ending) (w' : World) : Prop :=
  ∃ ts, NamesF d.F ts ∧ e = .returned (.int .i64 (rems d (tidyL c (namesP ts logP))).1) ∧ WEnd lb db mb G n c (rems d (tidyL c (namesP ts logP))).2 w w'
set_option maxRecDepth 100000 in
set_option maxHeartbeats 1000000 in
theorem tidy_any (lb db mb n : Nat) (G : ByteArray → Option Nat) (c : Lc) (d : Dk) (w : World) (h : WAt w lb db mb n G c d) (B : Nat) (hv : Va B w) (hlo : Lo B lb db mb G) (hB : B ≤ w.heap.size) (hd : d.down = false) (hst : d.steps + n < 1000000) (hsz : ∀ s e, d.F s = some e → s.size ≤ 1000) :
    Calls Tryz.prog 40 #[.pointer (some ⟨lb, 0, none⟩)] w (TidyE lb db mb n G c d w) := by
  have HN := Lib.hid (Names_any db mb n G d logP w h.dr)
  have c4 := h.log.c4
  have H := Lib.hid h
  have HV := Lib.hid hv
  have HLO := Lib.hid hlo
  have HBB := Lib.hid hB
  have HST := Lib.hid hst
  have HSZ := Lib.hid hsz
  have HD := Lib.hid hd
  clear h hv hlo hB hd hst hsz
  unfold TidyE
  go_enter Tryz.func40, Tryz.ntmps40
  go_wp2_with fail
  refine HN.out.mono ?_
  rintro e w1 ⟨v, l, rfl, hl, hln, hown, hnew, g1⟩
  obtain ⟨ts, hN, rfl⟩ : ∃ ts, Names G ts ∧ l = namesP ts logP := by
    rcases hl with ⟨hx, _⟩ | ⟨_, ts, h1, h2⟩
    · rw [HD.out] at hx; cases hx
    · exact ⟨ts, h1, h2⟩
  have HNF := Lib.hid (Names.toF H.out.dr hN)
  obtain ⟨l, hl⟩ : ∃ l, l = namesP ts logP := ⟨_, rfl⟩
  have hmem : ∀ x ∈ l, (nm x).size ≤ 1000 := by
    intro x hx
    rw [hl] at hx
    have hx2 := (List.mem_filter.1 hx).1
    have := (HNF.out.mem x).1 hx2
    cases he : d.F (nm x) with
    | none => rw [he] at this; cases this
    | some e => exact HSZ.out _ e he
  rw [← hl] at hown hln
  have HL := Lib.hid hl
  have HMEM := Lib.hid hmem
  have hrow := RowN.of_new (S := fun i => i = lb ∨ DS db mb G i) hown hnew (fun i hi => by
    rcases hi with rfl | hi
    · exact H.out.lt
    · exact H.out.dr.live i hi)
  obtain ⟨al, cl, rfl, hcl⟩ := hrow.form
  rw [List.length_map] at hrow ⊢
  have HROW := Lib.hid hrow
  have HLN := Lib.hid hln
  have G1 := Lib.hid g1
  have hlen : (l.length : Int) ≤ 1000000 := by have := H.out.dr.n1; omega
  clear hN hl hmem hown hnew hrow g1 hln hcl
  go_wp2
  go_loopw [13] (fun i wr => ∃ k : Nat, k ≤ l.length ∧ i = .int .i64 k ∧ (rems d (tidyL c (l.take k))).1 = 0 ∧ WEnd lb db mb G n c (rems d (tidyL c (l.take k))).2 w1 wr) (fun i _ => l.length - (intOf i).toNat)
  case atStart => exact ⟨0, Nat.zero_le _, rfl, rfl, WEnd.same (H.out.keep G1.out) (grow_refl _ _)⟩
  case round =>
    obtain ⟨k, hk, rfl, hok, hE⟩ := hrel
    have V := Lib.hid ((HV.out.keep G1.out).over HLO.out (Nat.le_trans HBB.out G1.out.size) hE)
    obtain ⟨G2, h2, k2, f2⟩ := hE
    have H2 := Lib.hid h2
    have K2 := Lib.hid k2
    have F2 := Lib.hid f2
    have OK := Lib.hid hok
    have hrow2 := HROW.out.chg k2
    have c42 := h2.log.c4
    have c02 := h2.log.c0
    have c12 := h2.log.c1
    clear hok h2 k2 f2
    by_cases hlt : k < l.length
    · obtain ⟨bl, ol, rfl, hbl, hnl, hcell⟩ := hrow2.at hlt
      obtain ⟨s, hs⟩ : ∃ s, s = nm l[k] := ⟨_, rfl⟩
      have hss : s.size ≤ 1000 := by rw [hs]; exact HMEM.out _ (List.getElem_mem hlt)
      have HNUM := Lib.hid (numberOf_any s wr (by omega) V.out.nv)
      have HSN := Lib.hid (tidyL_snoc c l hlt)
      rw [← hs] at hcell HSN
      have hstep : (rems d (tidyL c (l.take k))).2.steps + 1 < 1000000 := by
        have h1 := rems_steps d (tidyL c (l.take k)) (0, d)
        have h2 := tidyL_le c (l.take k)
        rw [List.length_take] at h2
        have h3 := HLN.out
        have h4 := HST.out
        unfold rems
        simp only at h1
        omega
      have HR := Lib.hid fun (w3 : World) (g : wr.grownBy w3 none) => Remove_w lb db mb n G2 c (rems d (tidyL c (l.take k))).2 s w3 (H2.out.keep g) (by omega) (by omega)
      have HK := Lib.hid hlt
      have i1 : (k : Int) < l.length := by omega
      have i0' : (0 : Int) ≤ k := by omega
      obtain ⟨N, hNN⟩ : ∃ N, N = numW s := ⟨_, rfl⟩
      have HKB : Hid (keepB c s = decide (0 < N ∧ c.first ≤ N ∧ N ≤ c.last)) := by show _ = _; rw [hNN]; rfl
      rw [← hNN] at HNUM
      clear hs hss hstep hk hrow2 hNN hlt
      go_wp2_with fail
      refine HNUM.out.mono ?_
      rintro e w3 ⟨rfl, g3⟩
      have H3 := Lib.hid (H2.out.keep g3)
      have c43 := H3.out.log.c4
      have c03 := H3.out.log.c0
      have c13 := H3.out.log.c1
      have G3 := Lib.hid g3
      clear c42 c02 c12 hcell
      by_cases hkeep : 0 < N ∧ c.first ≤ N ∧ N ≤ c.last
      · have HS2 : Hid (tidyL c (l.take (k + 1)) = tidyL c (l.take k)) := by show _ = _; rw [HSN.out, HKB.out, decide_eq_true hkeep]; simp
        have t1 : (0 : Int) < N := by omega
        have t2 : (c.first : Int) ≤ N := by omega
        have t3 : (N : Int) ≤ c.last := by omega
        clear hkeep
        go_wp2_with fail
        go_roundw
        case rel => exact ⟨k + 1, by have := HK.out; omega, by go_num, by rw [HS2.out]; exact OK.out, by rw [HS2.out]; exact WEnd.after K2.out F2.out (WEnd.same H2.out G3.out)⟩
        case measure => have := HK.out; simp [intOf]; omega
      · have HS2 : Hid (tidyL c (l.take (k + 1)) = tidyL c (l.take k) ++ [s]) := by show _ = _; rw [HSN.out, HKB.out, decide_eq_false hkeep]; simp
        have HRS : Hid (rems d (tidyL c (l.take (k + 1))) = (stepOfC (rems d (tidyL c (l.take k))).2 s, removeD (rems d (tidyL c (l.take k))).2 s)) := by
          show _ = _
          rw [HS2.out, rems_snoc]
          unfold remS
          rw [if_neg (fun h => h OK.out)]
        have hb : ¬ ((0 : Int) < N ∧ (c.first : Int) ≤ N ∧ (N : Int) ≤ c.last) := fun h => hkeep (by omega)
        clear hkeep
        by_cases hr : stepOfC (rems d (tidyL c (l.take k))).2 s = 0
        · have HRZ := Lib.hid hr
          rw [hr] at HR
          by_cases t1 : (0 : Int) < N
          · by_cases t2 : (c.first : Int) ≤ N
            · have t3 : ¬ (N : Int) ≤ c.last := fun h => hb ⟨t1, t2, h⟩
              clear hb hr
              go_wp2_with fail
              refine (HR.out w3 G3.out).mono ?_
              rintro e w4 ⟨rfl, hE4⟩
              have E4 := Lib.hid hE4
              clear hE4
              go_wp2_with fail
              go_roundw
              case rel => exact ⟨k + 1, by have := HK.out; omega, by go_num, by rw [HRS.out]; exact HRZ.out, by rw [HRS.out]; exact WEnd.after K2.out F2.out (WEnd.front H2.out G3.out E4.out)⟩
              case measure => have := HK.out; simp [intOf]; omega
            · clear hb hr
              go_wp2_with fail
              refine (HR.out w3 G3.out).mono ?_
              rintro e w4 ⟨rfl, hE4⟩
              have E4 := Lib.hid hE4
              clear hE4
              go_wp2_with fail
              go_roundw
              case rel => exact ⟨k + 1, by have := HK.out; omega, by go_num, by rw [HRS.out]; exact HRZ.out, by rw [HRS.out]; exact WEnd.after K2.out F2.out (WEnd.front H2.out G3.out E4.out)⟩
              case measure => have := HK.out; simp [intOf]; omega
          · clear hb hr
            go_wp2_with fail
            refine (HR.out w3 G3.out).mono ?_
            rintro e w4 ⟨rfl, hE4⟩
            have E4 := Lib.hid hE4
            clear hE4
            go_wp2_with fail
            go_roundw
            case rel => exact ⟨k + 1, by have := HK.out; omega, by go_num, by rw [HRS.out]; exact HRZ.out, by rw [HRS.out]; exact WEnd.after K2.out F2.out (WEnd.front H2.out G3.out E4.out)⟩
            case measure => have := HK.out; simp [intOf]; omega
        · have hrb : (stepOfC (rems d (tidyL c (l.take k))).2 s == 0) = false := by simpa using hr
          have HTAKE : Hid (rems d (tidyL c l) = rems d (tidyL c (l.take (k + 1)))) := by
            show _ = _
            have e : tidyL c l = tidyL c (l.take (k + 1)) ++ tidyL c (l.drop (k + 1)) := by
              unfold tidyL
              rw [← List.filter_append, ← List.map_append, List.take_append_drop]
            conv => lhs; rw [e]
            exact rems_stop (by rw [HRS.out]; exact hr)
          obtain ⟨SC, hSC⟩ : ∃ SC, SC = stepOfC (rems d (tidyL c (l.take k))).2 s := ⟨_, rfl⟩
          have HSC := Lib.hid hSC
          rw [← hSC] at HR hrb hr
          clear hSC
          by_cases t1 : (0 : Int) < N
          · by_cases t2 : (c.first : Int) ≤ N
            · have t3 : ¬ (N : Int) ≤ c.last := fun h => hb ⟨t1, t2, h⟩
              clear hb
              go_wp2_with fail
              refine (HR.out w3 G3.out).mono ?_
              rintro e w4 ⟨rfl, hE4⟩
              have E4 := Lib.hid hE4
              clear hE4
              go_wp2_with fail
              go_ret
              refine ⟨ts, HNF.out, ?_, ?_⟩
              · rw [← HL.out, HTAKE.out, HRS.out, ← HSC.out]; rfl
              · rw [← HL.out, HTAKE.out, HRS.out]; exact WEnd.front H.out G1.out (WEnd.after K2.out F2.out (WEnd.front H2.out G3.out E4.out))
            · clear hb
              go_wp2_with fail
              refine (HR.out w3 G3.out).mono ?_
              rintro e w4 ⟨rfl, hE4⟩
              have E4 := Lib.hid hE4
              clear hE4
              go_wp2_with fail
              go_ret
              refine ⟨ts, HNF.out, ?_, ?_⟩
              · rw [← HL.out, HTAKE.out, HRS.out, ← HSC.out]; rfl
              · rw [← HL.out, HTAKE.out, HRS.out]; exact WEnd.front H.out G1.out (WEnd.after K2.out F2.out (WEnd.front H2.out G3.out E4.out))
          · clear hb
            go_wp2_with fail
            refine (HR.out w3 G3.out).mono ?_
            rintro e w4 ⟨rfl, hE4⟩
            have E4 := Lib.hid hE4
            clear hE4
            go_wp2_with fail
            go_ret
            refine ⟨ts, HNF.out, ?_, ?_⟩
            · rw [← HL.out, HTAKE.out, HRS.out, ← HSC.out]; rfl
            · rw [← HL.out, HTAKE.out, HRS.out]; exact WEnd.front H.out G1.out (WEnd.after K2.out F2.out (WEnd.front H2.out G3.out E4.out))
    · obtain rfl : k = l.length := by omega
      have HE := Lib.hid (WEnd.after (lb := lb) (db := db) (mb := mb) K2.out F2.out (WEnd.same H2.out (grow_refl _ none)))
      rw [List.take_length] at OK HE
      clear hk hlt hrow2
      go_wp2_with fail
      go_ret
      refine ⟨ts, HNF.out, ?_, ?_⟩
      · rw [← HL.out, OK.out]; rfl
      · rw [← HL.out]; exact WEnd.front H.out G1.out HE.out
theorem WAt.own {w w' : World} {lb db mb n : Nat} {G : ByteArray → Option Nat} {c c' : Lc} {d : Dk} (h : WAt w lb db mb n G c d) (k : LAt w' lb db c') (g : w.grownBy w' (some lb)) : WAt w' lb db mb n G c' d :=
  ⟨k, h.dr.chg (Chg.of_row (S := fun i => i = lb) g (fun i hi _ => by injection hi with hi; exact hi.symm)) (fun i hi e => h.far (e ▸ hi)), h.far⟩
theorem Va.own {B lb : Nat} {w w' : World} (h : Va B w) (g : w.grownBy w' (some lb)) (hl : B ≤ lb) (hB : B ≤ w.heap.size) : Va B w' :=
  h.below ((Chg.of_row (S := fun i => i = lb) g (fun i hi _ => by injection hi with hi; exact hi.symm)).below hB (fun i hi => by omega))
theorem DAt.text {w : World} {b mb n : Nat} {G : ByteArray → Option Nat} {d : Dk} (h : DAt w b mb n G d) (s : ByteArray) : (readR d s).1.size ≤ 1048576 := by
  unfold readR
  split
  · exact Nat.zero_le _
  · cases hg : G s with
    | none => rw [h.non s hg]; exact Nat.zero_le _
    | some g =>
      obtain ⟨e, he, _, hz⟩ := h.ent s g hg
      rw [he]
      show (e.l ++ e.w).size ≤ _
      rw [ByteArray.size_append]; exact hz
/-- The base and the text of the segment that begins. -/
def baseOf (d : Dk) (a : Nat) : ByteArray := if a = 0 then ⟨#[]⟩ else begB (segT d a)
def textOf (d : Dk) (a : Nat) : ByteArray := if a = 0 then ⟨#[]⟩ else segT d a
/-- Behind a search of the names: the first segment. -/
def FirstAt (lb db : Nat) (d : Dk) (l : List (List UInt8)) (w : World) (b t : Value) (wr : World) : Prop :=
  b = .string (baseOf d (begN d (l.map nm))) ∧ t = .string (textOf d (begN d (l.map nm))) ∧ LAt wr lb db ⟨begN d (l.map nm), 0, 0, false⟩ ∧ w.grownBy wr (some lb)
theorem begS_yes {d : Dk} {a : Nat} {s : ByteArray} (h1 : begK (readR d s).1 = true) (h2 : a < numW s) : begS d a s = numW s := by unfold begS; rw [if_pos ⟨h1, h2⟩]
theorem begS_no {d : Dk} {a : Nat} {s : ByteArray} (h : ¬ (begK (readR d s).1 = true ∧ a < numW s)) : begS d a s = a := by unfold begS; rw [if_neg h]
theorem take_nm {l : List (List UInt8)} {k : Nat} (hk : k < l.length) : (l.take (k + 1)).map nm = (l.take k).map nm ++ [nm l[k]] := by
  rw [List.take_succ_eq_append_getElem hk, List.map_append]; rfl
theorem firstOf_new {d : Dk} {s : ByteArray} {N : Nat} (hN : N = numW s) (h0 : 0 < N) : textOf d N = (readR d s).1 ∧ baseOf d N = begB (readR d s).1 := by
  obtain ⟨e, _, _⟩ := numW_of hN.symm (by omega)
  have hn : N ≠ 0 := by omega
  unfold textOf baseOf segT
  rw [if_neg hn, if_neg hn, ← e]; exact ⟨rfl, rfl⟩
theorem LAt.keep {w w' : World} {b db : Nat} {c : Lc} (h : LAt w b db c) (g : w.grownBy w' none) : LAt w' b db c := Blk.keep h g
theorem newblk_ne {w : World} {v : Value} {lb : Nat} (h : NewBlk w v) (hl : lb < w.heap.size) : v.ownBlock ≠ some lb := fun e => by
  have := h lb e
  omega
/-- No row of texts lies in a log's block. -/
theorem row_log {w : World} {lb db : Nat} {c : Lc} {v : Value} {l : List ByteArray} (h : RowAt w v (l.map Value.string)) (hL : LAt w lb db c) (i : Nat) (u : Value) : RowAt (w.setCell ⟨lb, i, none⟩ u) v (l.map Value.string) := by
  obtain ⟨a, cap, rfl, h⟩ := h
  refine ⟨a, cap, rfl, ?_⟩
  rcases h with h | ⟨b, off, rfl, hb, hc⟩
  · exact .inl h
  · by_cases hl : l = []
    · exact .inl (by rw [hl]; rfl)
    right
    have h0 := hc 0 (by rw [List.length_map]; exact List.length_pos_iff.2 hl)
    have hne : b ≠ lb := by
      rintro rfl
      obtain ⟨x, m, rfl⟩ := List.exists_cons_of_ne_nil hl
      by_cases ho : off < 5
      · have h5 : off = 0 ∨ off = 1 ∨ off = 2 ∨ off = 3 ∨ off = 4 := by omega
        have k0 := hL.c0
        have k1 := hL.c1
        have k2 := hL.c2
        have k3 := hL.c3
        have k4 := hL.c4
        rcases h5 with rfl | rfl | rfl | rfl | rfl
        · rw [Nat.add_zero, k0] at h0; cases h0
        · rw [Nat.add_zero, k1] at h0; cases h0
        · rw [Nat.add_zero, k2] at h0; cases h0
        · rw [Nat.add_zero, k3] at h0; cases h0
        · rw [Nat.add_zero, k4] at h0; cases h0
      · have hx : w.cell? ⟨b, off + 0, none⟩ = none := by
          rw [cell_of_row w b (off + 0) _ _ (0, 0) hL]
          rw [Array.getElem?_eq_none]
          show 5 ≤ off + 0
          omega
        rw [hx] at h0; cases h0
    refine ⟨b, off, rfl, by simpa using hb, fun j hj => ?_⟩
    rw [← hc j hj]
    exact World.cell?_of_block (Below.heap_setCell w _ u b hne)
theorem scan_len (s : ByteArray) : 5 * (scanL s).length + (scanC s).size ≤ s.size := by
  have := scan_spec s
  generalize scanL s = l at *
  generalize scanC s = c at *
  induction this with
  | stop => simp
  | go s l c h _ ih => have := open_less h; rw [List.length_cons]; omega
theorem sub_len {α : Type} [DecidableEq α] : ∀ {a b : List α}, a.Nodup → (∀ x ∈ a, x ∈ b) → a.length ≤ b.length
  | [], b, _, _ => Nat.zero_le _
  | x :: a, b, hn, h => by
    have hx := h x (List.mem_cons_self ..)
    obtain ⟨h1, h2⟩ := List.nodup_cons.1 hn
    have := sub_len (a := a) (b := b.erase x) h2 (fun y hy => (List.mem_erase_of_ne (fun e => h1 (by rw [← e]; exact hy))).2 (h y (List.mem_cons_of_mem _ hy)))
    rw [List.length_erase_of_mem hx] at this
    have := List.length_pos_of_mem hx
    rw [List.length_cons]; omega
theorem name_pre (i : Nat) : Lib.hasPrefix (nameW i).data.toList logP.data.toList = true := by
  have e : (nameW i).data.toList = logB ++ Lib.decDigits i := by unfold nameW; simp
  rw [e]
  have e2 : logP.data.toList = logB := rfl
  rw [e2]
  unfold Lib.hasPrefix
  simp
theorem name_self (i : Nat) : nm (nameW i).data.toList = nameW i := bs_self _
/-- No more segments than files. -/
theorem segs_count {d : Dk} {ts : List (List UInt8)} {f k : Nat} (hd : d.down = false) (hN : NamesF d.F ts) (hf : 1 ≤ f) (h : ∀ i, f ≤ i → i < k → (segT d i).size ≠ 0) : k - f ≤ (namesP ts logP).length := by
  have hn : ((List.range' f (k - f)).map fun i => (nameW i).data.toList).Nodup := by
    rw [List.nodup_iff_pairwise_ne, List.pairwise_map]
    refine List.Pairwise.imp ?_ (List.nodup_iff_pairwise_ne.1 (List.nodup_range' (step := 1)))
    intro a b hab e
    apply hab
    apply nameW_inj
    rw [← name_self a, e, name_self]
  have := sub_len (b := namesP ts logP) hn (fun x hx => by
    obtain ⟨i, hi, rfl⟩ := List.mem_map.1 hx
    rw [List.mem_range'_1] at hi
    unfold namesP
    rw [List.mem_filter]
    refine ⟨(hN.mem _).2 ?_, name_pre i⟩
    rw [name_self]
    cases he : d.F (nameW i) with
    | some e => rfl
    | none =>
      exfalso
      apply h i hi.1 (by omega)
      unfold segT readR
      rw [hd, he]; rfl)
  rwa [List.length_map, List.length_range'] at this
theorem cut_ne {t : ByteArray} {n : Int} (h : cutOk t n) : t.size ≠ 0 := fun e => by
  obtain ⟨h1, h2, h3, _⟩ := h
  have := scan_len (t.extract 0 n.toNat)
  rw [ByteArray.size_extract] at this
  have := List.length_pos_iff.2 h3
  omega
theorem recs_zero (T : Nat → ByteArray) (f : Nat) : recsOf T f 0 = [] := by unfold recsOf; simp only [List.range_zero, List.flatMap_nil]
theorem recOf_len (T : Nat → ByteArray) (k : Nat) (h : (T k).size ≤ 1048576) : (recOf T k).length ≤ 1048576 := by
  unfold recOf cutL
  rw [List.length_drop]
  have := scan_len ((T k).extract 0 (goneN (T (k + 1))).toNat)
  rw [ByteArray.size_extract] at this
  omega
theorem grow_own_new {w w1 w2 : World} {v : Value} {lb : Nat} (g : w.grownBy w1 (some lb)) (h : NewBlk w v) (k : w1.grownBy w2 v.ownBlock) : w.grownBy w2 (some lb) :=
  ⟨k.os.trans g.os, k.tape.trans g.tape, k.output.trans g.output, Nat.le_trans g.size k.size, fun i hi hr => (k.block i (Nat.lt_of_lt_of_le hi g.size) (fun e => by have := h i e.symm; omega)).trans (g.block i hi hr)⟩
theorem Lg.zero (T : Nat → ByteArray) : Lg T ⟨0, 0, 0, false⟩ ⟨#[]⟩ [] := ⟨fun _ => ⟨rfl, rfl, rfl⟩, fun h => absurd rfl h, fun h => absurd rfl h, fun h => absurd rfl h, fun h => absurd rfl h, fun h => absurd rfl h, fun h => absurd rfl h⟩
theorem Lg.made {T : Nat → ByteArray} {f k z : Nat} {tn : Bool} (hb : begK (T f) = true) (hf : 1 ≤ f ∧ f ≤ 999999999) (h1 : f ≤ k) (h2 : k ≤ 999999999) (hall : ∀ i, f ≤ i → i < k → goes T i) (hs : k = 999999999 ∨ ¬ goes T k) (hz : z + (scanC (T k)).size = (T k).size) (ht : tn = decide ((scanC (T k)).size ≠ 0)) :
    Lg T ⟨f, k, z, tn⟩ (begB (T f)) (recsOf T f (k - f) ++ (scanL (T k)).drop 1) :=
  ⟨fun e => by have e' : f = 0 := e; omega, fun _ => ⟨hb, rfl⟩, fun _ => ⟨h1, h2⟩, fun _ i q1 q2 => hall i q1 q2, fun _ => hs, fun _ => ⟨hz, ht⟩, fun _ => rfl⟩
/-- Where the search goes on. -/
def GoAt (lb db f : Nat) (T : Nat → ByteArray) (w : World) (k : Nat) (v t : Value) (wr : World) : Prop :=
  f ≤ k ∧ k ≤ 999999999 ∧ t = .string (T k) ∧ (∀ i, f ≤ i → i < k → goes T i) ∧ LAt wr lb db ⟨f, k, 0, false⟩ ∧ w.grownBy wr (some lb) ∧ wr.ownsRow 0 9 1 v (recsOf T f (k - f)).length ((recsOf T f (k - f)).map Value.string) ∧ NewBlk w v ∧ (recsOf T f (k - f)).length ≤ (k - f) * 1048576
def lastOf (lb : Nat) (w : World) : Nat := match w.cell? ⟨lb, 1, none⟩ with
  | some v => (intOf v).toNat
  | none => 0
def FindE (lb db : Nat) (d : Dk) (w : World) (e : Ending) (w' : World) : Prop :=
  ∃ ts c base recs v, NamesF d.F ts ∧ c.first = begN d ((namesP ts logP).map nm) ∧ Lg (segT d) c base recs ∧ e = .returned (.tuple #[.string base, v]) ∧ w'.ownsRow 0 9 1 v recs.length (recs.map Value.string) ∧ NewBlk w v ∧ LAt w' lb db c ∧ w.grownBy w' (some lb)
set_option maxRecDepth 100000 in
set_option maxHeartbeats 40000000 in
theorem find_any (lb db mb n : Nat) (G : ByteArray → Option Nat) (d : Dk) (w : World) (h : WAt w lb db mb n G ⟨0, 0, 0, false⟩ d) (B : Nat) (hv : Va B w) (hlo : Lo B lb db mb G) (hB : B ≤ w.heap.size) (hd : d.down = false) (hsz : ∀ s e, d.F s = some e → s.size ≤ 1000) :
    Calls Tryz.prog 39 #[.pointer (some ⟨lb, 0, none⟩)] w (FindE lb db d w) := by
  obtain ⟨i0, hi, hz0, hz1, hz2⟩ := info_parts Tryz.info04_string
  have HN := Lib.hid (Names_any db mb n G d logP w h.dr)
  have HTS := Lib.hid fun k => DAt.text h.dr (nameW k)
  have HTR := Lib.hid fun s => DAt.text h.dr s
  have c4 := h.log.c4
  have H := Lib.hid h
  have HV := Lib.hid hv
  have HLO : Hid (B ≤ lb) := hlo lb (.inl rfl)
  have HBB := Lib.hid hB
  have HSZ := Lib.hid hsz
  have HD := Lib.hid hd
  have HLB : Hid (lb < w.heap.size) := h.lt
  clear h hv hlo hB hd hsz
  go_enter Tryz.func39, Tryz.ntmps39
  go_wp2_with fail
  refine HN.out.mono ?_
  rintro e w1 ⟨v, l, rfl, hl, hln, hown, hnew, g1⟩
  obtain ⟨ts, hN, rfl⟩ : ∃ ts, Names G ts ∧ l = namesP ts logP := by
    rcases hl with ⟨hx, _⟩ | ⟨_, ts, h1, h2⟩
    · rw [HD.out] at hx; cases hx
    · exact ⟨ts, h1, h2⟩
  have HNF := Lib.hid (Names.toF H.out.dr hN)
  obtain ⟨l, hl⟩ : ∃ l, l = namesP ts logP := ⟨_, rfl⟩
  have hmem : ∀ x ∈ l, (nm x).size ≤ 1000 := by
    intro x hx
    rw [hl] at hx
    have hx2 := (List.mem_filter.1 hx).1
    have := (HNF.out.mem x).1 hx2
    cases he : d.F (nm x) with
    | none => rw [he] at this; cases this
    | some e => exact HSZ.out _ e he
  rw [← hl] at hown hln
  have HL := Lib.hid hl
  have HMEM := Lib.hid hmem
  have hrow := RowN.of_new (S := fun i => i = lb) hown hnew (fun i hi => by rw [hi]; exact HLB.out)
  obtain ⟨al, cl, rfl, hcl⟩ := hrow.form
  rw [List.length_map] at hrow ⊢
  have HROW := Lib.hid hrow
  have HLN := Lib.hid hln
  have G1 := Lib.hid g1
  have hlen : (l.length : Int) ≤ 1000000 := by have := H.out.dr.n1; omega
  have L1 := Lib.hid (LAt.keep H.out.log g1)
  clear hN hl hmem hown hnew hrow g1 hln hcl
  go_wp2
  go_loopw [2, 4, 25] (fun b t i wr => ∃ k : Nat, k ≤ l.length ∧ i = .int .i64 k ∧ FirstAt lb db d (l.take k) w1 b t wr) (fun _ _ i _ => l.length - (intOf i).toNat)
  case atStart => exact ⟨0, Nat.zero_le _, rfl, rfl, rfl, L1.out, grow_refl _ _⟩
  case round =>
    obtain ⟨k, hk, rfl, rfl, rfl, hL, hg⟩ := hrel
    have g0 := grow_none G1.out hg
    have W0 := Lib.hid (H.out.own hL g0)
    have V := Lib.hid (HV.out.own g0 HLO.out HBB.out)
    have HLG := Lib.hid hL
    have HG := Lib.hid hg
    have G0 := Lib.hid g0
    have hrow2 := HROW.out.chg (Chg.of_row (S := fun i => i = lb) hg (fun i hi _ => by injection hi with hi; exact hi.symm))
    have c42 := hL.c4
    have c02 := hL.c0
    have HR := Lib.hid hrow2
    clear hL hg g0 hrow2
    by_cases hlt : k < l.length
    · obtain ⟨bl, ol, rfl, hbl, hnl, hcell⟩ := HR.out.at hlt
      obtain ⟨s, hs⟩ : ∃ s, s = nm l[k] := ⟨_, rfl⟩
      have hss : s.size ≤ 1000 := by rw [hs]; exact HMEM.out _ (List.getElem_mem hlt)
      have hsm : s.size ≤ maxLen := by have : maxLen = 9223372036854775807 := by decide
                                       omega
      have HNUM := Lib.hid (numberOf_any s wr (by omega) V.out.nv)
      have HRD := Lib.hid fun (w3 : World) (g : wr.grownBy w3 none) => dRead_any db mb n G d s w3 (W0.out.dr.keep g) hsm
      have hts := HTR.out s
      have HBG := Lib.hid fun (w3 : World) (g : wr.grownBy w3 none) => begun_any (readR d s).1 w3 (V.out.mv.kept g) (by omega)
      have HSN : Hid (begN d ((l.take (k + 1)).map nm) = begS d (begN d ((l.take k).map nm)) s) := by show _ = _; rw [take_nm hlt, begN_snoc, hs]
      rw [← hs] at hcell
      have HK := Lib.hid hlt
      have i1 : (k : Int) < l.length := by omega
      have i0' : (0 : Int) ≤ k := by omega
      obtain ⟨N, hNN⟩ : ∃ N, N = numW s := ⟨_, rfl⟩
      have HNN := Lib.hid hNN
      rw [← hNN] at HNUM
      obtain ⟨a, ha⟩ : ∃ a, a = begN d ((l.take k).map nm) := ⟨_, rfl⟩
      rw [← ha] at c02 HSN ⊢
      have HA := Lib.hid ha
      obtain ⟨X, hX⟩ : ∃ X, X = readR d s := ⟨_, rfl⟩
      have HX := Lib.hid hX
      rw [← hX] at HRD HBG
      have fr0 := HLG.out.fr 0
      clear hs hss hsm hk hNN hlt ha hX hts
      go_wp2_with fail
      refine HNUM.out.mono ?_
      rintro e w3 ⟨rfl, g3⟩
      have c43 := (W0.out.keep g3).log.c4
      have G3 := Lib.hid g3
      go_wp2_with fail
      refine (HRD.out w3 G3.out).mono ?_
      rintro e w4 ⟨rfl, g4⟩
      have G4 := Lib.hid (grow_none G3.out g4)
      clear g3 g4
      go_wp2_with fail
      refine (HBG.out w4 G4.out).mono ?_
      rintro e w5 ⟨rfl, g5⟩
      have G5 := Lib.hid (grow_none G4.out g5)
      have L5 := Lib.hid (LAt.keep HLG.out G5.out)
      have c05 := LAt.c0 L5.out
      have fr5 := LAt.fr L5.out 0
      rw [← HA.out] at c05
      clear g5 c02 c42 c43 hcell fr0
      cases hbk : begK X.1 with
      | false =>
        have HS2 : Hid (begN d ((l.take (k + 1)).map nm) = begN d ((l.take k).map nm)) := by show _ = _; rw [HSN.out, begS_no (fun h => by rw [← HX.out, hbk] at h; cases h.1), HA.out]
        clear hbk
        go_wp2_with fail
        go_roundw
        case rel => exact ⟨k + 1, by have := HK.out; omega, by go_num, by rw [HS2.out, ← HA.out], by rw [HS2.out, ← HA.out], by rw [HS2.out]; exact L5.out, grow_then_none HG.out G5.out⟩
        case measure => have := HK.out; simp [intOf]; omega
      | true =>
        by_cases hgt : a < N
        · have HS2 : Hid (begN d ((l.take (k + 1)).map nm) = N) := by show _ = _; rw [HSN.out, begS_yes (by rw [← HX.out]; exact hbk) (by rw [← HNN.out]; exact hgt), HNN.out]
          have HF := Lib.hid (firstOf_new (d := d) HNN.out (by omega))
          rw [← HX.out] at HF
          have i3 : (a : Int) < N := by omega
          clear hbk hgt
          go_wp2_with fail
          go_roundw
          case rel => exact ⟨k + 1, by have := HK.out; omega, by go_num, by rw [HS2.out, HF.out.2], by rw [HS2.out, HF.out.1], by rw [HS2.out]; exact L5.out.s0 N, grow_same (grow_then_none HG.out G5.out) (grow_set _ _ _)⟩
          case measure => have := HK.out; simp [intOf]; omega
        · have HS2 : Hid (begN d ((l.take (k + 1)).map nm) = begN d ((l.take k).map nm)) := by show _ = _; rw [HSN.out, begS_no (fun h => hgt (by rw [HNN.out]; exact h.2)), HA.out]
          have i3 : ¬ (a : Int) < N := by omega
          clear hbk hgt
          go_wp2_with fail
          go_roundw
          case rel => exact ⟨k + 1, by have := HK.out; omega, by go_num, by rw [HS2.out, ← HA.out], by rw [HS2.out, ← HA.out], by rw [HS2.out]; exact L5.out, grow_then_none HG.out G5.out⟩
          case measure => have := HK.out; simp [intOf]; omega
    · obtain rfl : k = l.length := by omega
      rw [List.take_length] at c02 HLG ⊢
      obtain ⟨f, hf⟩ : ∃ f, f = begN d (l.map nm) := ⟨_, rfl⟩
      rw [← hf] at c02 HLG ⊢
      have HFF : Hid (f = begN d ((namesP ts logP).map nm)) := by show _ = _; rw [← HL.out]; exact hf
      clear hk hlt W0
      by_cases hf0 : f = 0
      · subst hf0
        clear hf
        go_wp2
        refine bodyPost_ret (v := .tuple #[.string ⟨#[]⟩, .slice none 0 0]) ?_ ?_ ?_
        · simp [results, go_sem]
        · rfl
        unfold FindE
        exact ⟨ts, ⟨0, 0, 0, false⟩, ⟨#[]⟩, [], _, HNF.out, HFF.out, Lg.zero _, rfl, World.ownsRow_nil _ _ _ _, newblk_nil _, HLG.out, G0.out⟩
      · obtain ⟨wo, rfl⟩ : ∃ wo : World, wo = wr := ⟨_, rfl⟩
        obtain ⟨hf9, _, hfb⟩ := begN_is hf.symm hf0
        have HBT : Hid (textOf d f = segT d f ∧ baseOf d f = begB (segT d f)) := by
          show _ ∧ _
          unfold textOf baseOf
          rw [if_neg hf0, if_neg hf0]; exact ⟨rfl, rfl⟩
        rw [HBT.out.1, HBT.out.2]
        have e0 : ((f : Int) == 0) = false := by
          have : ¬ (f : Int) = 0 := by omega
          simpa using this
        have fr1 := HLG.out.fr 1
        have c11 := HLG.out.c1
        have HFB := Lib.hid hfb
        have HF9 : Hid (1 ≤ f ∧ f ≤ 999999999) := by show _ ∧ _; omega
        have L6 := Lib.hid (HLG.out.s1 f)
        have G6 := Lib.hid (grow_same G0.out (grow_set wo ⟨lb, 1, none⟩ (.int .i64 (f : Int))))
        clear hf hf0 hf9 hfb
        go_wp2
        go_loopw [3, 4] (fun v t wr => ∃ k : Nat, GoAt lb db f (segT d) w k v t wr) (fun _ _ wr => 999999999 - lastOf lb wr)
        case atStart =>
          refine ⟨f, Nat.le_refl _, HF9.out.2, rfl, fun i h1 h2 => by omega, L6.out, G6.out, ?_, newblk_nil _, ?_⟩
          · rw [Nat.sub_self, recs_zero]; exact World.ownsRow_nil _ _ _ _
          · rw [Nat.sub_self, recs_zero]; exact Nat.le_refl _
        case round =>
          obtain ⟨k, q1, q2, rfl, hall, hL, hg, hown, hnb, hlen⟩ := hrel
          have HQ1 := Lib.hid q1
          have HQ2 := Lib.hid q2
          have HALL := Lib.hid hall
          have HLG := Lib.hid hL
          have HG := Lib.hid hg
          have HOWN := Lib.hid hown
          have HNB := Lib.hid hnb
          have HRL := Lib.hid hlen
          have W0 := Lib.hid (H.out.own hL hg)
          have V := Lib.hid (HV.out.own hg HLO.out HBB.out)
          have HOP : Hid (opB (segT d k) = true) := by
            show _ = _
            by_cases he : k = f
            · rw [he]; exact beg_op HFB.out
            · have := (hall (k - 1) (by omega) (by omega)).1
              rw [show k - 1 + 1 = k by omega] at this
              exact gone_op this
          have HCNT : Hid (k - f ≤ 1000000) := by
            show _ ≤ _
            have h1 : k - f ≤ l.length := by
              rw [HL.out]
              exact segs_count HD.out HNF.out HF9.out.1 (fun i h1 h2 => by
                have := (hall i h1 h2).2
                exact cut_ne this)
            have h2 := HLN.out
            have h3 := H.out.dr.n1
            omega
          have c1 := hL.c1
          have c4 := hL.c4
          have HMEAS : Hid (lastOf lb wr = k) := by show _ = _; unfold lastOf; rw [c1]; rfl
          obtain ⟨av, cv, rfl⟩ := own_form hown
          clear hall hL hg hown hnb hlen q1 q2 L6 G6 G0 HR
          by_cases hk9 : k = 999999999
          · have HSTOP : Hid (k = 999999999 ∨ ¬ goes (segT d) k) := .inl hk9
            have i9 : ¬ (k : Int) < 999999999 := by omega
            clear hk9
            have HSC := Lib.hid (Scan_any (segT d k) wr V.out.mv (by have := HTS.out k; show (segT d k).size ≤ _; unfold segT; omega))
            go_wp2_with fail
            refine HSC.out.mono ?_
            rintro e w5 ⟨p, q, ls, cs, hsc, hcs, hlq, rfl, hr, g5⟩
            obtain ⟨e1, e2⟩ := scan_is hsc
            have hne : 1 ≤ ls.length := by
              have := scan_ne HOP.out
              rw [← e1] at this
              exact List.length_pos_iff.2 this
            have hTk : (segT d k).size ≤ 1048576 := HTS.out k
            obtain ⟨z, hz⟩ : ∃ z : Nat, (z : Int) = ((segT d k).size : Int) - (cs.size : Int) := ⟨(segT d k).size - cs.size, by omega⟩
            rw [← hz]
            have HRD := row_drop (k := 1) hr (by omega) rfl hlq
            have HZ : Hid (z + (scanC (segT d k)).size = (segT d k).size) := by show _ = _; rw [← e2]; omega
            have HLS := Lib.hid e1
            have HLZ : Hid (ls.length ≤ 1048576) := by show ls.length ≤ _; omega
            have HTN : Hid (decide (z < (segT d k).size) = decide ((scanC (segT d k)).size ≠ 0)) := by
              show _ = _
              rw [← e2]
              by_cases h0 : cs.size = 0
              · rw [decide_eq_false (by omega), decide_eq_false (fun h => h h0)]
              · rw [decide_eq_true (by omega), decide_eq_true h0]
            have GK := Lib.hid (g5)
            have L5 := Lib.hid (LAt.keep HLG.out GK.out)
            have f2 := LAt.fr L5.out 2
            have f3 := LAt.fr L5.out 3
            have c25 := LAt.c2 L5.out
            have c35 := LAt.c3 L5.out
            have O5 := Lib.hid (own_keep HOWN.out GK.out)
            have n1i : (1 : Int) ≤ ls.length := by omega
            have n1c : (1 : Int) ≤ q := by omega
            have LG := Lib.hid (Lg.made HFB.out HF9.out HQ1.out HQ2.out HALL.out HSTOP.out HZ.out HTN.out)
            clear hsc hcs hr g5 e1 e2 hlq hz hTk hne
            by_cases hq : q = 1
            · subst hq
              rw [if_pos rfl] at HRD
              have HRW := Lib.hid HRD
              clear HRD
              go_wp2_with (at_builtin; refine wpList_append_row _ rfl _ _ 34 rfl 9 i0 (.string ⟨#[]⟩) 16 Tryz.underlying34 hi hz0 hz1 hz2 rfl _ (recsOf (segT d) f (k - f)).length ((recsOf (segT d) f (k - f)).map Value.string) rfl (ownsRow_setCell_other (ownsRow_setCell_other O5.out (a := ⟨lb, 2, none⟩) (newblk_ne HNB.out HLB.out) _) (a := ⟨lb, 3, none⟩) (newblk_ne HNB.out HLB.out) _) _ ((ls.drop 1).map Value.string) rfl (row_log (row_log HRW.out L5.out 2 _) (L5.out.s2 z) 3 _) (ones_str _) (by have := HRL.out; have := HCNT.out; have := HLZ.out; rw [List.length_map, List.length_drop]; show _ ≤ 2^63-1; omega) (by have := HRL.out; have := HCNT.out; have := HLZ.out; rw [List.length_map, List.length_drop]; omega) ?_)
              intro v8 w8 o8 g8 m8
              have N8 := Lib.hid (HNB.out.moved (by have := (grow_then_none HG.out GK.out).size; simp; omega) m8)
              have L8 := Lib.hid (Blk.kept ((L5.out.s2 z).s3 (decide (z < (segT d k).size))) g8 (fun h => newblk_ne HNB.out HLB.out h.symm))
              have G8 := Lib.hid (grow_own_new (grow_same (grow_same (grow_then_none HG.out GK.out) (grow_set _ _ _)) (grow_set _ _ _)) HNB.out g8)
              have O8 : Hid (w8.ownsRow 0 9 1 v8 (recsOf (segT d) f (k - f) ++ (scanL (segT d k)).drop 1).length ((recsOf (segT d) f (k - f) ++ (scanL (segT d k)).drop 1).map Value.string)) := by
                show World.ownsRow _ _ _ _ _ _ _
                rw [← HLS.out]
                simpa [List.length_append, List.length_drop] using o8
              clear o8 g8 m8 f2 f3 c25 c35
              go_wp2
              go_ret2
              unfold FindE
              refine ⟨ts, ⟨f, k, z, decide (z < (segT d k).size)⟩, _, recsOf (segT d) f (k - f) ++ (scanL (segT d k)).drop 1, v8, HNF.out, HFF.out, LG.out, rfl, O8.out, N8.out, L8.out, G8.out⟩
            · rw [if_neg hq] at HRD
              have HRW := Lib.hid HRD
              clear HRD
              go_wp2_with (at_builtin; refine wpList_append_row _ rfl _ _ 34 rfl 9 i0 (.string ⟨#[]⟩) 16 Tryz.underlying34 hi hz0 hz1 hz2 rfl _ (recsOf (segT d) f (k - f)).length ((recsOf (segT d) f (k - f)).map Value.string) rfl (ownsRow_setCell_other (ownsRow_setCell_other O5.out (a := ⟨lb, 2, none⟩) (newblk_ne HNB.out HLB.out) _) (a := ⟨lb, 3, none⟩) (newblk_ne HNB.out HLB.out) _) _ ((ls.drop 1).map Value.string) rfl (row_log (row_log HRW.out L5.out 2 _) (L5.out.s2 z) 3 _) (ones_str _) (by have := HRL.out; have := HCNT.out; have := HLZ.out; rw [List.length_map, List.length_drop]; show _ ≤ 2^63-1; omega) (by have := HRL.out; have := HCNT.out; have := HLZ.out; rw [List.length_map, List.length_drop]; omega) ?_)
              intro v8 w8 o8 g8 m8
              have N8 := Lib.hid (HNB.out.moved (by have := (grow_then_none HG.out GK.out).size; simp; omega) m8)
              have L8 := Lib.hid (Blk.kept ((L5.out.s2 z).s3 (decide (z < (segT d k).size))) g8 (fun h => newblk_ne HNB.out HLB.out h.symm))
              have G8 := Lib.hid (grow_own_new (grow_same (grow_same (grow_then_none HG.out GK.out) (grow_set _ _ _)) (grow_set _ _ _)) HNB.out g8)
              have O8 : Hid (w8.ownsRow 0 9 1 v8 (recsOf (segT d) f (k - f) ++ (scanL (segT d k)).drop 1).length ((recsOf (segT d) f (k - f) ++ (scanL (segT d k)).drop 1).map Value.string)) := by
                show World.ownsRow _ _ _ _ _ _ _
                rw [← HLS.out]
                simpa [List.length_append, List.length_drop] using o8
              clear o8 g8 m8 f2 f3 c25 c35
              go_wp2
              go_ret2
              unfold FindE
              refine ⟨ts, ⟨f, k, z, decide (z < (segT d k).size)⟩, _, recsOf (segT d) f (k - f) ++ (scanL (segT d k)).drop 1, v8, HNF.out, HFF.out, LG.out, rfl, O8.out, N8.out, L8.out, G8.out⟩
          · have i9 : (k : Int) < 999999999 := by have := HQ2.out; omega
            have hk1 : IntKind.i64.wrap ((k : Int) + 1) = (k : Int) + 1 := by rw [IntKind.wrap_i64]; omega
            have hc1 : ((k : Int) + 1) = ((k + 1 : Nat) : Int) := by omega
            have hnsz : (nameW (k + 1)).size ≤ maxLen := by
              have := nameW_le (n := k + 1) (by omega)
              have : maxLen = 9223372036854775807 := by decide
              omega
            have HNM := Lib.hid fun (W : World) (g : wr.grownBy W none) => nameOf_any (k + 1) W (by have := HQ2.out; omega) (V.out.keep g).nv
            have HRD2 := Lib.hid fun (W : World) (g : wr.grownBy W none) => dRead_any db mb n G d (nameW (k + 1)) W (W0.out.dr.keep g) hnsz
            have hTk1 : (segT d (k + 1)).size ≤ 1048576 := HTS.out (k + 1)
            have HGO := Lib.hid fun (W : World) (g : wr.grownBy W none) => goneOn_any (segT d (k + 1)) W (V.out.mv.kept g) (by omega)
            obtain ⟨S1, hS1⟩ : ∃ S1, S1 = nameW (k + 1) := ⟨_, rfl⟩
            obtain ⟨X, hX⟩ : ∃ X, X = readR d S1 := ⟨_, rfl⟩
            have HX : Hid (X.1 = segT d (k + 1)) := by show _ = _; rw [hX, hS1]; rfl
            rw [← hS1, ← hX] at HRD2
            rw [← hS1] at HNM
            have HK1 := Lib.hid hk1
            have HC1 := Lib.hid hc1
            have HK9 := Lib.hid hk9
            clear hk9 hnsz hS1 hX hTk1 hk1 hc1
            go_wp2_with fail
            refine wp_region_rel (fun W => wr.grownBy W none) (fun W W' => W.grownBy W' none) (by kernel_rfl) (by kernel_rfl) (fun W => grow_refl W none) (grow_drawn (grow_refl _ _)) ?_
            iterate 10 (refine wpRel_det ?_; apply Exists.intro; refine ⟨fun W hI => ?_, ?_⟩; focus (have c1 := LAt.c1 (LAt.keep HLG.out hI); have c4 := LAt.c4 (LAt.keep HLG.out hI); go_simp; first | exact ⟨rfl, grow_refl _ _⟩ | exact ⟨rfl, hI, grow_refl _ _⟩))
            refine wpRel_det ?_; apply Exists.intro; refine ⟨fun W hI => ?_, ?_⟩
            · go_simp
              rw [HK1.out, HC1.out]
              exact relOf (HNM.out W hI) hI
            refine wpRel_det ?_; apply Exists.intro; refine ⟨fun W hI => ?_, ?_⟩
            · go_simp
              exact relOf (HRD2.out W hI) hI
            repeat (refine wpRel_det ?_; apply Exists.intro; refine ⟨fun W hI => ?_, ?_⟩; focus (go_simp; first | exact ⟨rfl, grow_refl _ _⟩ | exact ⟨rfl, hI, grow_refl _ _⟩))
            refine wpRel_nil ?_
            intro w3 hI3
            go_simp
            have G3 := Lib.hid hI3
            rw [HX.out]
            clear hI3
            go_wp2_with fail
            refine (HGO.out w3 G3.out).mono ?_
            rintro e w4 ⟨rfl, g4⟩
            have G4 := Lib.hid (grow_none G3.out g4)
            clear g4
            cases hgk : goneK (segT d (k + 1)) with
            | false =>
              have HSTOP : Hid (k = 999999999 ∨ ¬ goes (segT d) k) := .inr fun h => by
                have := h.1
                rw [hgk] at this; cases this
              clear hgk
              have HSC := Lib.hid (Scan_any (segT d k) w4 (V.out.mv.kept G4.out) (by have := HTS.out k; show (segT d k).size ≤ _; unfold segT; omega))
              go_wp2_with fail
              refine HSC.out.mono ?_
              rintro e w5 ⟨p, q, ls, cs, hsc, hcs, hlq, rfl, hr, g5⟩
              obtain ⟨e1, e2⟩ := scan_is hsc
              have hne : 1 ≤ ls.length := by
                have := scan_ne HOP.out
                rw [← e1] at this
                exact List.length_pos_iff.2 this
              have hTk : (segT d k).size ≤ 1048576 := HTS.out k
              obtain ⟨z, hz⟩ : ∃ z : Nat, (z : Int) = ((segT d k).size : Int) - (cs.size : Int) := ⟨(segT d k).size - cs.size, by omega⟩
              rw [← hz]
              have HRD := row_drop (k := 1) hr (by omega) rfl hlq
              have HZ : Hid (z + (scanC (segT d k)).size = (segT d k).size) := by show _ = _; rw [← e2]; omega
              have HLS := Lib.hid e1
              have HLZ : Hid (ls.length ≤ 1048576) := by show ls.length ≤ _; omega
              have HTN : Hid (decide (z < (segT d k).size) = decide ((scanC (segT d k)).size ≠ 0)) := by
                show _ = _
                rw [← e2]
                by_cases h0 : cs.size = 0
                · rw [decide_eq_false (by omega), decide_eq_false (fun h => h h0)]
                · rw [decide_eq_true (by omega), decide_eq_true h0]
              have GK := Lib.hid (grow_none G4.out g5)
              have L5 := Lib.hid (LAt.keep HLG.out GK.out)
              have f2 := LAt.fr L5.out 2
              have f3 := LAt.fr L5.out 3
              have c25 := LAt.c2 L5.out
              have c35 := LAt.c3 L5.out
              have O5 := Lib.hid (own_keep HOWN.out GK.out)
              have n1i : (1 : Int) ≤ ls.length := by omega
              have n1c : (1 : Int) ≤ q := by omega
              have LG := Lib.hid (Lg.made HFB.out HF9.out HQ1.out HQ2.out HALL.out HSTOP.out HZ.out HTN.out)
              clear hsc hcs hr g5 e1 e2 hlq hz hTk hne
              by_cases hq : q = 1
              · subst hq
                rw [if_pos rfl] at HRD
                have HRW := Lib.hid HRD
                clear HRD
                go_wp2_with (at_builtin; refine wpList_append_row _ rfl _ _ 34 rfl 9 i0 (.string ⟨#[]⟩) 16 Tryz.underlying34 hi hz0 hz1 hz2 rfl _ (recsOf (segT d) f (k - f)).length ((recsOf (segT d) f (k - f)).map Value.string) rfl (ownsRow_setCell_other (ownsRow_setCell_other O5.out (a := ⟨lb, 2, none⟩) (newblk_ne HNB.out HLB.out) _) (a := ⟨lb, 3, none⟩) (newblk_ne HNB.out HLB.out) _) _ ((ls.drop 1).map Value.string) rfl (row_log (row_log HRW.out L5.out 2 _) (L5.out.s2 z) 3 _) (ones_str _) (by have := HRL.out; have := HCNT.out; have := HLZ.out; rw [List.length_map, List.length_drop]; show _ ≤ 2^63-1; omega) (by have := HRL.out; have := HCNT.out; have := HLZ.out; rw [List.length_map, List.length_drop]; omega) ?_)
                intro v8 w8 o8 g8 m8
                have N8 := Lib.hid (HNB.out.moved (by have := (grow_then_none HG.out GK.out).size; simp; omega) m8)
                have L8 := Lib.hid (Blk.kept ((L5.out.s2 z).s3 (decide (z < (segT d k).size))) g8 (fun h => newblk_ne HNB.out HLB.out h.symm))
                have G8 := Lib.hid (grow_own_new (grow_same (grow_same (grow_then_none HG.out GK.out) (grow_set _ _ _)) (grow_set _ _ _)) HNB.out g8)
                have O8 : Hid (w8.ownsRow 0 9 1 v8 (recsOf (segT d) f (k - f) ++ (scanL (segT d k)).drop 1).length ((recsOf (segT d) f (k - f) ++ (scanL (segT d k)).drop 1).map Value.string)) := by
                  show World.ownsRow _ _ _ _ _ _ _
                  rw [← HLS.out]
                  simpa [List.length_append, List.length_drop] using o8
                clear o8 g8 m8 f2 f3 c25 c35
                go_wp2
                go_ret2
                unfold FindE
                refine ⟨ts, ⟨f, k, z, decide (z < (segT d k).size)⟩, _, recsOf (segT d) f (k - f) ++ (scanL (segT d k)).drop 1, v8, HNF.out, HFF.out, LG.out, rfl, O8.out, N8.out, L8.out, G8.out⟩
              · rw [if_neg hq] at HRD
                have HRW := Lib.hid HRD
                clear HRD
                go_wp2_with (at_builtin; refine wpList_append_row _ rfl _ _ 34 rfl 9 i0 (.string ⟨#[]⟩) 16 Tryz.underlying34 hi hz0 hz1 hz2 rfl _ (recsOf (segT d) f (k - f)).length ((recsOf (segT d) f (k - f)).map Value.string) rfl (ownsRow_setCell_other (ownsRow_setCell_other O5.out (a := ⟨lb, 2, none⟩) (newblk_ne HNB.out HLB.out) _) (a := ⟨lb, 3, none⟩) (newblk_ne HNB.out HLB.out) _) _ ((ls.drop 1).map Value.string) rfl (row_log (row_log HRW.out L5.out 2 _) (L5.out.s2 z) 3 _) (ones_str _) (by have := HRL.out; have := HCNT.out; have := HLZ.out; rw [List.length_map, List.length_drop]; show _ ≤ 2^63-1; omega) (by have := HRL.out; have := HCNT.out; have := HLZ.out; rw [List.length_map, List.length_drop]; omega) ?_)
                intro v8 w8 o8 g8 m8
                have N8 := Lib.hid (HNB.out.moved (by have := (grow_then_none HG.out GK.out).size; simp; omega) m8)
                have L8 := Lib.hid (Blk.kept ((L5.out.s2 z).s3 (decide (z < (segT d k).size))) g8 (fun h => newblk_ne HNB.out HLB.out h.symm))
                have G8 := Lib.hid (grow_own_new (grow_same (grow_same (grow_then_none HG.out GK.out) (grow_set _ _ _)) (grow_set _ _ _)) HNB.out g8)
                have O8 : Hid (w8.ownsRow 0 9 1 v8 (recsOf (segT d) f (k - f) ++ (scanL (segT d k)).drop 1).length ((recsOf (segT d) f (k - f) ++ (scanL (segT d k)).drop 1).map Value.string)) := by
                  show World.ownsRow _ _ _ _ _ _ _
                  rw [← HLS.out]
                  simpa [List.length_append, List.length_drop] using o8
                clear o8 g8 m8 f2 f3 c25 c35
                go_wp2
                go_ret2
                unfold FindE
                refine ⟨ts, ⟨f, k, z, decide (z < (segT d k).size)⟩, _, recsOf (segT d) f (k - f) ++ (scanL (segT d k)).drop 1, v8, HNF.out, HFF.out, LG.out, rfl, O8.out, N8.out, L8.out, G8.out⟩
            | true =>
              have HGK := Lib.hid hgk
              obtain ⟨gn, hgn⟩ : ∃ gn, gn = goneN (segT d (k + 1)) := ⟨_, rfl⟩
              have HGN := Lib.hid hgn
              rw [← hgn]
              have hTk0 : (segT d k).size ≤ 1048576 := HTS.out k
              have HCUT : Hid (∀ W, wr.grownBy W none → Calls Tryz.prog 74 #[.string (segT d k), .int .i64 gn] W fun e w' => ((cutOk (segT d k) gn ∧ ∃ p q, e = .returned (.tuple #[.slice p (cutL (segT d k) gn).length q, .bool true]) ∧ RowAt w' (.slice p (cutL (segT d k) gn).length q) ((cutL (segT d k) gn).map Value.string)) ∨ (¬ cutOk (segT d k) gn ∧ e = .returned (.tuple #[.slice none 0 0, .bool false]))) ∧ W.grownBy w' none) := by
                intro W g
                by_cases hb : gn < 0 ∨ ((segT d k).size : Int) < gn
                · exact (cutAt_out (segT d k) gn W hb (by omega)).mono fun e w' ⟨he, g⟩ => ⟨.inr ⟨fun h => by have := h.1; have := h.2.1; omega, he⟩, g⟩
                · obtain ⟨m, rfl⟩ : ∃ m : Nat, gn = m := ⟨gn.toNat, by omega⟩
                  exact cutAt_in (segT d k) m W (V.out.mv.kept g) (by omega) (by omega)
              clear hgk hgn hTk0
              go_wp2_with fail
              refine (HCUT.out w4 G4.out).mono ?_
              rintro e w6 ⟨⟨hok, p6, q6, rfl, hr6⟩ | ⟨hno, rfl⟩, g6⟩
              · have HGOES : Hid (goes (segT d) k) := ⟨HGK.out, by rw [← HGN.out]; exact hok⟩
                have HREC : Hid (recOf (segT d) k = cutL (segT d k) gn) := by show _ = _; rw [HGN.out]; rfl
                have hrl := recOf_len (segT d) k (HTS.out k)
                rw [← HREC.out] at hr6 ⊢
                have G6 := Lib.hid (grow_none G4.out g6)
                have L6 := Lib.hid (LAt.keep HLG.out G6.out)
                have O6 := Lib.hid (own_keep HOWN.out G6.out)
                have R6 := Lib.hid hr6
                have HRL2 := Lib.hid hrl
                have HR3 : Hid (recsOf (segT d) f (k + 1 - f) = recsOf (segT d) f (k - f) ++ recOf (segT d) k) := by
                  show _ = _
                  have := HQ1.out
                  rw [show k + 1 - f = k - f + 1 by omega, recs_succ, show f + (k - f) = k by omega]
                clear hok hr6 g6 hrl
                go_wp2_with (at_builtin; refine wpList_append_row _ rfl _ _ 34 rfl 9 i0 (.string ⟨#[]⟩) 16 Tryz.underlying34 hi hz0 hz1 hz2 rfl _ (recsOf (segT d) f (k - f)).length ((recsOf (segT d) f (k - f)).map Value.string) rfl O6.out _ ((recOf (segT d) k).map Value.string) rfl R6.out (ones_str _) (by have := HRL.out; have := HCNT.out; have := HRL2.out; rw [List.length_map]; show _ ≤ 2^63-1; omega) (by have := HRL.out; have := HCNT.out; have := HRL2.out; rw [List.length_map]; omega) ?_)
                intro v8 w8 o8 g8 m8
                have N8 := Lib.hid (HNB.out.moved (by have := (grow_then_none HG.out G6.out).size; omega) m8)
                have L8 := Lib.hid (Blk.kept L6.out g8 (fun h => newblk_ne HNB.out HLB.out h.symm))
                have G8 := Lib.hid (grow_own_new (grow_then_none HG.out G6.out) HNB.out g8)
                have O8 := Lib.hid o8
                have c18 := LAt.c1 L8.out
                have fr8 := LAt.fr L8.out 1
                have hk1 := HK1.out
                clear o8 g8 m8
                go_wp2_with fail
                go_roundw
                case rel =>
                  refine ⟨k + 1, by have := HQ1.out; omega, by have := HQ2.out; have := HK9.out; omega, rfl, fun i h1 h2 => ?_, ?_, grow_same G8.out (grow_set _ _ _), ?_, N8.out, ?_⟩
                  · by_cases he : i = k
                    · rw [he]; exact HGOES.out
                    · exact HALL.out i h1 (by omega)
                  · have := LAt.s1 L8.out (k + 1)
                    rw [← HC1.out] at this
                    exact this
                  · have := O8.out
                    rw [HR3.out, List.length_append, List.map_append]
                    exact ownsRow_setCell_other this (a := ⟨lb, 1, none⟩) (newblk_ne N8.out HLB.out) _
                  · have h1 := HRL.out
                    have h2 := HRL2.out
                    have h3 := HQ1.out
                    rw [HR3.out, List.length_append, show k + 1 - f = (k - f) + 1 by omega, Nat.add_mul]
                    omega
                case measure =>
                  have h1 := HMEAS.out
                  have h2 := HQ2.out
                  have h3 := HK9.out
                  have e2 : lastOf lb (w8.setCell ⟨lb, 1, none⟩ (.int .i64 ((k : Int) + 1))) = k + 1 := by
                    unfold lastOf
                    have := LAt.c1 (LAt.s1 L8.out (k + 1))
                    rw [← HC1.out] at this
                    rw [this]
                    show ((k : Int) + 1).toNat = k + 1
                    omega
                  rw [h1, e2]
                  omega
              · have HSTOP : Hid (k = 999999999 ∨ ¬ goes (segT d) k) := .inr fun h => hno (by
                  have := h.2
                  rw [← HGN.out] at this; exact this)
                clear hno
                have HSC := Lib.hid (Scan_any (segT d k) w6 (V.out.mv.kept (grow_none G4.out g6)) (by have := HTS.out k; show (segT d k).size ≤ _; unfold segT; omega))
                go_wp2_with fail
                refine HSC.out.mono ?_
                rintro e w5 ⟨p, q, ls, cs, hsc, hcs, hlq, rfl, hr, g5⟩
                obtain ⟨e1, e2⟩ := scan_is hsc
                have hne : 1 ≤ ls.length := by
                  have := scan_ne HOP.out
                  rw [← e1] at this
                  exact List.length_pos_iff.2 this
                have hTk : (segT d k).size ≤ 1048576 := HTS.out k
                obtain ⟨z, hz⟩ : ∃ z : Nat, (z : Int) = ((segT d k).size : Int) - (cs.size : Int) := ⟨(segT d k).size - cs.size, by omega⟩
                rw [← hz]
                have HRD := row_drop (k := 1) hr (by omega) rfl hlq
                have HZ : Hid (z + (scanC (segT d k)).size = (segT d k).size) := by show _ = _; rw [← e2]; omega
                have HLS := Lib.hid e1
                have HLZ : Hid (ls.length ≤ 1048576) := by show ls.length ≤ _; omega
                have HTN : Hid (decide (z < (segT d k).size) = decide ((scanC (segT d k)).size ≠ 0)) := by
                  show _ = _
                  rw [← e2]
                  by_cases h0 : cs.size = 0
                  · rw [decide_eq_false (by omega), decide_eq_false (fun h => h h0)]
                  · rw [decide_eq_true (by omega), decide_eq_true h0]
                have GK := Lib.hid (grow_none (grow_none G4.out g6) g5)
                have L5 := Lib.hid (LAt.keep HLG.out GK.out)
                have f2 := LAt.fr L5.out 2
                have f3 := LAt.fr L5.out 3
                have c25 := LAt.c2 L5.out
                have c35 := LAt.c3 L5.out
                have O5 := Lib.hid (own_keep HOWN.out GK.out)
                have n1i : (1 : Int) ≤ ls.length := by omega
                have n1c : (1 : Int) ≤ q := by omega
                have LG := Lib.hid (Lg.made HFB.out HF9.out HQ1.out HQ2.out HALL.out HSTOP.out HZ.out HTN.out)
                clear hsc hcs hr g5 e1 e2 hlq hz hTk hne
                by_cases hq : q = 1
                · subst hq
                  rw [if_pos rfl] at HRD
                  have HRW := Lib.hid HRD
                  clear HRD
                  go_wp2_with (at_builtin; refine wpList_append_row _ rfl _ _ 34 rfl 9 i0 (.string ⟨#[]⟩) 16 Tryz.underlying34 hi hz0 hz1 hz2 rfl _ (recsOf (segT d) f (k - f)).length ((recsOf (segT d) f (k - f)).map Value.string) rfl (ownsRow_setCell_other (ownsRow_setCell_other O5.out (a := ⟨lb, 2, none⟩) (newblk_ne HNB.out HLB.out) _) (a := ⟨lb, 3, none⟩) (newblk_ne HNB.out HLB.out) _) _ ((ls.drop 1).map Value.string) rfl (row_log (row_log HRW.out L5.out 2 _) (L5.out.s2 z) 3 _) (ones_str _) (by have := HRL.out; have := HCNT.out; have := HLZ.out; rw [List.length_map, List.length_drop]; show _ ≤ 2^63-1; omega) (by have := HRL.out; have := HCNT.out; have := HLZ.out; rw [List.length_map, List.length_drop]; omega) ?_)
                  intro v8 w8 o8 g8 m8
                  have N8 := Lib.hid (HNB.out.moved (by have := (grow_then_none HG.out GK.out).size; simp; omega) m8)
                  have L8 := Lib.hid (Blk.kept ((L5.out.s2 z).s3 (decide (z < (segT d k).size))) g8 (fun h => newblk_ne HNB.out HLB.out h.symm))
                  have G8 := Lib.hid (grow_own_new (grow_same (grow_same (grow_then_none HG.out GK.out) (grow_set _ _ _)) (grow_set _ _ _)) HNB.out g8)
                  have O8 : Hid (w8.ownsRow 0 9 1 v8 (recsOf (segT d) f (k - f) ++ (scanL (segT d k)).drop 1).length ((recsOf (segT d) f (k - f) ++ (scanL (segT d k)).drop 1).map Value.string)) := by
                    show World.ownsRow _ _ _ _ _ _ _
                    rw [← HLS.out]
                    simpa [List.length_append, List.length_drop] using o8
                  clear o8 g8 m8 f2 f3 c25 c35
                  go_wp2
                  go_ret2
                  unfold FindE
                  refine ⟨ts, ⟨f, k, z, decide (z < (segT d k).size)⟩, _, recsOf (segT d) f (k - f) ++ (scanL (segT d k)).drop 1, v8, HNF.out, HFF.out, LG.out, rfl, O8.out, N8.out, L8.out, G8.out⟩
                · rw [if_neg hq] at HRD
                  have HRW := Lib.hid HRD
                  clear HRD
                  go_wp2_with (at_builtin; refine wpList_append_row _ rfl _ _ 34 rfl 9 i0 (.string ⟨#[]⟩) 16 Tryz.underlying34 hi hz0 hz1 hz2 rfl _ (recsOf (segT d) f (k - f)).length ((recsOf (segT d) f (k - f)).map Value.string) rfl (ownsRow_setCell_other (ownsRow_setCell_other O5.out (a := ⟨lb, 2, none⟩) (newblk_ne HNB.out HLB.out) _) (a := ⟨lb, 3, none⟩) (newblk_ne HNB.out HLB.out) _) _ ((ls.drop 1).map Value.string) rfl (row_log (row_log HRW.out L5.out 2 _) (L5.out.s2 z) 3 _) (ones_str _) (by have := HRL.out; have := HCNT.out; have := HLZ.out; rw [List.length_map, List.length_drop]; show _ ≤ 2^63-1; omega) (by have := HRL.out; have := HCNT.out; have := HLZ.out; rw [List.length_map, List.length_drop]; omega) ?_)
                  intro v8 w8 o8 g8 m8
                  have N8 := Lib.hid (HNB.out.moved (by have := (grow_then_none HG.out GK.out).size; simp; omega) m8)
                  have L8 := Lib.hid (Blk.kept ((L5.out.s2 z).s3 (decide (z < (segT d k).size))) g8 (fun h => newblk_ne HNB.out HLB.out h.symm))
                  have G8 := Lib.hid (grow_own_new (grow_same (grow_same (grow_then_none HG.out GK.out) (grow_set _ _ _)) (grow_set _ _ _)) HNB.out g8)
                  have O8 : Hid (w8.ownsRow 0 9 1 v8 (recsOf (segT d) f (k - f) ++ (scanL (segT d k)).drop 1).length ((recsOf (segT d) f (k - f) ++ (scanL (segT d k)).drop 1).map Value.string)) := by
                    show World.ownsRow _ _ _ _ _ _ _
                    rw [← HLS.out]
                    simpa [List.length_append, List.length_drop] using o8
                  clear o8 g8 m8 f2 f3 c25 c35
                  go_wp2
                  go_ret2
                  unfold FindE
                  refine ⟨ts, ⟨f, k, z, decide (z < (segT d k).size)⟩, _, recsOf (segT d) f (k - f) ++ (scanL (segT d k)).drop 1, v8, HNF.out, HFF.out, LG.out, rfl, O8.out, N8.out, L8.out, G8.out⟩
theorem results_tmp4 {fn : Func} {t u v x : Tmp} (h : fn.results = #[.tmp t, .tmp u, .tmp v, .tmp x]) (tmps : Array Value) (P : Program) (w : World) :
    (results fn tmps).run P w = .ok (.tuple #[tmps.getD t undef, tmps.getD u undef, tmps.getD v undef, tmps.getD x undef]) w := by
  simp [results, h]
theorem NamesF.one' {F : ByteArray → Option Ent} {ts ts2 : List (List UInt8)} (h : NamesF F ts) (h2 : NamesF F ts2) : ts = ts2 := by
  obtain ⟨ss, n1, m1, rfl⟩ := h
  obtain ⟨ss2, n2, m2, rfl⟩ := h2
  exact mergeSort_of_perm ((List.perm_ext_iff_of_nodup n1 n2).2 fun x => by rw [m1, m2])
theorem own_lt {w : World} {base : Nat} {e : TypeId} {n : Nat} {v : Value} {xs : List Value} (h : w.ownsRow base e 1 v n xs) {g : Nat} (hg : v.ownBlock = some g) : g < w.heap.size := (World.ownsRow.lt h g hg).2
theorem Chg.own {S : Nat → Prop} {w w1 : World} {base : Nat} {e : TypeId} {n : Nat} {v : Value} {xs : List Value} (a : Chg S w w1) (h : w.ownsRow base e 1 v n xs) (hn : ∀ g, v.ownBlock = some g → ¬ S g) : w1.ownsRow base e 1 v n xs := by
  refine ⟨h.1, ?_⟩
  have hl := fun g (hg : v.ownBlock = some g) => own_lt h hg
  rcases h.2 with h1 | ⟨g, cap, cur, rfl, h0, hh, h1⟩
  · exact .inl h1
  · exact .inr ⟨g, cap, cur, rfl, h0, by rw [a.block g (hl g rfl) (hn g rfl)]; exact hh, h1⟩
theorem LAt.new (w : World) (db : Nat) : LAt (w.alloc (.cells #[.int .i64 0, .int .i64 0, .int .i64 0, .bool false, .pointer (some ⟨db, 0, none⟩)] 72)) w.heap.size db ⟨0, 0, 0, false⟩ :=
  Blk.new w 72 [.int .i64 0, .int .i64 0, .int .i64 0, .bool false, .pointer (some ⟨db, 0, none⟩)]
/-- What a log that was opened is: its numbers, its base, its records, the drive; or the error. -/
def OpenE (db mb n : Nat) (G : ByteArray → Option Nat) (d : Dk) (w : World) (e : Ending) (w' : World) : Prop :=
  ∃ ts c base recs, NamesF d.F ts ∧ c.first = begN d ((namesP ts logP).map nm) ∧ Lg (segT d) c base recs ∧
    (((rems d (tidyL c (namesP ts logP))).1 = 0 ∧ ∃ v G', e = .returned (.tuple #[.pointer (some ⟨w.heap.size, 0, none⟩), .string base, v, .int .i64 0]) ∧ w'.ownsRow 0 9 1 v recs.length (recs.map Value.string) ∧ NewBlk w v ∧ (∀ k, v.ownBlock = some k → k ≠ w.heap.size ∧ ¬ DS db mb G' k)
        ∧ WAt w' w.heap.size db mb n G' c (rems d (tidyL c (namesP ts logP))).2 ∧ Chg (DS db mb G) w w' ∧ ∀ s g, G' s = some g → (∃ t, G t = some g) ∨ w.heap.size ≤ g)
      ∨ ((rems d (tidyL c (namesP ts logP))).1 ≠ 0 ∧ e = .returned (.tuple #[.pointer none, .string ⟨#[]⟩, .slice none 0 0, .int .i64 (rems d (tidyL c (namesP ts logP))).1]) ∧ DEnd db mb G n (rems d (tidyL c (namesP ts logP))).2 w w'))
set_option maxRecDepth 100000 in
theorem Open_nil (w : World) : Calls Tryz.prog 15 #[.pointer none] w fun e w' => e = .returned (.tuple #[.pointer none, .string ⟨#[]⟩, .slice none 0 0, .int .i64 2]) ∧ w.grownBy w' none := by
  go_enter Tryz.func15, Tryz.ntmps15
  go_wp2
  refine bodyPost_ret (results_tmp4 rfl _ _ _) rfl ?_
  exact ⟨rfl, grow_refl _ _⟩
set_option maxRecDepth 100000 in
theorem Open_down (db mb n : Nat) (G : ByteArray → Option Nat) (d : Dk) (w : World) (h : DAt w db mb n G d) (hd : d.down = true) :
    Calls Tryz.prog 15 #[.pointer (some ⟨db, 0, none⟩)] w fun e w' => e = .returned (.tuple #[.pointer none, .string ⟨#[]⟩, .slice none 0 0, .int .i64 50]) ∧ w.grownBy w' none := by
  have HD := Lib.hid (Down_any db mb n G d w h)
  rw [hd] at HD
  clear h hd
  go_enter Tryz.func15, Tryz.ntmps15
  go_wp2_with fail
  refine HD.out.mono ?_
  rintro e w1 ⟨rfl, rfl⟩
  go_wp2
  refine bodyPost_ret (results_tmp4 rfl _ _ _) rfl ?_
  exact ⟨rfl, grow_refl _ _⟩
set_option maxRecDepth 100000 in
set_option maxHeartbeats 4000000 in
theorem Open_up (db mb n : Nat) (G : ByteArray → Option Nat) (d : Dk) (w : World) (h : DAt w db mb n G d) (B : Nat) (hv : Va B w) (hlo : ∀ i, DS db mb G i → B ≤ i) (hB : B ≤ w.heap.size) (hd : d.down = false) (hst : d.steps + n < 1000000) (hsz : ∀ s e, d.F s = some e → s.size ≤ 1000) :
    Calls Tryz.prog 15 #[.pointer (some ⟨db, 0, none⟩)] w (OpenE db mb n G d w) := by
  have HD := Lib.hid (Down_any db mb n G d w h)
  rw [hd] at HD
  have HB := Lib.hid hB
  have HL : Hid (∀ i, DS db mb G i → i < w.heap.size) := h.live
  obtain ⟨w1, hw1⟩ : ∃ w1, w1 = w.alloc (.cells #[.int .i64 0, .int .i64 0, .int .i64 0, .bool false, .pointer (some ⟨db, 0, none⟩)] 72) := ⟨_, rfl⟩
  have g1 : w.grownBy w1 none := by rw [hw1]; exact World.grownBy_alloc _ _ _
  have hz1 : w1.heap.size = w.heap.size + 1 := by rw [hw1]; simp
  have hW : WAt w1 w.heap.size db mb n G ⟨0, 0, 0, false⟩ d := ⟨by rw [hw1]; exact LAt.new w db, h.keep g1, fun hs => by have := h.live _ hs; omega⟩
  have hlo1 : Lo B w.heap.size db mb G := fun i hi => by
    rcases hi with rfl | hi
    · exact hB
    · exact hlo i hi
  have HFI := Lib.hid (find_any w.heap.size db mb n G d w1 hW B (hv.keep g1) hlo1 (by omega) hd hsz)
  have HTI := Lib.hid fun (c : Lc) (w2 : World) (h2 : WAt w2 w.heap.size db mb n G c d) (v2 : Va B w2) (b2 : B ≤ w2.heap.size) => tidy_any w.heap.size db mb n G c d w2 h2 B v2 hlo1 b2 hd hst hsz
  have HW := Lib.hid hW
  have HV : Hid (Va B w1) := hv.keep g1
  have G1 := Lib.hid g1
  have HZ := Lib.hid hz1
  obtain ⟨lb, hlb⟩ : ∃ lb, lb = w.heap.size := ⟨_, rfl⟩
  have HLB := Lib.hid hlb
  have HLOB : Hid (B ≤ lb) := by show B ≤ lb; omega
  clear h hv hlo hB hd hst hsz g1 hz1 hW hlo1
  go_enter Tryz.func15, Tryz.ntmps15
  go_wp2_with fail
  refine HD.out.mono ?_
  rintro e w0 ⟨rfl, rfl⟩
  go_wp2_with fail
  rw [← hw1, ← hlb]
  rw [← hlb] at HFI HTI HW
  clear hw1 hlb
  refine HFI.out.mono ?_
  rintro e w2 ⟨ts, c, base, recs, v, hN, hf, hlg, rfl, hown, hnb, hL, g2⟩
  have HN := Lib.hid hN
  have HF := Lib.hid hf
  have HLG := Lib.hid hlg
  have HOWN := Lib.hid hown
  have HNB := Lib.hid hnb
  have G2 := Lib.hid g2
  have W2 := Lib.hid (HW.out.own hL g2)
  have V2 := Lib.hid (HV.out.own g2 HLOB.out (by have := HZ.out; have := HB.out; omega))
  have HT2 := Lib.hid (HTI.out c w2 W2.out V2.out (by have := HZ.out; have := HB.out; have := G2.out.size; omega))
  clear hN hf hlg hown hnb hL g2
  go_wp2_with fail
  refine HT2.out.mono ?_
  rintro e w3 ⟨ts2, hN2, rfl, G3, h3, k3, f3⟩
  obtain rfl := NamesF.one' hN2 HN.out
  obtain ⟨P, hP⟩ : ∃ P, P = rems d (tidyL c (namesP ts2 logP)) := ⟨_, rfl⟩
  have HP := Lib.hid hP
  have H3 := Lib.hid h3
  have K3 := Lib.hid k3
  have F3 := Lib.hid f3
  rw [← hP]
  rw [← hP] at H3
  have C1 : Hid (Chg (DS db mb G) w w3) := by
    refine Chg.trans (T := fun i => i = lb ∨ DS db mb G i) ?_ K3.out (fun i hi hs => ?_)
    · refine Chg.trans (T := fun i => i = lb) (Chg.of_none G1.out) (Chg.of_row G2.out (fun i hi _ => by injection hi with hi; exact hi.symm)) (fun i hi hs => ?_)
      have := HLB.out
      omega
    · rcases hs with hs | hs
      · have := HLB.out
        omega
      · exact hs
  have F1 : Hid (∀ s g, G3 s = some g → (∃ t, G t = some g) ∨ w.heap.size ≤ g) := fun s g hg => by
    rcases F3.out s g hg with y | y
    · exact .inl y
    · exact .inr (by have := HZ.out; have := G2.out.size; omega)
  clear hN2 hP h3 k3 f3
  by_cases hz : P.1 = 0
  · have hzb : (P.1 == 0) = true := by simpa using hz
    have HZ0 := Lib.hid hz
    have O3 : Hid (w3.ownsRow 0 9 1 v recs.length (recs.map Value.string) ∧ ∀ k, v.ownBlock = some k → k ≠ lb ∧ ¬ DS db mb G3 k) := by
      have hk : ∀ k, v.ownBlock = some k → k < w2.heap.size ∧ w1.heap.size ≤ k := fun k hk => ⟨own_lt HOWN.out hk, HNB.out k hk⟩
      refine ⟨K3.out.own HOWN.out (fun k hk2 hs => ?_), fun k hk2 => ⟨?_, ?_⟩⟩
      · have := hk k hk2
        have := HZ.out
        have := HLB.out
        rcases hs with hs | hs
        · omega
        · have := HL.out k hs
          omega
      · have := hk k hk2
        have := HZ.out
        have := HLB.out
        omega
      · intro hs
        have := hk k hk2
        have := HZ.out
        rcases hs with hs | hs | ⟨s, hs⟩
        · have := HL.out k (.inl hs); omega
        · have := HL.out k (.inr (.inl hs)); omega
        · rcases F3.out s k hs with ⟨t, y⟩ | y
          · have := HL.out k (.inr (.inr ⟨t, y⟩)); omega
          · omega
    rw [hz]
    clear hz hzb
    go_wp2
    refine bodyPost_ret (results_tmp4 rfl _ _ _) rfl ?_
    rw [HLB.out] at H3 O3
    refine ⟨ts2, c, base, recs, HN.out, HF.out, HLG.out, .inl ⟨by rw [← HP.out]; exact HZ0.out, v, G3, ?_, O3.out.1, fun k hk => ?_, O3.out.2, ?_, C1.out, F1.out⟩⟩
    · rw [← HLB.out]; rfl
    · have := HNB.out k hk
      have := HZ.out
      omega
    · rw [← HP.out]; exact H3.out
  · have hzb : (P.1 == 0) = false := by simpa using hz
    have HZ0 := Lib.hid hz
    clear hz
    go_wp2
    refine bodyPost_ret (results_tmp4 rfl _ _ _) rfl ?_
    refine ⟨ts2, c, base, recs, HN.out, HF.out, HLG.out, .inr ⟨by rw [← HP.out]; exact HZ0.out, ?_, ?_⟩⟩
    · rw [← HP.out]; rfl
    · rw [← HP.out]
      exact ⟨G3, H3.out.dr, C1.out, F1.out⟩
theorem layX_size (s : ByteArray) (hs : s.size ≤ 524288) : (⟨(textsB [s]).toArray⟩ : ByteArray).size ≤ 600000 ∧ (layX s).size ≤ 600100 := by
  have ht : textsB [s] = numB (s.size : Int) ++ s.data.toList ++ [] := by unfold textsB; simp
  have hl2 := numB_len (n := (s.size : Int)) (by omega)
  have hl1 := numB_len (n := 1) (by omega)
  have h1 : (⟨(textsB [s]).toArray⟩ : ByteArray).size = (textsB [s]).length := bs_size _
  have h2 : (textsB [s]).length ≤ 524298 := by
    rw [ht, List.length_append, List.length_append, List.length_nil, len_bs]; omega
  refine ⟨by omega, ?_⟩
  have e3 : (⟨(textsB [s]).toArray⟩ : ByteArray).data.toList = textsB [s] := bs_list _
  unfold layX headW framesB
  rw [one_bs, e3]
  simp only [List.flatMap_cons, List.flatMap_nil, List.append_nil]
  have h3 : (bs (numB 1 ++ textsB [s])).size ≤ 524308 := by rw [bs_size, List.length_append]; omega
  show (bs (frB _)).size ≤ _
  rw [bs_size, frB_size]
  have := numB_len (n := ((bs (numB 1 ++ textsB [s])).size : Int)) (by omega)
  omega
theorem writeD_steps (d : Dk) (s x : ByteArray) : (writeD d s x).steps ≤ d.steps + 2 := by
  have h1 := steps_app d s x
  unfold writeD
  split
  · omega
  · unfold syncD
    split
    · have := wl_stepOfD_steps (appD d s x) s
      show (stepOfD (appD d s x) s).steps ≤ _
      omega
    · have := wl_stepOfD_steps (appD d s x) s
      omega
theorem room1 (s : ByteArray) : roomB [s] = s.size + 10 := by unfold roomB; simp
def LayE (lb db mb n : Nat) (G : ByteArray → Option Nat) (c : Lc) (d : Dk) (s : ByteArray) (w : World) (e : Ending) (w' : World) : Prop :=
  e = .returned (.int .i64 (layC c d s)) ∧ ∃ n', n' ≤ n + 1 ∧ WEnd lb db mb G n' (layL c d s) (layD c d s) w w'
set_option maxRecDepth 100000 in
set_option maxHeartbeats 8000000 in
theorem Lay_any (lb db mb n : Nat) (G : ByteArray → Option Nat) (c : Lc) (d : Dk) (B : Nat) (s : ByteArray) (w : World) (h : WAt w lb db mb n G c d) (hv : Va B w) (hlo : Lo B lb db mb G) (hB : B ≤ w.heap.size) (hc : LcOk c)
    (hs : s.size ≤ 524288) (hl : c.last < 999999999) (hst : d.steps + 3 + (c.last + 1 - c.first) < 1000000) (hn : n < 1000000) :
    Calls Tryz.prog 18 #[.pointer (some ⟨lb, 0, none⟩), .string s] w (LayE lb db mb n G c d s w) := by
  obtain ⟨hx1, hx2⟩ := layX_size s hs
  obtain ⟨X, hX⟩ : ∃ X, X = (⟨(textsB [s]).toArray⟩ : ByteArray) := ⟨_, rfl⟩
  obtain ⟨Y, hY⟩ : ∃ Y, Y = layX s := ⟨_, rfl⟩
  have hYX : Y = headW 1 X := by rw [hY, hX]; rfl
  rw [← hX] at hx1
  rw [← hY] at hx2
  have HT := Lib.hid fun (W : World) (v : Value) (hr : RowAt W v [Value.string s]) => show Calls Tryz.prog 45 #[v] W fun e w' => e = .returned (.string X) ∧ W.grownBy w' none by rw [hX]; exact Text_any v [s] W hr (by rw [room1]; omega)
  have HH := Lib.hid fun (W : World) (m : Mv W) => show Calls Tryz.prog 44 #[.int .i64 1, .string X] W fun e w' => e = .returned (.string Y) ∧ W.grownBy w' none by rw [hYX]; exact headOf_any 1 X W m (by omega) (by omega)
  have HWR := Lib.hid fun (W : World) (hw : WAt W lb db mb n G c d) (v2 : Va B W) (b2 : B ≤ W.heap.size) => write_any lb db mb n G c d (c.last + 1) Y W hw B v2 hlo b2 hc (by omega) (by omega) (by omega) (by omega) hn
  obtain ⟨WC, hWC⟩ : ∃ WC, WC = writeC d (nameW (c.last + 1)) Y := ⟨_, rfl⟩
  obtain ⟨WD, hWD⟩ : ∃ WD, WD = writeD d (nameW (c.last + 1)) Y := ⟨_, rfl⟩
  obtain ⟨WL, hWL⟩ : ∃ WL, WL = writeL c d (c.last + 1) Y := ⟨_, rfl⟩
  have hWDs : WD.steps ≤ d.steps + 2 := by rw [hWD]; exact writeD_steps _ _ _
  have HWL : Hid (WL = if WC = 0 then ⟨if c.first = 0 then c.last + 1 else c.first, c.last + 1, Y.size, false⟩ else c) := by
    show _ = _
    rw [hWL, hWC]
    unfold writeL
    split
    · unfold growC
      rw [if_neg (show ¬ c.last + 1 = c.last by omega), if_neg (show ¬ c.last + 1 = c.last by omega), Nat.zero_add]
    · rfl
  have HLC : Hid (layC c d s = if WC ≠ 0 then WC else (rems WD (segsOf c.first c.last)).1) := by show _ = _; rw [hWC, hWD, hY]; rfl
  have HLD : Hid (layD c d s = if WC ≠ 0 then WD else (rems WD (segsOf c.first c.last)).2) := by show _ = _; rw [hWC, hWD, hY]; rfl
  have HLL : Hid (layL c d s = if WC ≠ 0 then c else ⟨c.last + 1, c.last + 1, Y.size, false⟩) := by show _ = _; rw [hWC, hY]; rfl
  rw [← hWC, ← hWD, ← hWL] at HWR
  have h1 : ¬ (524288 : Int) < s.size := by omega
  have h9 : ((c.last : Int) == 999999999) = false := by
    have : ¬ (c.last : Int) = 999999999 := by omega
    simpa using this
  have hk1 : IntKind.i64.wrap ((c.last : Int) + 1) = ((c.last + 1 : Nat) : Int) := by rw [IntKind.wrap_i64]; omega
  have c0 := h.log.c0
  have c1 := h.log.c1
  have c2 := h.log.c2
  have c3 := h.log.c3
  have HK1 := Lib.hid hk1
  have H := Lib.hid h
  have HV := Lib.hid hv
  have HLO := Lib.hid hlo
  have HBB := Lib.hid hB
  have HC := Lib.hid hc
  have HST : Hid (WD.steps + (c.last + 1 - c.first) + 1 < 1000000) := by show _ < _; omega
  have HL9 := Lib.hid hl
  have HOB : Hid (Blk (w.alloc (.cells #[.int .i64 c.first, .int .i64 c.last, .int .i64 c.size, .bool c.torn] 70)) w.heap.size 70 [.int .i64 c.first, .int .i64 c.last, .int .i64 c.size, .bool c.torn]) := Blk.new w _ _
  clear hx1 hx2 hX hY hYX hWC hWD hWL hk1 h hv hlo hB hc hs hl hst hn hWDs
  go_enter Tryz.func18, Tryz.ntmps18
  go_wp2_with fail
  obtain ⟨wA, hwA⟩ : ∃ wA, wA = w.alloc (.cells #[.int .i64 c.first, .int .i64 c.last, .int .i64 c.size, .bool c.torn] 70) := ⟨_, rfl⟩
  have gA : w.grownBy wA none := by rw [hwA]; exact World.grownBy_alloc _ _ _
  rw [← hwA] at HOB ⊢
  have GA := Lib.hid gA
  have HSA : Hid (wA.heap.size = w.heap.size + 1) := by show _ = _; rw [hwA]; simp
  have HA := Lib.hid (H.out.keep gA)
  have VA := Lib.hid (HV.out.keep gA)
  clear hwA gA c0 c1 c2 c3
  refine wp_region_tails 8 _ _ (fun W => wA.grownBy W none) (fun W W' => W.grownBy W' none) (by simp only [List.take_succ_cons, List.take_zero]; exact rfl) (by simp only [List.drop_succ_cons, List.drop_zero]; exact rfl) (by kernel_rfl) (by kernel_rfl) (by kernel_rfl) (fun W => grow_refl W none) (grow_drawn (grow_refl _ _)) ?_
  iterate 5 (refine wpRel_det ?_; apply Exists.intro; refine ⟨fun W hI => ?_, ?_⟩; focus (have c1 : W.cell? ⟨w.heap.size, 1, none⟩ = some (.int .i64 c.last) := (HOB.out.keep hI).cell 1 (by simp); go_simp; first | exact ⟨rfl, grow_refl _ _⟩ | exact ⟨rfl, hI, grow_refl _ _⟩))
  refine wpRel_step (fun v W => RowAt W v [.string s]) (fun v w w' g h => h.kept g) (fun W hI => ?_) ?_
  · go_simp
    exact ⟨RowAt.lit W [.string s] _ 1 1 rfl, grow_none hI (World.grownBy_alloc _ _ _), World.grownBy_alloc _ _ _⟩
  refine wpRel_det ?_; apply Exists.intro; refine ⟨fun W hI => ?_, ?_⟩
  · go_simp
    intro v hv
    exact relOf (HT.out W v hv) hI
  refine wpRel_det ?_; apply Exists.intro; refine ⟨fun W hI => ?_, ?_⟩
  · go_simp
    exact relOf (HH.out W (VA.out.keep hI).mv) hI
  refine wpRel_nil ?_
  intro w3 hI3
  go_simp
  intro va hva
  have G3 := Lib.hid hI3
  have W3 := Lib.hid (HA.out.keep hI3)
  have V3 := Lib.hid (VA.out.keep hI3)
  have OB3 := Lib.hid (HOB.out.keep hI3)
  rw [HK1.out]
  clear hI3 hva
  go_wp2_with fail
  refine (HWR.out w3 W3.out V3.out (by have := HBB.out; have := HSA.out; have := G3.out.size; omega)).mono ?_
  rintro e w4 ⟨rfl, n', hn', hE⟩
  have HE := Lib.hid hE
  have HN' := Lib.hid hn'
  clear hE hn'
  by_cases hz : WC = 0
  · have HFIN : Hid (layC c d s = (rems WD (segsOf c.first c.last)).1 ∧ layD c d s = (rems WD (segsOf c.first c.last)).2 ∧ layL c d s = ⟨c.last + 1, c.last + 1, Y.size, false⟩) := by
      show _ ∧ _ ∧ _
      rw [HLC.out, HLD.out, HLL.out, if_neg (fun h => h hz), if_neg (fun h => h hz), if_neg (fun h => h hz)]; exact ⟨rfl, rfl, rfl⟩
    rw [hz]
    have HWL2 : Hid (WL = ⟨if c.first = 0 then c.last + 1 else c.first, c.last + 1, Y.size, false⟩) := by show _ = _; rw [HWL.out, if_pos hz]
    have V4 := Lib.hid (V3.out.over HLO.out (by have := HBB.out; have := HSA.out; have := G3.out.size; omega) HE.out)
    obtain ⟨G4, h4, k4, f4⟩ := HE.out
    have H4 := Lib.hid h4
    have K4 := Lib.hid k4
    have F4 := Lib.hid f4
    have hob : ¬ (w.heap.size = lb ∨ DS db mb G w.heap.size) := fun h => by
      rcases h with h | h
      · have := H.out.lt; omega
      · have := H.out.dr.live _ h; omega
    have OB4 := Lib.hid (k4.blk OB3.out hob)
    have hob4 : ¬ (w.heap.size = lb ∨ DS db mb G4 w.heap.size) := fun h => by
      rcases h with h | h | h | ⟨t, h⟩
      · exact hob (.inl h)
      · exact hob (.inr (.inl h))
      · exact hob (.inr (.inr (.inl h)))
      · rcases f4 t _ h with y | y
        · exact hob (.inr (.inr (.inr y)))
        · have := OB3.out.lt; omega
    have HOB4 := Lib.hid hob4
    have c14 := h4.log.c1
    have c04 := h4.log.c0
    have fr04 := h4.log.fr 0
    have cob0 : w4.cell? ⟨w.heap.size, 0, none⟩ = some (.int .i64 c.first) := OB4.out.cell 0 (by simp)
    rw [HWL2.out] at c14
    have L5 : Hid (LAt (w4.setCell ⟨lb, 0, none⟩ (.int .i64 ((c.last + 1 : Nat) : Int))) lb db ⟨c.last + 1, c.last + 1, Y.size, false⟩) := by
      have := h4.log
      rw [HWL2.out] at this
      exact this.s0 (c.last + 1)
    have W5 := Lib.hid (h4.own L5.out (grow_set _ _ _))
    have E5 : Hid (WEnd lb db mb G n' ⟨c.last + 1, c.last + 1, Y.size, false⟩ WD w3 (w4.setCell ⟨lb, 0, none⟩ (.int .i64 ((c.last + 1 : Nat) : Int)))) := WEnd.after k4 f4 (WEnd.own h4 L5.out (grow_set _ _ _))
    have V5 := Lib.hid (V4.out.own (grow_set w4 ⟨lb, 0, none⟩ (.int .i64 ((c.last + 1 : Nat) : Int))) (HLO.out lb (.inl rfl)) (by have := HBB.out; have := HSA.out; have := G3.out.size; have := k4.size; omega))
    have OB5 := Lib.hid (OB4.out.far (p := ⟨lb, 0, none⟩) (fun h => hob (.inl h)) (.int .i64 ((c.last + 1 : Nat) : Int)))
    have HBW : Hid (B ≤ w4.heap.size) := by show B ≤ _; have := HBB.out; have := HSA.out; have := G3.out.size; have := k4.size; omega
    have hc1 : ((c.last : Int) + 1) = ((c.last + 1 : Nat) : Int) := by omega
    have fob : w.heap.size ≠ lb := fun h => hob (.inl h)
    clear h4 k4 f4 hob hob4 hz h1 h9
    obtain ⟨k, hk⟩ : ∃ k, k = c.last + 1 := ⟨_, rfl⟩
    have HKK := Lib.hid hk
    rw [← hk] at c14 L5 W5 E5 V5 OB5 ⊢
    clear hk hc1
    go_wp2_with fail
    have LO4 : Hid (Lo B lb db mb G4) := by
      intro i hi
      rcases hi with rfl | rfl | rfl | ⟨t, h⟩
      · exact HLO.out _ (.inl rfl)
      · exact HLO.out _ (.inr (.inl rfl))
      · exact HLO.out _ (.inr (.inr (.inl rfl)))
      · rcases F4.out t i h with ⟨u, y⟩ | y
        · exact HLO.out _ (.inr (.inr (.inr ⟨u, y⟩)))
        · have := HBB.out; have := HSA.out; have := G3.out.size; omega
    have HSEG : Hid (c.first ≠ 0 → (segsOf c.first c.last).length = c.last + 1 - c.first) := segs_len
    have HEND : Hid (∀ (G6 : ByteArray → Option Nat) (w8 : World) (D : Dk), D = (rems WD (segsOf c.first c.last)).2 → WEnd lb db mb G4 n' ⟨k, k, Y.size, false⟩ D (w4.setCell ⟨lb, 0, none⟩ (.int .i64 (k : Int))) w8 → ∃ n'_1, n'_1 ≤ n + 1 ∧ WEnd lb db mb G n'_1 (layL c d s) (layD c d s) w w8) := by
      intro G6 w8 D hD h8
      refine ⟨n', HN'.out, ?_⟩
      rw [HFIN.out.2.1, HFIN.out.2.2, ← HKK.out, ← hD]
      refine WEnd.front H.out (grow_none GA.out G3.out) (WEnd.after K4.out F4.out ?_)
      obtain ⟨G7, y1, y2, y3⟩ := h8
      refine ⟨G7, y1, Chg.trans (T := fun i => i = lb ∨ DS db mb G4 i) (Chg.of_row (S := fun i => i = lb ∨ DS db mb G4 i) (grow_set w4 ⟨lb, 0, none⟩ (.int .i64 (k : Int))) (fun i hi _ => .inl (by injection hi with hi; exact hi.symm))) y2 (fun _ _ h => h), fun s g hg => ?_⟩
      rcases y3 s g hg with y | y
      · exact .inl y
      · exact .inr (by simpa using y)
    clear c04 cob0 fr04 c14
    go_loopw [7] (fun i wr => ∃ j m : Nat, m = c.first + j ∧ j ≤ (segsOf c.first c.last).length ∧ i = .int .i64 (m : Int) ∧ (rems WD ((segsOf c.first c.last).take j)).1 = 0 ∧ WEnd lb db mb G4 n' ⟨k, k, Y.size, false⟩ (rems WD ((segsOf c.first c.last).take j)).2 (w4.setCell ⟨lb, 0, none⟩ (.int .i64 (k : Int))) wr) (fun i _ => c.last + 1 - (intOf i).toNat)
    case atStart => exact ⟨0, c.first, rfl, Nat.zero_le _, rfl, rfl, WEnd.same W5.out (grow_refl _ _)⟩
    case round =>
      obtain ⟨j, m, hm, hj, rfl, hok, hE⟩ := hrel
      have HM := Lib.hid hm
      have V := Lib.hid (V5.out.over LO4.out (by have := HBW.out; simpa using this) hE)
      have HE6 := Lib.hid hE
      obtain ⟨G6, h6, k6, f6⟩ := hE
      have H6 := Lib.hid h6
      have K6 := Lib.hid k6
      have F6 := Lib.hid f6
      have OK := Lib.hid hok
      have OB6 := k6.blk OB5.out HOB4.out
      have cob1 : wr.cell? ⟨w.heap.size, 1, none⟩ = some (.int .i64 c.last) := OB6.cell 1 (by simp)
      have HJ := Lib.hid hj
      clear hok h6 k6 f6 hj
      by_cases h0 : c.first = 0
      · have hs0 : segsOf c.first c.last = [] := by unfold segsOf; rw [if_pos h0]
        have hj0 : j = 0 := by have := HJ.out; rw [hs0] at this; simpa using this
        subst hj0
        have HEN := Lib.hid (HEND.out G6 wr _ (by rw [hs0]; rfl) HE6.out)
        have HZ0 : Hid ((rems WD (segsOf c.first c.last)).1 = 0) := by show _ = _; rw [hs0]; rfl
        have i0 : ¬ (0 : Int) < (m : Int) := by omega
        clear hs0 h0 hm
        go_wp2
        go_ret
        unfold LayE
        refine ⟨?_, HEN.out⟩
        rw [HFIN.out.1, HZ0.out]; rfl
      · have hsl := HSEG.out h0
        have i0 : (0 : Int) < (m : Int) := by omega
        by_cases hlt : j < c.last + 1 - c.first
        · have i1 : (m : Int) ≤ c.last := by omega
          have HSN := Lib.hid (segs_take h0 hlt)
          rw [← HM.out] at HSN
          have hm9 : m ≤ 999999999 := by have := HL9.out; omega
          have hstep : (rems WD ((segsOf c.first c.last).take j)).2.steps + 1 < 1000000 := by
            have h1 := rems_steps WD ((segsOf c.first c.last).take j) (0, WD)
            rw [List.length_take] at h1
            have h3 := HST.out
            unfold rems
            simp only at h1
            omega
          obtain ⟨S1, hS1⟩ : ∃ S1, S1 = nameW m := ⟨_, rfl⟩
          have hss : S1.size ≤ 1000 := by rw [hS1]; exact Nat.le_trans (nameW_le (by omega)) (by omega)
          have HNM := Lib.hid fun (W : World) (nv : Nv W) => show Calls Tryz.prog 47 #[.int .i64 (m : Int)] W fun e w' => e = .returned (.string S1) ∧ W.grownBy w' none by rw [hS1]; exact nameOf_any m W (by omega) nv
          rw [← hS1] at HSN
          have HR := Lib.hid fun (W : World) (g : wr.grownBy W none) => Remove_w lb db mb n' G6 ⟨k, k, Y.size, false⟩ (rems WD ((segsOf c.first c.last).take j)).2 S1 W (H6.out.keep g) (by omega) (by omega)
          have HRS : Hid (rems WD ((segsOf c.first c.last).take (j + 1)) = (stepOfC (rems WD ((segsOf c.first c.last).take j)).2 S1, removeD (rems WD ((segsOf c.first c.last).take j)).2 S1)) := by
            show _ = _
            rw [HSN.out, rems_snoc]
            unfold remS
            rw [if_neg (fun h => h OK.out)]
          have HLT := Lib.hid hlt
          have HM9 := Lib.hid hm9
          have HH0 := Lib.hid h0
          have HSL := Lib.hid hsl
          have i9 : (m : Int) ≤ 999999999 := by omega
          clear hstep hS1 hss hlt hm9 h0 hsl hm
          go_wp2_with fail
          refine wp_region_tails 6 _ _ (fun W => wr.grownBy W none) (fun W W' => W.grownBy W' none) (by simp only [List.take_succ_cons, List.take_zero]; exact rfl) (by simp only [List.drop_succ_cons, List.drop_zero]; exact rfl) (by kernel_rfl) (by kernel_rfl) (by kernel_rfl) (fun W => grow_refl W none) (grow_drawn (grow_refl _ _)) ?_
          iterate 5 (refine wpRel_det ?_; apply Exists.intro; refine ⟨fun W hI => ?_, ?_⟩; focus (have c4 := LAt.c4 (H6.out.keep hI).log; go_simp; first | exact ⟨rfl, grow_refl _ _⟩ | exact ⟨rfl, hI, grow_refl _ _⟩))
          refine wpRel_det ?_; apply Exists.intro; refine ⟨fun W hI => ?_, ?_⟩
          · go_simp
            exact relOf (HNM.out W (V.out.keep hI).nv) hI
          refine wpRel_nil ?_
          intro w7 hI7
          go_simp
          have G7 := Lib.hid hI7
          clear hI7
          by_cases hr : stepOfC (rems WD ((segsOf c.first c.last).take j)).2 S1 = 0
          · have HRZ := Lib.hid hr
            rw [hr] at HR
            clear hr
            go_wp2_with fail
            refine (HR.out w7 G7.out).mono ?_
            rintro e w8 ⟨rfl, hE8⟩
            have E8 := Lib.hid hE8
            clear hE8
            go_wp2_with fail
            go_roundw
            case rel => exact ⟨j + 1, m + 1, by have := HM.out; omega, by have := HLT.out; have := HSL.out; omega, by go_num, by rw [HRS.out]; exact HRZ.out, by rw [HRS.out]; exact WEnd.after K6.out F6.out (WEnd.front H6.out G7.out E8.out)⟩
            case measure => have := HLT.out; have := HM.out; simp [intOf]; omega
          · have hrb : (stepOfC (rems WD ((segsOf c.first c.last).take j)).2 S1 == 0) = false := by simpa using hr
            have HTAKE : Hid (rems WD (segsOf c.first c.last) = rems WD ((segsOf c.first c.last).take (j + 1))) := by
              show _ = _
              conv => lhs; rw [← List.take_append_drop (j + 1) (segsOf c.first c.last)]
              exact rems_stop (by rw [HRS.out]; exact hr)
            obtain ⟨SC, hSC⟩ : ∃ SC, SC = stepOfC (rems WD ((segsOf c.first c.last).take j)).2 S1 := ⟨_, rfl⟩
            have HSC := Lib.hid hSC
            rw [← hSC] at HR hrb hr
            clear hSC
            go_wp2_with fail
            refine (HR.out w7 G7.out).mono ?_
            rintro e w8 ⟨rfl, hE8⟩
            have HEN := Lib.hid (HEND.out G6 w8 _ (by rw [HTAKE.out, HRS.out]) (WEnd.after K6.out F6.out (WEnd.front H6.out G7.out hE8)))
            clear hE8
            go_wp2_with fail
            go_ret
            unfold LayE
            refine ⟨?_, HEN.out⟩
            rw [HFIN.out.1, HTAKE.out, HRS.out, ← HSC.out]; rfl
        · have i1 : ¬ (m : Int) ≤ c.last := by omega
          have hjl : j = (segsOf c.first c.last).length := by have := HJ.out; omega
          have HT0 : Hid ((segsOf c.first c.last).take j = segsOf c.first c.last) := by show _ = _; rw [hjl, List.take_length]
          rw [HT0.out] at OK HE6
          have HEN := Lib.hid (HEND.out G6 wr _ rfl HE6.out)
          clear hlt hjl h0 hsl hm
          go_wp2
          go_ret
          unfold LayE
          refine ⟨?_, HEN.out⟩
          rw [HFIN.out.1, OK.out]; rfl
  · have hzb : (WC == 0) = false := by simpa using hz
    have HFIN : Hid (layC c d s = WC ∧ layD c d s = WD ∧ layL c d s = c) := by
      show _ ∧ _ ∧ _
      rw [HLC.out, HLD.out, HLL.out, if_pos hz, if_pos hz, if_pos hz]; exact ⟨rfl, rfl, rfl⟩
    have HWL2 : Hid (WL = c) := by show _ = _; rw [HWL.out, if_neg hz]
    rw [HWL2.out] at HE
    clear hz
    go_wp2
    go_ret
    unfold LayE
    rw [HFIN.out.1, HFIN.out.2.1, HFIN.out.2.2]
    exact ⟨rfl, n', HN'.out, WEnd.front H.out (grow_none GA.out G3.out) HE.out⟩
end Go.Proofs.YtphljjgjpkdpmaaGreatDoor
