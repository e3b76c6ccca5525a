/- Several texts in one: DkG DkH DkRa DkOa DkI. -/
import Derived.Test.YtphljjgjpkdpmaaGreatDoorK15
import Derived.Test.YtphljjgjpkdpmaaGreatDoorK4
import Derived.Maps.RangeWalk
import Derived.Sort.KeysCollected
import Derived.Sort.OwnSorted
/- Stage 5: the names of all files, rising. -/
namespace Go.Proofs.YtphljjgjpkdpmaaGreatDoor
open Go.RowKit Go.Maps Go.Sort
set_option linter.unusedVariables false
theorem Tryz.info05_string : (Tryz.prog.info? 9).map (fun i => (i.zero, i.size, i.bytes)) = some (some (.string ⟨#[]⟩), 1, 16) := by kernel_rfl
theorem Rp_inv' {v : Value} {y : DataW Unit × List MemPlace} (h : Rp v = some y) : ∃ c, v = Pp c := by
  unfold Rp at h
  split at h
  · exact ⟨some _, rfl⟩
  · exact ⟨none, rfl⟩
  · cases h
/-- The names, rising. -/
def Names (G : ByteArray → Option Nat) (ts : List (List UInt8)) : Prop := ∃ ss : List (List UInt8), ss.Nodup ∧ (∀ x, x ∈ ss ↔ (G ⟨x.toArray⟩).isSome = true) ∧ (∀ x ∈ ss, x.length ≤ maxLen) ∧ ts = ss.mergeSort leB
section
variable {G : ByteArray → Option Nat} {ts : List (List UInt8)}
theorem Names.nodup (h : Names G ts) : ts.Nodup := by
  obtain ⟨ss, h1, _, _, rfl⟩ := h
  exact (List.mergeSort_perm ss leB).nodup_iff.2 h1
theorem Names.mem (h : Names G ts) (x : List UInt8) : x ∈ ts ↔ (G ⟨x.toArray⟩).isSome = true := by
  obtain ⟨ss, _, h2, _, rfl⟩ := h
  rw [(List.mergeSort_perm ss leB).mem_iff]; exact h2 x
theorem Names.le (h : Names G ts) : ∀ x ∈ ts, x.length ≤ maxLen := by
  obtain ⟨ss, _, _, h3, rfl⟩ := h
  exact fun x hx => h3 x ((List.mergeSort_perm ss leB).mem_iff.1 hx)
end
set_option maxRecDepth 100000 in
set_option maxHeartbeats 1000000 in
theorem all_any (b mb n : Nat) (G : ByteArray → Option Nat) (d : Dk) (w : World) (h : DAt w b mb n G d) :
    Calls Tryz.prog 48 #[.pointer (some ⟨b, 0, none⟩)] w fun e w' => ∃ v ts, e = .returned v ∧ Names G ts ∧ ts.length ≤ n ∧ w'.ownsRow w.heap.size 9 1 v ts.length (ts.map encStr) ∧ w.grownBy w' none := by
  obtain ⟨i0, hi, hz0, hz1, hz2⟩ := info_parts Tryz.info05_string
  have c0 := h.c0
  have hn := h.n1
  have H := Lib.hid h
  obtain ⟨D0, hown, hD1, hD2⟩ := h.map
  have HD2 := Lib.hid hD2
  have hsz := hown.size_le
  have hmx : Maps.size D0 ≤ 1000000 := Nat.le_trans hsz hn
  have HM := Lib.hid hmx
  have HS := Lib.hid hsz
  have hbl := hown.lt
  have HBL := Lib.hid hbl
  clear h hD1 hD2 hn hsz hmx hbl
  go_enter Tryz.func48, Tryz.ntmps48
  go_wp2_with (first
    | (at_len; refine wpList_len_own _ rfl _ 56 rfl 9 85 Tryz.underlying56 Rp mb n _ rfl hown ?_)
    | (at_make; refine wpList_make_own _ rfl _ _ 34 rfl w.heap.size 9 i0 (.string ⟨#[]⟩) 1 Tryz.underlying34 hi hz0 hz1 _ _ _ (Maps.size D0) rfl rfl rfl (by have := HM.out; rw [hz2]; omega) (by have := HM.out; show _ ≤ 2^63-1; omega) (Nat.le_refl _) ?_
       intro w1 hrow1 hg1
       have HG1 := Lib.hid hg1
       have HRow1 := Lib.hid hrow1
       have c0 := (H.out.keep HG1.out).c0
       clear hg1 hrow1)
    | (at_range; refine wpList_range_own _ rfl _ 56 rfl 9 85 strKeyed Tryz.underlying56 Rp mb n _ rfl (hown.kept HG1.out (by simp)) ?_; intro w0 hrg0 hg0 hs0))
  clear hs0
  go_frame
  go_loopw [3] (fun v wr => ∃ (left : Lit → Bool) (cnt : Nat) (ss : List (List UInt8)), wr.ranges Tryz.prog 9 Rp mb w1.heap.size n D0 left cnt ∧ ss.length + cnt ≤ Maps.size D0 ∧
      wr.ownsRow w.heap.size 9 1 v ss.length (ss.map encStr) ∧ v ≠ .slice none 0 0 ∧ Collected D0 left ss ∧ w.grownBy wr none)
    (fun _ wr => wr.rangeLeft mb w1.heap.size)
  case atStart =>
    exact ⟨_, _, [], hrg0, by simp, HRow1.out.kept hg0 (Or.inr (by simp [Value.ownBlock])), by simp, Collected.start D0, grow_none HG1.out hg0⟩
  case round =>
    obtain ⟨left, cnt, ss, hrg, hcs, hrow, hnn, hC, hnx⟩ := hrel
    have HRG := Lib.hid hrg
    have HC := Lib.hid hC
    have HNX := Lib.hid hnx
    have HROW := Lib.hid hrow
    have HCS := Lib.hid hcs
    clear hC hnx hcs
    go_wp2_with (at_next; refine wpList_next_ranges _ rfl _ rfl 9 strKeyed Rp encStr Pp (fun key kl hk => by obtain ⟨x, hx, _⟩ := Maps.keyOf_str Tryz.underlying9 hk; exact ⟨x, hx⟩) (fun v y hv => Rp_inv' hv) mb w1.heap.size n _ _ _ rfl hrg ?_ ?_)
    · intro hc0 hl0
      rcases HROW.out.2 with ⟨hnil, _⟩ | ⟨g, cap, cur, rfl, hbase, hb, h1, h2, h3, h4⟩
      · exact absurd hnil hnn
      have hH : Holds encStr wr g 0 ss.toArray := holds_of_block hb (by simpa using h4)
      have hgl : g < wr.heap.size := (Array.getElem?_eq_some_iff.1 hb).1
      have HF : Hid (Names G (ss.mergeSort leB) ∧ (ss.mergeSort leB).length = ss.length) := by
        refine ⟨⟨ss, HC.out.1, fun x => ?_, fun x hx => strKeys_le HRG.out.owns Tryz.underlying9 x ((HC.out.perm HRG.out.owns strKeyed Tryz.underlying9 hl0).mem_iff.1 hx), rfl⟩, List.length_mergeSort _⟩
        rw [HC.out.2 x, hl0, ← HD2.out ⟨x.toArray⟩]
        simp
      have HL : Hid (ss.length ≤ n ∧ w.heap.size ≤ g) := ⟨by have := HS.out; have := HCS.out; omega, hbase⟩
      have SO := Lib.hid (Tryz.slices_Sort_string g 0 cap ss wr hH hgl (by have := HCS.out; have := HM.out; omega))
      have HB := Lib.hid (show _ ∧ _ ∧ _ ∧ _ from ⟨hb, h1, h2, h3⟩)
      clear hH hgl hb h1 h2 h3 h4 hbase hrow HRG hrg hl0 hc0
      go_wp2_with fail
      refine SO.out.mono ?_
      rintro e w' ⟨rfl, nn, os, rfl⟩
      go_wp2
      go_ret
      refine ⟨_, ss.mergeSort leB, rfl, HF.out.1, by rw [HF.out.2]; exact HL.out.1, ?_, grow_new HNX.out HL.out.2 (grownBy_sorted _)⟩
      rw [HF.out.2]
      exact ownsRow_sorted HF.out.2 HL.out.2 HB.out.1 HB.out.2.1 HB.out.2.2.1 HB.out.2.2.2
    · intro x c kl yd yp w2 cnt2 hkey hlk hv hat hrg2 hlt hg2 hs2 hen
      obtain ⟨x', ex, rfl, _⟩ := Maps.keyOf_str Tryz.underlying9 hkey
      obtain rfl : x = x' := encStr_inj ex
      have hrow2 := HROW.out.kept hg2 (Or.inr (row_ne_iter HROW.out HRG.out).symm)
      have HR2 := Lib.hid hrow2
      have HRG2 := Lib.hid hrg2
      have HG2 := Lib.hid hg2
      have HLT := Lib.hid hlt
      have HAT := Lib.hid (show _ ∧ _ from ⟨hlk, hat⟩)
      clear hs2 hrow hrow2 hrg2 hg2 hlt hlk hat hrg hkey hv
      go_wp2_with (at_builtin; refine wpList_append_own _ rfl _ _ 34 rfl w.heap.size 9 i0 (.string ⟨#[]⟩) 1 16 Tryz.underlying34 hi hz0 hz1 hz2 rfl (by decide) _ _ _ rfl (HR2.out.alloc _) ⟨w2.heap.size, 0, none⟩ 1 1 [encStr x] rfl rfl (cell_one_new _ _ _) (by simp [Value.oneCell', encStr]) (by have := HCS.out; have := HM.out; have := HLT.out; unfold maxLen; omega) (by have := HCS.out; have := HM.out; have := HLT.out; omega) (by have := HNX.out.size; have := HG2.out.size; simp; omega) ?_
                   intro v' w3 hown' hg3 hnil3)
      have hrg3 := (HRG2.out.alloc _).kept hg3 (row_ne_low HR2.out HBL.out) (row_ne_iter HR2.out HRG2.out)
      have HRG3 := Lib.hid hrg3
      have HO := Lib.hid hown'
      have HN := Lib.hid hnil3
      have HGF : Hid (w.grownBy w3 none) := grow_newblk (grow_then_none (grow_new HNX.out (by exact HG1.out.size) HG2.out) (World.grownBy_alloc _ _ none)) (fun j hj => (HR2.out.lt j hj).1) hg3
      clear hrg3 hown' hnil3 hg3
      go_roundw
      case rel =>
        refine ⟨_, cnt2, ss ++ [x], HRG3.out, by have := HCS.out; have := HLT.out; simp; omega, by simpa using HO.out, fun hv' => by have := (HN.out.1 hv').2; omega, HC.out.step HAT.out.1 HAT.out.2, HGF.out⟩
      case measure => rw [HRG3.out.left_eq, HRG.out.left_eq]; exact HLT.out
end Go.Proofs.YtphljjgjpkdpmaaGreatDoor
/- Stage 5: a loss of power. -/
namespace Go.Proofs.YtphljjgjpkdpmaaGreatDoor
open Go.RowKit Go.Maps Go.Sort
set_option linter.unusedVariables false
/-- The slice reads as the list; its block is none of S. -/
def RowN (S : Nat → Prop) (w : World) (v : Value) (xs : List Value) : Prop :=
  ∃ a cap, v = .slice a xs.length cap ∧ xs.length ≤ cap ∧ (xs = [] ∨ ∃ b off, a = some ⟨b, off, none⟩ ∧ b < w.heap.size ∧ ¬ S b ∧ ∀ j, j < xs.length → w.cell? ⟨b, off + j, none⟩ = some (xs.getD j undef))
theorem RowN.chg {S : Nat → Prop} {w w' : World} {v : Value} {xs : List Value} (h : RowN S w v xs) (g : Chg S w w') : RowN S w' v xs := by
  obtain ⟨a, cap, rfl, hc, h⟩ := h
  refine ⟨a, cap, rfl, hc, ?_⟩
  rcases h with h | ⟨b, off, rfl, hb, hn, h⟩
  · exact .inl h
  · exact .inr ⟨b, off, rfl, Nat.lt_of_lt_of_le hb g.size, hn, fun j hj => by rw [← h j hj]; exact World.cell?_of_block (g.block b hb hn)⟩
theorem RowN.nil (S : Nat → Prop) (w : World) (a : Option Addr) (c : Nat) : RowN S w (.slice a 0 c) [] := ⟨a, c, rfl, Nat.zero_le _, .inl rfl⟩
theorem RowN.of_own {S : Nat → Prop} {w : World} {e : TypeId} {base : Nat} {v : Value} {n : Nat} {xs : List Value} (h : w.ownsRow base e 1 v n xs) (hS : ∀ i, base ≤ i → ¬ S i) : RowN S w v xs := by
  have hl : xs.length = n := by have := h.1; omega
  rcases h.2 with ⟨rfl, rfl⟩ | ⟨g, cap, cur, rfl, hb, hh, h1, h2, h3, h4⟩
  · have : xs = [] := List.eq_nil_of_length_eq_zero hl
    subst this
    exact ⟨none, 0, rfl, Nat.zero_le _, .inl rfl⟩
  · subst hl
    refine ⟨_, cap, rfl, h1, .inr ⟨g, 0, rfl, (Array.getElem?_eq_some_iff.1 hh).1, hS g hb, fun j hj => ?_⟩⟩
    have := h.cells (g := g) rfl j (xs.getD j undef) (by simp [List.getD, List.getElem?_eq_getElem hj])
    have hadd : (⟨g, 0, none⟩ : Addr).add j = ⟨g, j, none⟩ := by unfold Addr.add; split <;> simp_all
    rw [hadd] at this
    rw [Nat.zero_add]
    exact this
abbrev nm (x : List UInt8) : ByteArray := ⟨x.toArray⟩
/-- A file at a loss of power. -/
def crS (p : (ByteArray → Option Ent) × List Int) (s : ByteArray) : (ByteArray → Option Ent) × List Int :=
  match p.1 s with
  | none => p
  | some e =>
    (putE p.1 s (if e.s = false ∧ (settleE e (if e.w.size = 0 then 0 else p.2.headD 0)).l.size = 0 then none else some { settleE e (if e.w.size = 0 then 0 else p.2.headD 0) with s := true }), if e.w.size = 0 then p.2 else p.2.tail)
def crK (F : ByteArray → Option Ent) (ks : List Int) (ts : List (List UInt8)) (k : Nat) : (ByteArray → Option Ent) × List Int := (ts.take k).foldl (fun p x => crS p (nm x)) (F, ks)
theorem crK_succ (F : ByteArray → Option Ent) (ks : List Int) (ts : List (List UInt8)) (k : Nat) (h : k < ts.length) : crK F ks ts (k + 1) = crS (crK F ks ts k) (nm ts[k]) := by
  unfold crK
  rw [List.take_succ_eq_append_getElem h, List.foldl_append]; rfl
theorem nm_inj {x y : List UInt8} (h : nm x = nm y) : x = y := by
  have := congrArg (fun z : ByteArray => z.data.toList) h
  simpa [nm] using this
theorem crS_other (p : (ByteArray → Option Ent) × List Int) (s t : ByteArray) (h : t ≠ s) : (crS p s).1 t = p.1 t := by
  unfold crS
  split
  · rfl
  · show putE _ _ _ t = _
    unfold putE; rw [if_neg h]
theorem crK_other (F : ByteArray → Option Ent) (ks : List Int) (ts : List (List UInt8)) : ∀ k, k ≤ ts.length → ∀ s : ByteArray, (∀ j (h : j < ts.length), j < k → s ≠ nm ts[j]) → (crK F ks ts k).1 s = F s
  | 0, _, s, _ => rfl
  | k + 1, hk, s, h => by
    rw [crK_succ F ks ts k (by omega), crS_other _ _ _ (h k (by omega) (by omega))]
    exact crK_other F ks ts k (by omega) s (fun j hj hl => h j hj (by omega))
theorem crK_here (F : ByteArray → Option Ent) (ks : List Int) (ts : List (List UInt8)) (hn : ts.Nodup) (k : Nat) (hk : k < ts.length) : (crK F ks ts k).1 (nm ts[k]) = F (nm ts[k]) :=
  crK_other F ks ts k (by omega) _ (fun j hj hl e => by
    have := (List.nodup_iff_pairwise_ne.1 hn)
    rw [List.pairwise_iff_getElem] at this
    exact this j k hj hk hl (nm_inj e).symm)
section
variable {w w2 w3 : World} {b mb n : Nat} {G : ByteArray → Option Nat} {d : Dk}
theorem DEnd.crDel (h : DAt w b mb n G d) (s : ByteArray) (g : Nat) (hg : G s = some g) (e : Ent) (hb : FB w2 g e) (hs : e.sz ≤ 1048576) (g2 : w.grownBy w2 (some g))
    (hm : MapG w3 mb n (putG G s none)) (g3 : w2.grownBy w3 (some mb)) (v : Value) : DEnd b mb G n { d with F := putE d.F s none } w (w3.setCell ⟨g, 2, none⟩ v) := by
  have h2 := h.file s g hg e hb hs g2
  have h3 := h2.mapDel s hm g3
  have e1 : putE (putE d.F s (some e)) s none = putE d.F s none := by
    funext x; unfold putE; split <;> rfl
  have h3' : DAt w3 b mb n (putG G s none) { d with F := putE d.F s none } := by rw [← e1]; exact h3
  have c : Chg (fun i => i = g) w3 (w3.setCell ⟨g, 2, none⟩ v) := Chg.of_row (grow_set w3 ⟨g, 2, none⟩ v) (fun i hi _ => by injection hi with hi; exact hi.symm)
  have hf := h.far s g hg
  refine ⟨putG G s none, h3'.chg c (fun i hi hx => ?_), ?_, fun t x hx => .inl ⟨t, (putG_old s t x hx).2⟩⟩
  · subst hx
    rcases hi with y | y | ⟨t, y⟩
    · exact hf.1 y
    · exact hf.2 y
    · have := putG_old s t _ y
      exact this.1 (h.inj t s _ this.2 hg)
  · refine Chg.trans (T := DS b mb G) (Chg.trans (T := DS b mb G) (Chg.of_row g2 (fun i hi _ => ?_)) (Chg.of_row g3 (fun i hi _ => ?_)) (fun _ _ x => x)) (Chg.of_row (grow_set w3 ⟨g, 2, none⟩ v) (fun i hi _ => ?_)) (fun _ _ x => x)
    · injection hi with hi; subst hi; exact .inr (.inr ⟨s, hg⟩)
    · injection hi with hi; exact .inr (.inl hi.symm)
    · injection hi with hi; subst hi; exact .inr (.inr ⟨s, hg⟩)
end
end Go.Proofs.YtphljjgjpkdpmaaGreatDoor
/- Stage 5: Names, without what speaks of redoubtlaw05. -/
namespace Go.Proofs.YtphljjgjpkdpmaaGreatDoor
open Go.RowKit Go.Maps Go.Sort
set_option linter.unusedVariables false
def namesP (ts : List (List UInt8)) (p : ByteArray) : List (List UInt8) := ts.filter (fun x => Lib.hasPrefix x p.data.toList)
def NamesE (G : ByteArray → Option Nat) (n : Nat) (d : Dk) (p : ByteArray) (w : World) (e : Ending) (w' : World) : Prop :=
  ∃ v l, e = .returned v ∧ ((d.down = true ∧ l = []) ∨ (d.down = false ∧ ∃ ts, Names G ts ∧ l = namesP ts p)) ∧ l.length ≤ n ∧ w'.ownsRow 0 9 1 v l.length (l.map encStr) ∧ NewBlk w v ∧ w.grownBy w' none
set_option maxRecDepth 100000 in
set_option maxHeartbeats 2000000 in
theorem Names_any (b mb n : Nat) (G : ByteArray → Option Nat) (d : Dk) (p : ByteArray) (w : World) (h : DAt w b mb n G d) :
    Calls Tryz.prog 25 #[.pointer (some ⟨b, 0, none⟩), .string p] w (NamesE G n d p w) := by
  obtain ⟨i0, hi, hz0, hz1, hz2⟩ := info_parts Tryz.info05_string
  have c3 := h.c3
  have H := Lib.hid h
  have HN1 := Lib.hid h.n1
  clear h
  unfold NamesE
  cases hd : d.down
  · rw [hd] at c3
    clear hd
    go_enter Tryz.func25, Tryz.ntmps25
    go_wp2_with fail
    refine (all_any b mb n G d w H.out).mono ?_
    rintro e w1 ⟨vl, ts, rfl, hN, hln, hown, g1⟩
    have HN := Lib.hid hN
    have HLN := Lib.hid hln
    have HG1 := Lib.hid g1
    have hL := RowN.of_own (S := DS b mb G) hown (fun i hi hs => by have := H.out.live i hs; omega)
    have hlen : (ts.length : Int) ≤ 1000000 := by have := HN1.out; omega
    obtain ⟨al, cl, rfl, hcl, hcells⟩ := hL
    have HCELL := Lib.hid hcells
    rw [List.length_map]
    clear hN hln g1 hown hcl hcells
    go_wp2
    go_loopw [5, 19] (fun v i wr => ∃ k : Nat, k ≤ ts.length ∧ i = .int .i64 k ∧ (namesP (ts.take k) p).length ≤ k ∧ wr.ownsRow 0 9 1 v (namesP (ts.take k) p).length ((namesP (ts.take k) p).map encStr) ∧ NewBlk w1 v ∧ w1.grownBy wr none) (fun _ i _ => ts.length - (intOf i).toNat)
    case atStart => exact ⟨0, Nat.zero_le _, rfl, Nat.le_refl _, ⟨rfl, .inl ⟨rfl, rfl⟩⟩, newblk_nil _, grow_refl _ _⟩
    case round =>
      obtain ⟨k, hk, rfl, hfl, hrow, hnb, hg⟩ := hrel
      by_cases hlt : k < ts.length
      · obtain ⟨s, hs⟩ : ∃ s, s = nm ts[k] := ⟨_, rfl⟩
        have HK := Lib.hid hlt
        have i1 : (k : Int) < ts.length := by omega
        have i0' : (0 : Int) ≤ k := by omega
        obtain ⟨bl, ol, rfl, hbl, hcl⟩ : ∃ bl ol, al = some ⟨bl, ol, none⟩ ∧ bl < w1.heap.size ∧ w1.cell? ⟨bl, ol + k, none⟩ = some (.string s) := by
          rcases HCELL.out with y | ⟨bl, ol, y1, y2, y3, y4⟩
          · have : ts.length = 0 := by have := congrArg List.length y; simpa using this
            omega
          · refine ⟨bl, ol, y1, y2, ?_⟩
            rw [y4 k (by simpa using hlt), hs]
            simp [List.getD, List.getElem?_eq_getElem hlt]
        have cl1 : wr.cell? ⟨bl, ol + k, none⟩ = some (.string s) := by rw [← hcl]; exact World.cell?_of_block (hg.block bl hbl (by simp))
        have HST : Hid (namesP (ts.take (k + 1)) p = namesP (ts.take k) p ++ (if Lib.hasPrefix s.data.toList p.data.toList then [ts[k]] else [])) := by
          show _ = _
          unfold namesP
          rw [List.take_succ_eq_append_getElem hlt, List.filter_append, hs]
          congr 1
          rw [List.filter_cons, List.filter_nil]
          rfl
        have HX := Lib.hid (show s = nm ts[k] from hs)
        have HROW := Lib.hid hrow
        have HNB := Lib.hid hnb
        have HG := Lib.hid hg
        have HFL := Lib.hid hfl
        clear hk hfl hrow hnb hg hs hcl hlt
        go_wp2_with fail
        refine (Tryz.strings_HasPrefix s p wr).mono ?_
        rintro e w2 ⟨rfl, rfl⟩
        cases hp : Lib.hasPrefix s.data.toList p.data.toList
        · have HS2 : Hid (namesP (ts.take (k + 1)) p = namesP (ts.take k) p) := by show _ = _; rw [HST.out, hp]; simp
          clear hp
          go_wp2_with fail
          go_roundw
          case rel => exact ⟨k + 1, by have := HK.out; omega, by go_num, by rw [HS2.out]; have := HFL.out; omega, by rw [HS2.out]; exact HROW.out, HNB.out, HG.out⟩
          case measure => have := HK.out; simp [intOf]; omega
        · have HS2 : Hid (namesP (ts.take (k + 1)) p = namesP (ts.take k) p ++ [ts[k]'HK.out]) := by show _ = _; rw [HST.out, hp]; rfl
          clear hp
          go_wp2_with (at_builtin; refine wpList_append_row _ rfl _ _ 34 rfl 9 i0 (.string ⟨#[]⟩) 16 Tryz.underlying34 hi hz0 hz1 hz2 rfl _ (namesP (ts.take k) p).length ((namesP (ts.take k) p).map encStr) rfl (HROW.out.alloc _) _ [Value.string s] rfl (RowAt.lit w2 [Value.string s] _ _ _ rfl) (by intro u hu; simp at hu; subst hu; rfl) (by have := HFL.out; have := HK.out; have := HLN.out; have := HN1.out; show _ + 1 ≤ 2^63-1; omega) (by have := HFL.out; have := HK.out; have := HLN.out; have := HN1.out; show (_ + 1) * 16 ≤ _; omega) ?_)
          intro v8 w8 o8 g8 m8
          have NB8 := Lib.hid (HNB.out.moved (by have := HG.out.size; simp; omega) m8)
          have G8 := Lib.hid (grow_newblk (grow_then_none HG.out (World.grownBy_alloc _ _ none)) HNB.out g8)
          have O8 : Hid (w8.ownsRow 0 9 1 v8 (namesP (ts.take (k + 1)) p).length ((namesP (ts.take (k + 1)) p).map encStr)) := by
            show World.ownsRow _ _ _ _ _ _ _
            rw [HS2.out, List.length_append, List.map_append]
            have := o8
            rw [HX.out] at this
            exact this
          clear o8 g8 m8
          go_wp2_with fail
          go_roundw
          case rel => exact ⟨k + 1, by have := HK.out; omega, by go_num, by rw [HS2.out, List.length_append]; have := HFL.out; simp; omega, O8.out, NB8.out, G8.out⟩
          case measure => have := HK.out; simp [intOf]; omega
      · obtain rfl : k = ts.length := by omega
        have HROW := Lib.hid hrow
        rw [List.take_length] at hrow hfl
        have hfin := Lib.hid (show _ ∧ _ ∧ _ ∧ _ from ⟨hrow, hfl, hnb, hg⟩)
        clear hrow hfl hnb hg hlt hk HROW
        go_wp2_with fail
        go_ret
        refine ⟨_, namesP ts p, rfl, .inr ⟨by simp, ts, HN.out, rfl⟩, by have := hfin.out.2.1; have := HLN.out; omega, hfin.out.1, fun j hj => ?_, grow_none HG1.out hfin.out.2.2.2⟩
        have := hfin.out.2.2.1 j hj
        have := HG1.out.size
        omega
  · rw [hd] at c3
    clear hd
    go_enter Tryz.func25, Tryz.ntmps25
    go_wp2_with fail
    go_ret
    exact ⟨_, [], rfl, .inl ⟨by simp, rfl⟩, Nat.zero_le _, ⟨rfl, .inl ⟨rfl, rfl⟩⟩, newblk_nil _, grow_refl _ _⟩
end Go.Proofs.YtphljjgjpkdpmaaGreatDoor
/- Stage 5: a drive's names as its files tell them, without what speaks of redoubtlaw05. -/
namespace Go.Proofs.YtphljjgjpkdpmaaGreatDoor
open Go.RowKit Go.Maps Go.Sort
set_option linter.unusedVariables false
theorem Names.of {w : World} {b mb n : Nat} {G : ByteArray → Option Nat} {d : Dk} {ts : List (List UInt8)} (h : DAt w b mb n G d) (hN : Names G ts) (x : List UInt8) : x ∈ ts ↔ (d.F (nm x)).isSome = true := by
  rw [hN.mem x]
  cases hg : G (nm x) with
  | none => rw [h.non _ hg]; simp
  | some g => obtain ⟨e, he, _⟩ := h.ent _ g hg; rw [he]; simp
def NamesF (F : ByteArray → Option Ent) (ts : List (List UInt8)) : Prop := ∃ ss : List (List UInt8), ss.Nodup ∧ (∀ x, x ∈ ss ↔ (F (nm x)).isSome = true) ∧ ts = ss.mergeSort leB
theorem Names.toF {w : World} {b mb n : Nat} {G : ByteArray → Option Nat} {d : Dk} {ts : List (List UInt8)} (h : DAt w b mb n G d) (hN : Names G ts) : NamesF d.F ts := by
  obtain ⟨ss, h1, h2, h3, rfl⟩ := hN
  refine ⟨ss, h1, fun x => ?_, rfl⟩
  have : Names G (ss.mergeSort leB) := ⟨ss, h1, h2, h3, rfl⟩
  rw [← Names.of h this x]
  exact (List.mergeSort_perm ss leB).mem_iff.symm
theorem NamesF.mem {F : ByteArray → Option Ent} {ts : List (List UInt8)} (h : NamesF F ts) (x : List UInt8) : x ∈ ts ↔ (F (nm x)).isSome = true := by
  obtain ⟨ss, h1, h2, rfl⟩ := h
  rw [(List.mergeSort_perm ss leB).mem_iff]; exact h2 x
theorem NamesF.nodup {F : ByteArray → Option Ent} {ts : List (List UInt8)} (h : NamesF F ts) : ts.Nodup := by
  obtain ⟨ss, h1, _, rfl⟩ := h
  exact (List.mergeSort_perm ss leB).nodup_iff.2 h1
end Go.Proofs.YtphljjgjpkdpmaaGreatDoor
/- Stage 5: Crash. -/
namespace Go.Proofs.YtphljjgjpkdpmaaGreatDoor
open Go.RowKit Go.Maps Go.Sort
set_option linter.unusedVariables false
abbrev ints (l : List Int) : List Value := l.map (Value.int .i64)
theorem RowN.int {S : Nat → Prop} {w : World} {v : Value} {l : List Int} (h : RowN S w v (ints l)) : ∃ a cap, v = .slice a l.length cap ∧ l.length ≤ cap ∧ (l = [] ∨ ∃ b off, a = some ⟨b, off, none⟩ ∧ w.cell? ⟨b, off, none⟩ = some (.int .i64 (l.headD 0)) ∧
    RowN S w (.slice (some ⟨b, off + 1, none⟩) (l.length - 1) (cap - 1)) (ints l.tail) ∧ (cap = 1 → l.tail = [])) := by
  obtain ⟨a, cap, rfl, hc, h⟩ := h
  rw [List.length_map] at *
  refine ⟨a, cap, rfl, hc, ?_⟩
  rcases h with h | ⟨b, off, rfl, hb, hn, h⟩
  · exact .inl (by simpa using h)
  · cases l with
    | nil => exact .inl rfl
    | cons x t =>
      refine .inr ⟨b, off, rfl, by have := h 0 (by simp); simpa using this, ⟨_, cap - 1, by simp, by simp at hc ⊢; omega, .inr ⟨b, off + 1, rfl, hb, hn, fun j hj => ?_⟩⟩, fun h1 => by simp at hc; exact List.eq_nil_of_length_eq_zero (by show t.length = 0; omega)⟩
      have := h (j + 1) (by simp at hj ⊢; omega)
      rw [show off + 1 + j = off + (j + 1) by omega, this]
      simp
def SS (b mb : Nat) (G : ByteArray → Option Nat) (n0 : Nat) : Nat → Prop := fun i => DS b mb G i ∨ n0 ≤ i
theorem RowN.more {b mb : Nat} {G : ByteArray → Option Nat} {w : World} {v : Value} {xs : List Value} (h : RowN (DS b mb G) w v xs) : RowN (SS b mb G w.heap.size) w v xs := by
  obtain ⟨a, cap, rfl, hc, h⟩ := h
  refine ⟨a, cap, rfl, hc, ?_⟩
  rcases h with h | ⟨b', off, rfl, hb, hn, h⟩
  · exact .inl h
  · exact .inr ⟨b', off, rfl, hb, fun x => x.elim hn (fun y => by omega), h⟩
/-- What a drive is behind a loss of power. -/
def crashD (d : Dk) (ks : List Int) (ts : List (List UInt8)) : Dk := { d with F := (crK d.F ks ts ts.length).1, lit := false, fuse := 0, down := false }
set_option maxRecDepth 100000 in
set_option maxHeartbeats 2000000 in
theorem Crash_any (b mb n : Nat) (G : ByteArray → Option Nat) (d : Dk) (ks : List Int) (v : Value) (w : World) (h : DAt w b mb n G d) (hk : RowN (DS b mb G) w v (ints ks)) :
    Calls Tryz.prog 20 #[.pointer (some ⟨b, 0, none⟩), v] w fun e w' => e = .returned (.tuple #[]) ∧ ∃ ts, Names G ts ∧ ts.length ≤ n ∧ DEnd b mb G n (crashD d ks ts) w w' := by
  have H := Lib.hid h
  have HKS := Lib.hid hk
  clear h hk
  go_enter Tryz.func20, Tryz.ntmps20
  go_wp2_with fail
  refine (all_any b mb n G d w H.out).mono ?_
  rintro e w1 ⟨vl, ts, rfl, hN, hln, hown, g1⟩
  have HN := Lib.hid hN
  have HLN := Lib.hid hln
  have HG1 := Lib.hid g1
  have hL := RowN.of_own (S := DS b mb G) hown (fun i hi hs => by have := H.out.live i hs; omega)
  have HK1 := Lib.hid ((HKS.out.chg (Chg.of_none g1)).more)
  have HD1 := Lib.hid (H.out.keep g1)
  have hlen : (ts.length : Int) ≤ 1000000 := by have := H.out.n1; omega
  obtain ⟨al, cl, rfl, hcl, hcells⟩ := hL
  have HCELL := Lib.hid hcells
  rw [List.length_map]
  clear hN hln g1 hown hcl hcells
  go_wp2
  go_loopw [1, 13] (fun v i wr => ∃ k : Nat, k ≤ ts.length ∧ i = .int .i64 k ∧ RowN (SS b mb G w1.heap.size) wr v (ints (crK d.F ks ts k).2) ∧ DEnd b mb G n { d with F := (crK d.F ks ts k).1 } w1 wr) (fun _ i _ => ts.length - (intOf i).toNat)
  case atStart => exact ⟨0, Nat.zero_le _, rfl, HK1.out, DEnd.same HD1.out (grow_refl _ _)⟩
  case round =>
    obtain ⟨k, hk, rfl, hrow, hE⟩ := hrel
    by_cases hlt : k < ts.length
    · obtain ⟨s, hs⟩ : ∃ s, s = nm ts[k] := ⟨_, rfl⟩
      have HK := Lib.hid hlt
      have i1 : (k : Int) < ts.length := by omega
      have i0 : (0 : Int) ≤ k := by omega
      have HSZ : Hid (s.size ≤ maxLen) := by show _ ≤ _; rw [hs]; exact HN.out.le _ (List.getElem_mem _)
      have HCK : Hid (crK d.F ks ts (k + 1) = crS (crK d.F ks ts k) s) := by show _ = _; rw [hs]; exact crK_succ _ _ _ _ hlt
      have HE0 : Hid (∃ e, (crK d.F ks ts k).1 s = some e) := by
        show ∃ _, _
        rw [hs, crK_here _ _ _ HN.out.nodup _ hlt]
        have := (HN.out.mem ts[k]).1 (List.getElem_mem _)
        cases hx : G (nm ts[k]) with
        | none => have this2 : (G (nm ts[k])).isSome = true := this; rw [hx] at this2; cases this2
        | some x => obtain ⟨e, he, _⟩ := H.out.ent _ x hx; exact ⟨e, he⟩
      obtain ⟨bl, ol, rfl, hbl, hnl, hcl⟩ : ∃ bl ol, al = some ⟨bl, ol, none⟩ ∧ bl < w1.heap.size ∧ ¬ DS b mb G bl ∧ w1.cell? ⟨bl, ol + k, none⟩ = some (.string s) := by
        rcases HCELL.out with y | ⟨bl, ol, y1, y2, y3, y4⟩
        · have : ts.length = 0 := by have := congrArg List.length y; simpa using this
          omega
        · refine ⟨bl, ol, y1, y2, y3, ?_⟩
          rw [y4 k (by simpa using hlt), hs]
          simp [List.getD, List.getElem?_eq_getElem hlt]
      obtain ⟨G1, h1, x1, x2⟩ := hE
      have cl1 : wr.cell? ⟨bl, ol + k, none⟩ = some (.string s) := by rw [← hcl]; exact World.cell?_of_block (x1.block bl hbl hnl)
      have X1 := Lib.hid x1
      have X2 := Lib.hid x2
      have H1 := Lib.hid h1
      have c0 := h1.c0
      have hlk := h1.map.look s HSZ.out
      obtain ⟨F1, ks1, hp⟩ : ∃ F1 ks1, crK d.F ks ts k = (F1, ks1) := ⟨_, _, rfl⟩
      rw [hp] at HCK HE0 hrow h1 H1
      obtain ⟨e, he⟩ := HE0.out
      have HEE : Hid (F1 s = some e) := he
      cases hg : G1 s with
      | none => have := h1.non s hg; rw [show ({ d with F := (F1, ks1).1 } : Dk).F s = F1 s from rfl, HEE.out] at this; cases this
      | some g =>
        obtain ⟨e', he', hb, hz⟩ := h1.ent s g hg
        obtain rfl : e = e' := by rw [show ({ d with F := (F1, ks1).1 } : Dk).F s = F1 s from rfl, HEE.out] at he'; injection he'
        rw [hg] at hlk
        unfold Pp at hlk
        have HG := Lib.hid hg
        have d1 := hb.c1
        have HB := Lib.hid hb
        have HZ := Lib.hid hz
        have XG : Hid (SS b mb G w1.heap.size g) := by
          rcases x2 s g hg with ⟨t, y⟩ | y
          · exact .inl (.inr (.inr ⟨t, y⟩))
          · exact .inr y
        have HROW := Lib.hid hrow
        obtain ⟨a1, cap1, rfl, hc1, hr1⟩ := hrow.int
        clear h1 x1 x2 hg he' hb hz hrow hcl hbl hnl he hs hlt hk hp
        by_cases hw : e.w.size = 0
        · have HW := Lib.hid hw
          have ew := toList_nil hw
          clear hw
          go_wp2_with fail
          refine (settle_any g e 0 _ HB.out HZ.out).mono ?_
          rintro e' w2 ⟨rfl, hb2, g2⟩
          obtain ⟨e2, he2⟩ : ∃ z, z = settleE e 0 := ⟨_, rfl⟩
          rw [← he2] at hb2
          have HP : Hid (crS (F1, ks1) s = (putE F1 s (if e2.s = false ∧ e2.l.size = 0 then none else some { e2 with s := true }), ks1)) := by
            show _ = _
            unfold crS
            rw [show (F1, ks1).1 s = some e from HEE.out]
            simp only [HW.out, if_true, he2]; rfl
          have hz2 : e2.sz ≤ 1048576 := by rw [he2]; exact Nat.le_trans (settle_sz e _) HZ.out
          have q0 := hb2.c0
          have q2 := hb2.c2
          have f2 := hb2.fr 2
          have HB2 := Lib.hid hb2
          have HG2 := Lib.hid g2
          have HZ2 := Lib.hid hz2
          have HD2 := Lib.hid (H1.out.file s g HG.out e2 hb2 hz2 g2)
          have c2 := HD2.out.c0
          have HR2 := Lib.hid (RowN.chg HROW.out (Chg.of_row (S := SS b mb G w1.heap.size) g2 (fun i hi hl => by injection hi with hi; subst hi; exact XG.out)))
          clear hb2 g2 he2 hz2
          cases hes : e2.s
          · rw [hes] at q2
            by_cases hl : e2.l.size = 0
            · have HP2 : Hid (crS (F1, ks1) s = (putE F1 s none, ks1)) := by show _ = _; rw [HP.out, if_pos ⟨hes, hl⟩]
              have el := toList_nil hl
              clear hes hl
              go_wp2_with (at_delete; refine wpList_delG rfl _ _ rfl mb n G1 rfl HD2.out.map s rfl HSZ.out ?_
                           intro w3 hm3 g3
                           have f3 : w3.frozen? ⟨g, 2, none⟩ = false := grow_fr g3 f2 (Blk.lt HB2.out) (fun y => (H1.out.far s g HG.out).2 (by injection y))
                           have k3 : w3.cell? ⟨g, 2, none⟩ = some (.bool false) := (World.cell?_of_block (g3.block g (Blk.lt HB2.out) (fun y => (H1.out.far s g HG.out).2 (by injection y)))).trans q2
                           have HM3 := Lib.hid hm3
                           have HG3 := Lib.hid g3
                           clear hm3 g3)
              go_roundw
              case rel =>
                refine ⟨k + 1, by have := HK.out; omega, by go_num, ?_, ?_⟩
                · rw [HCK.out, HP2.out]
                  exact HR2.out.chg ((Chg.of_row HG3.out (fun i hi _ => by injection hi with hi; exact .inl (.inr (.inl hi.symm)))).trans (T := SS b mb G w1.heap.size) (Chg.of_row (grow_set w3 ⟨g, 2, none⟩ _) (fun i hi hl => by injection hi with hi; subst hi; exact XG.out)) (fun _ _ x => x))
                · rw [HCK.out, HP2.out]
                  exact DEnd.after X1.out X2.out (DEnd.crDel H1.out s g HG.out e2 HB2.out HZ2.out HG2.out HM3.out HG3.out _)
              case measure => first | (simp [intOf]; done) | (have := HK.out; simp [intOf]; omega)
            · have HP2 : Hid (crS (F1, ks1) s = (putE F1 s (some { e2 with s := true }), ks1)) := by show _ = _; rw [HP.out, if_neg (fun y => hl y.2)]
              have el : e2.l.toList.isEmpty = false := by rw [List.isEmpty_eq_false_iff]; exact toList_ne hl
              have el2 : ¬ e2.l.toList = [] := toList_ne hl
              clear hes hl
              go_wp2
              go_roundw
              case rel =>
                refine ⟨k + 1, by have := HK.out; omega, by go_num, ?_, ?_⟩
                · rw [HCK.out, HP2.out]
                  exact HR2.out.chg (Chg.of_row (grow_set w2 ⟨g, 2, none⟩ _) (fun i hi hl => by injection hi with hi; subst hi; exact XG.out))
                · rw [HCK.out, HP2.out]
                  exact DEnd.after X1.out X2.out (DEnd.file H1.out s g HG.out { e2 with s := true } (HB2.out.set2 true) HZ2.out (grow_same HG2.out (grow_set w2 ⟨g, 2, none⟩ (.bool true))))
              case measure => first | (simp [intOf]; done) | (have := HK.out; simp [intOf]; omega)
          · rw [hes] at q2
            have HP2 : Hid (crS (F1, ks1) s = (putE F1 s (some { e2 with s := true }), ks1)) := by show _ = _; rw [HP.out, if_neg (fun y => by rw [hes] at y; cases y.1)]
            clear hes
            go_wp2
            go_roundw
            case rel =>
              refine ⟨k + 1, by have := HK.out; omega, by go_num, ?_, ?_⟩
              · rw [HCK.out, HP2.out]
                exact HR2.out.chg (Chg.of_row (grow_set w2 ⟨g, 2, none⟩ _) (fun i hi hl => by injection hi with hi; subst hi; exact XG.out))
              · rw [HCK.out, HP2.out]
                exact DEnd.after X1.out X2.out (DEnd.file H1.out s g HG.out { e2 with s := true } (HB2.out.set2 true) HZ2.out (grow_same HG2.out (grow_set w2 ⟨g, 2, none⟩ (.bool true))))
            case measure => first | (simp [intOf]; done) | (have := HK.out; simp [intOf]; omega)
        · have HW := Lib.hid hw
          have ew : e.w.toList.isEmpty = false := by rw [List.isEmpty_eq_false_iff]; exact toList_ne hw
          have ew2 : ¬ e.w.toList = [] := toList_ne hw
          clear hw
          cases ks1 with
          | nil =>
            clear hr1 hc1
            go_wp2_with fail
            refine (settle_any g e 0 _ HB.out HZ.out).mono ?_
            rintro e' w2 ⟨rfl, hb2, g2⟩
            obtain ⟨e2, he2⟩ : ∃ z, z = settleE e 0 := ⟨_, rfl⟩
            rw [← he2] at hb2
            have HP : Hid (crS (F1, []) s = (putE F1 s (if e2.s = false ∧ e2.l.size = 0 then none else some { e2 with s := true }), [])) := by
              show _ = _
              unfold crS
              rw [show (F1, []).1 s = some e from HEE.out]
              simp only [HW.out, if_false, he2]; rfl
            have hz2 : e2.sz ≤ 1048576 := by rw [he2]; exact Nat.le_trans (settle_sz e _) HZ.out
            have q0 := hb2.c0
            have q2 := hb2.c2
            have f2 := hb2.fr 2
            have HB2 := Lib.hid hb2
            have HG2 := Lib.hid g2
            have HZ2 := Lib.hid hz2
            have HD2 := Lib.hid (H1.out.file s g HG.out e2 hb2 hz2 g2)
            have c2 := HD2.out.c0
            have HR2 := Lib.hid (RowN.chg HROW.out (Chg.of_row (S := SS b mb G w1.heap.size) g2 (fun i hi hl => by injection hi with hi; subst hi; exact XG.out)))
            clear hb2 g2 he2 hz2
            cases hes : e2.s
            · rw [hes] at q2
              by_cases hl : e2.l.size = 0
              · have HP2 : Hid (crS (F1, []) s = (putE F1 s none, [])) := by show _ = _; rw [HP.out, if_pos ⟨hes, hl⟩]
                have el := toList_nil hl
                clear hes hl
                go_wp2_with (at_delete; refine wpList_delG rfl _ _ rfl mb n G1 rfl HD2.out.map s rfl HSZ.out ?_
                             intro w3 hm3 g3
                             have f3 : w3.frozen? ⟨g, 2, none⟩ = false := grow_fr g3 f2 (Blk.lt HB2.out) (fun y => (H1.out.far s g HG.out).2 (by injection y))
                             have k3 : w3.cell? ⟨g, 2, none⟩ = some (.bool false) := (World.cell?_of_block (g3.block g (Blk.lt HB2.out) (fun y => (H1.out.far s g HG.out).2 (by injection y)))).trans q2
                             have HM3 := Lib.hid hm3
                             have HG3 := Lib.hid g3
                             clear hm3 g3)
                go_roundw
                case rel =>
                  refine ⟨k + 1, by have := HK.out; omega, by go_num, ?_, ?_⟩
                  · rw [HCK.out, HP2.out]
                    exact HR2.out.chg ((Chg.of_row HG3.out (fun i hi _ => by injection hi with hi; exact .inl (.inr (.inl hi.symm)))).trans (T := SS b mb G w1.heap.size) (Chg.of_row (grow_set w3 ⟨g, 2, none⟩ _) (fun i hi hl => by injection hi with hi; subst hi; exact XG.out)) (fun _ _ x => x))
                  · rw [HCK.out, HP2.out]
                    exact DEnd.after X1.out X2.out (DEnd.crDel H1.out s g HG.out e2 HB2.out HZ2.out HG2.out HM3.out HG3.out _)
                case measure => first | (simp [intOf]; done) | (have := HK.out; simp [intOf]; omega)
              · have HP2 : Hid (crS (F1, []) s = (putE F1 s (some { e2 with s := true }), [])) := by show _ = _; rw [HP.out, if_neg (fun y => hl y.2)]
                have el : e2.l.toList.isEmpty = false := by rw [List.isEmpty_eq_false_iff]; exact toList_ne hl
                have el2 : ¬ e2.l.toList = [] := toList_ne hl
                clear hes hl
                go_wp2
                go_roundw
                case rel =>
                  refine ⟨k + 1, by have := HK.out; omega, by go_num, ?_, ?_⟩
                  · rw [HCK.out, HP2.out]
                    exact HR2.out.chg (Chg.of_row (grow_set w2 ⟨g, 2, none⟩ _) (fun i hi hl => by injection hi with hi; subst hi; exact XG.out))
                  · rw [HCK.out, HP2.out]
                    exact DEnd.after X1.out X2.out (DEnd.file H1.out s g HG.out { e2 with s := true } (HB2.out.set2 true) HZ2.out (grow_same HG2.out (grow_set w2 ⟨g, 2, none⟩ (.bool true))))
                case measure => first | (simp [intOf]; done) | (have := HK.out; simp [intOf]; omega)
            · rw [hes] at q2
              have HP2 : Hid (crS (F1, []) s = (putE F1 s (some { e2 with s := true }), [])) := by show _ = _; rw [HP.out, if_neg (fun y => by rw [hes] at y; cases y.1)]
              clear hes
              go_wp2
              go_roundw
              case rel =>
                refine ⟨k + 1, by have := HK.out; omega, by go_num, ?_, ?_⟩
                · rw [HCK.out, HP2.out]
                  exact HR2.out.chg (Chg.of_row (grow_set w2 ⟨g, 2, none⟩ _) (fun i hi hl => by injection hi with hi; subst hi; exact XG.out))
                · rw [HCK.out, HP2.out]
                  exact DEnd.after X1.out X2.out (DEnd.file H1.out s g HG.out { e2 with s := true } (HB2.out.set2 true) HZ2.out (grow_same HG2.out (grow_set w2 ⟨g, 2, none⟩ (.bool true))))
              case measure => first | (simp [intOf]; done) | (have := HK.out; simp [intOf]; omega)
          | cons x t =>
            rcases hr1 with y | ⟨kb, ko, rfl, ck, hrt, ht1⟩
            · cases y
            have HRT := Lib.hid hrt
            have HT1 := Lib.hid ht1
            clear hrt ht1 hc1
            by_cases hcap : cap1 = 1
            · subst hcap
              obtain rfl : t = [] := HT1.out rfl
              go_wp2_with fail
              refine (settle_any g e x _ HB.out HZ.out).mono ?_
              rintro e' w2 ⟨rfl, hb2, g2⟩
              obtain ⟨e2, he2⟩ : ∃ z, z = settleE e x := ⟨_, rfl⟩
              rw [← he2] at hb2
              have HP : Hid (crS (F1, [x]) s = (putE F1 s (if e2.s = false ∧ e2.l.size = 0 then none else some { e2 with s := true }), [])) := by
                show _ = _
                unfold crS
                rw [show (F1, [x]).1 s = some e from HEE.out]
                simp only [HW.out, if_false, he2]; rfl
              have hz2 : e2.sz ≤ 1048576 := by rw [he2]; exact Nat.le_trans (settle_sz e _) HZ.out
              have q0 := hb2.c0
              have q2 := hb2.c2
              have f2 := hb2.fr 2
              have HB2 := Lib.hid hb2
              have HG2 := Lib.hid g2
              have HZ2 := Lib.hid hz2
              have HD2 := Lib.hid (H1.out.file s g HG.out e2 hb2 hz2 g2)
              have c2 := HD2.out.c0
              have HR2 := Lib.hid (RowN.chg (RowN.nil _ _ (some ⟨kb, ko, none⟩) 0) (Chg.of_row (S := SS b mb G w1.heap.size) g2 (fun i hi hl => by injection hi with hi; subst hi; exact XG.out)))
              clear hb2 g2 he2 hz2
              cases hes : e2.s
              · rw [hes] at q2
                by_cases hl : e2.l.size = 0
                · have HP2 : Hid (crS (F1, [x]) s = (putE F1 s none, [])) := by show _ = _; rw [HP.out, if_pos ⟨hes, hl⟩]
                  have el := toList_nil hl
                  clear hes hl
                  go_wp2_with (at_delete; refine wpList_delG rfl _ _ rfl mb n G1 rfl HD2.out.map s rfl HSZ.out ?_
                               intro w3 hm3 g3
                               have f3 : w3.frozen? ⟨g, 2, none⟩ = false := grow_fr g3 f2 (Blk.lt HB2.out) (fun y => (H1.out.far s g HG.out).2 (by injection y))
                               have k3 : w3.cell? ⟨g, 2, none⟩ = some (.bool false) := (World.cell?_of_block (g3.block g (Blk.lt HB2.out) (fun y => (H1.out.far s g HG.out).2 (by injection y)))).trans q2
                               have HM3 := Lib.hid hm3
                               have HG3 := Lib.hid g3
                               clear hm3 g3)
                  go_roundw
                  case rel =>
                    refine ⟨k + 1, by have := HK.out; omega, by go_num, ?_, ?_⟩
                    · rw [HCK.out, HP2.out]
                      exact HR2.out.chg ((Chg.of_row HG3.out (fun i hi _ => by injection hi with hi; exact .inl (.inr (.inl hi.symm)))).trans (T := SS b mb G w1.heap.size) (Chg.of_row (grow_set w3 ⟨g, 2, none⟩ _) (fun i hi hl => by injection hi with hi; subst hi; exact XG.out)) (fun _ _ x => x))
                    · rw [HCK.out, HP2.out]
                      exact DEnd.after X1.out X2.out (DEnd.crDel H1.out s g HG.out e2 HB2.out HZ2.out HG2.out HM3.out HG3.out _)
                  case measure => first | (simp [intOf]; done) | (have := HK.out; simp [intOf]; omega)
                · have HP2 : Hid (crS (F1, [x]) s = (putE F1 s (some { e2 with s := true }), [])) := by show _ = _; rw [HP.out, if_neg (fun y => hl y.2)]
                  have el : e2.l.toList.isEmpty = false := by rw [List.isEmpty_eq_false_iff]; exact toList_ne hl
                  have el2 : ¬ e2.l.toList = [] := toList_ne hl
                  clear hes hl
                  go_wp2
                  go_roundw
                  case rel =>
                    refine ⟨k + 1, by have := HK.out; omega, by go_num, ?_, ?_⟩
                    · rw [HCK.out, HP2.out]
                      exact HR2.out.chg (Chg.of_row (grow_set w2 ⟨g, 2, none⟩ _) (fun i hi hl => by injection hi with hi; subst hi; exact XG.out))
                    · rw [HCK.out, HP2.out]
                      exact DEnd.after X1.out X2.out (DEnd.file H1.out s g HG.out { e2 with s := true } (HB2.out.set2 true) HZ2.out (grow_same HG2.out (grow_set w2 ⟨g, 2, none⟩ (.bool true))))
                  case measure => first | (simp [intOf]; done) | (have := HK.out; simp [intOf]; omega)
              · rw [hes] at q2
                have HP2 : Hid (crS (F1, [x]) s = (putE F1 s (some { e2 with s := true }), [])) := by show _ = _; rw [HP.out, if_neg (fun y => by rw [hes] at y; cases y.1)]
                clear hes
                go_wp2
                go_roundw
                case rel =>
                  refine ⟨k + 1, by have := HK.out; omega, by go_num, ?_, ?_⟩
                  · rw [HCK.out, HP2.out]
                    exact HR2.out.chg (Chg.of_row (grow_set w2 ⟨g, 2, none⟩ _) (fun i hi hl => by injection hi with hi; subst hi; exact XG.out))
                  · rw [HCK.out, HP2.out]
                    exact DEnd.after X1.out X2.out (DEnd.file H1.out s g HG.out { e2 with s := true } (HB2.out.set2 true) HZ2.out (grow_same HG2.out (grow_set w2 ⟨g, 2, none⟩ (.bool true))))
                case measure => first | (simp [intOf]; done) | (have := HK.out; simp [intOf]; omega)
            · have kl : (0 : Int) < ((t.length + 1 : Nat) : Int) := by omega
              have kl1 : (1 : Int) ≤ ((t.length + 1 : Nat) : Int) := by omega
              go_wp2_with fail
              refine (settle_any g e x _ HB.out HZ.out).mono ?_
              rintro e' w2 ⟨rfl, hb2, g2⟩
              obtain ⟨e2, he2⟩ : ∃ z, z = settleE e x := ⟨_, rfl⟩
              rw [← he2] at hb2
              have HP : Hid (crS (F1, (x :: t)) s = (putE F1 s (if e2.s = false ∧ e2.l.size = 0 then none else some { e2 with s := true }), t)) := by
                show _ = _
                unfold crS
                rw [show (F1, (x :: t)).1 s = some e from HEE.out]
                simp only [HW.out, if_false, he2]; rfl
              have hz2 : e2.sz ≤ 1048576 := by rw [he2]; exact Nat.le_trans (settle_sz e _) HZ.out
              have q0 := hb2.c0
              have q2 := hb2.c2
              have f2 := hb2.fr 2
              have HB2 := Lib.hid hb2
              have HG2 := Lib.hid g2
              have HZ2 := Lib.hid hz2
              have HD2 := Lib.hid (H1.out.file s g HG.out e2 hb2 hz2 g2)
              have c2 := HD2.out.c0
              have HR2 := Lib.hid (RowN.chg HRT.out (Chg.of_row (S := SS b mb G w1.heap.size) g2 (fun i hi hl => by injection hi with hi; subst hi; exact XG.out)))
              clear hb2 g2 he2 hz2
              cases hes : e2.s
              · rw [hes] at q2
                by_cases hl : e2.l.size = 0
                · have HP2 : Hid (crS (F1, (x :: t)) s = (putE F1 s none, t)) := by show _ = _; rw [HP.out, if_pos ⟨hes, hl⟩]
                  have el := toList_nil hl
                  clear hes hl
                  go_wp2_with (at_delete; refine wpList_delG rfl _ _ rfl mb n G1 rfl HD2.out.map s rfl HSZ.out ?_
                               intro w3 hm3 g3
                               have f3 : w3.frozen? ⟨g, 2, none⟩ = false := grow_fr g3 f2 (Blk.lt HB2.out) (fun y => (H1.out.far s g HG.out).2 (by injection y))
                               have k3 : w3.cell? ⟨g, 2, none⟩ = some (.bool false) := (World.cell?_of_block (g3.block g (Blk.lt HB2.out) (fun y => (H1.out.far s g HG.out).2 (by injection y)))).trans q2
                               have HM3 := Lib.hid hm3
                               have HG3 := Lib.hid g3
                               clear hm3 g3)
                  go_roundw
                  case rel =>
                    refine ⟨k + 1, by have := HK.out; omega, by go_num, ?_, ?_⟩
                    · rw [HCK.out, HP2.out]
                      exact HR2.out.chg ((Chg.of_row HG3.out (fun i hi _ => by injection hi with hi; exact .inl (.inr (.inl hi.symm)))).trans (T := SS b mb G w1.heap.size) (Chg.of_row (grow_set w3 ⟨g, 2, none⟩ _) (fun i hi hl => by injection hi with hi; subst hi; exact XG.out)) (fun _ _ x => x))
                    · rw [HCK.out, HP2.out]
                      exact DEnd.after X1.out X2.out (DEnd.crDel H1.out s g HG.out e2 HB2.out HZ2.out HG2.out HM3.out HG3.out _)
                  case measure => first | (simp [intOf]; done) | (have := HK.out; simp [intOf]; omega)
                · have HP2 : Hid (crS (F1, (x :: t)) s = (putE F1 s (some { e2 with s := true }), t)) := by show _ = _; rw [HP.out, if_neg (fun y => hl y.2)]
                  have el : e2.l.toList.isEmpty = false := by rw [List.isEmpty_eq_false_iff]; exact toList_ne hl
                  have el2 : ¬ e2.l.toList = [] := toList_ne hl
                  clear hes hl
                  go_wp2
                  go_roundw
                  case rel =>
                    refine ⟨k + 1, by have := HK.out; omega, by go_num, ?_, ?_⟩
                    · rw [HCK.out, HP2.out]
                      exact HR2.out.chg (Chg.of_row (grow_set w2 ⟨g, 2, none⟩ _) (fun i hi hl => by injection hi with hi; subst hi; exact XG.out))
                    · rw [HCK.out, HP2.out]
                      exact DEnd.after X1.out X2.out (DEnd.file H1.out s g HG.out { e2 with s := true } (HB2.out.set2 true) HZ2.out (grow_same HG2.out (grow_set w2 ⟨g, 2, none⟩ (.bool true))))
                  case measure => first | (simp [intOf]; done) | (have := HK.out; simp [intOf]; omega)
              · rw [hes] at q2
                have HP2 : Hid (crS (F1, (x :: t)) s = (putE F1 s (some { e2 with s := true }), t)) := by show _ = _; rw [HP.out, if_neg (fun y => by rw [hes] at y; cases y.1)]
                clear hes
                go_wp2
                go_roundw
                case rel =>
                  refine ⟨k + 1, by have := HK.out; omega, by go_num, ?_, ?_⟩
                  · rw [HCK.out, HP2.out]
                    exact HR2.out.chg (Chg.of_row (grow_set w2 ⟨g, 2, none⟩ _) (fun i hi hl => by injection hi with hi; subst hi; exact XG.out))
                  · rw [HCK.out, HP2.out]
                    exact DEnd.after X1.out X2.out (DEnd.file H1.out s g HG.out { e2 with s := true } (HB2.out.set2 true) HZ2.out (grow_same HG2.out (grow_set w2 ⟨g, 2, none⟩ (.bool true))))
                case measure => first | (simp [intOf]; done) | (have := HK.out; simp [intOf]; omega)
    · obtain rfl : k = ts.length := by omega
      have HE := Lib.hid hE
      obtain ⟨G1, h1, x1, x2⟩ := hE
      have H1 := Lib.hid h1
      have FU := Lib.hid (Fuse_any b mb n G1 _ (-1) wr h1 (by omega))
      have X1 := Lib.hid x1
      have X2 := Lib.hid x2
      clear h1 x1 x2 hrow hk hlt
      go_wp2_with fail
      refine FU.out.mono ?_
      rintro e w2 ⟨rfl, hE2⟩
      obtain ⟨G2, h2, y1, y2⟩ := hE2
      have c3 := h2.c3
      have f3 := h2.fr 3
      have HH2 := Lib.hid h2
      have HE2 := Lib.hid (DEnd.after X1.out X2.out ⟨G2, h2, y1, y2⟩)
      clear h2 y1 y2
      go_wp2
      go_end0
      refine ⟨rfl, ts, HN.out, HLN.out, DEnd.front HG1.out (HE2.out.more fun G3 h3 => ?_)⟩
      exact DEnd.setb h3 3 _ (crashD d ks ts) rfl (Nat.zero_le _) h3.s1 rfl
end Go.Proofs.YtphljjgjpkdpmaaGreatDoor
