/- Several texts in one: WnKe. -/
import Derived.Test.YtphljjgjpkdpmaaGreatDoorK24
import Derived.Test.YtphljjgjpkdpmaaGreatDoorK28
import Derived.Test.YtphljjgjpkdpmaaGreatDoorK3
/- The law WalKeeps: its walk. -/
namespace Go.Proofs.YtphljjgjpkdpmaaGreatDoor
open Go.RowKit Go.Maps Go.Sort
set_option linter.unusedVariables false
theorem info_int09 : (Tryz.prog.info? 3).map (fun i => (i.zero, i.size, i.bytes)) = some (some (.int .i64 0), 1, 8) := by kernel_rfl
theorem ones_int (l : List Int) : ∀ u ∈ l.map (Value.int .i64), u.oneCell' = true := by
  intro u hu
  obtain ⟨n, _, rfl⟩ := List.mem_map.1 hu
  rfl
theorem RowN.overD {w w' : World} {db mb : Nat} {G G' : ByteArray → Option Nat} {v : Value} {xs : List Value} (h : RowN (DS db mb G) w v xs) (k : Chg (DS db mb G) w w') (f : ∀ s g, G' s = some g → (∃ t, G t = some g) ∨ w.heap.size ≤ g) : RowN (DS db mb G') w' v xs := by
  obtain ⟨a, cap, rfl, hc, h⟩ := h
  refine ⟨a, cap, rfl, hc, ?_⟩
  rcases h with h | ⟨b, off, rfl, hb, hn, h⟩
  · exact .inl h
  · refine .inr ⟨b, off, rfl, Nat.lt_of_lt_of_le hb k.size, fun hs => ?_, fun j hj => by rw [← h j hj]; exact World.cell?_of_block (k.block b hb hn)⟩
    rcases hs with y | y | ⟨t, y⟩
    · exact hn (.inl y)
    · exact hn (.inr (.inl y))
    · rcases f t b y with ⟨u, z⟩ | z
      · exact hn (.inr (.inr ⟨u, z⟩))
      · omega
theorem RowN.keep {w w' : World} {S : Nat → Prop} {v : Value} {xs : List Value} (h : RowN S w v xs) (g : w.grownBy w' none) : RowN S w' v xs := h.chg (Chg.of_none g)
theorem lo_overD {B : Nat} {w : World} {db mb : Nat} {G G' : ByteArray → Option Nat} (hl : ∀ i, DS db mb G i → B ≤ i) (hB : B ≤ w.heap.size) (f : ∀ s g, G' s = some g → (∃ t, G t = some g) ∨ w.heap.size ≤ g) : ∀ i, DS db mb G' i → B ≤ i := by
  intro i hi
  rcases hi with rfl | rfl | ⟨t, hi⟩
  · exact hl _ (.inl rfl)
  · exact hl _ (.inr (.inl rfl))
  · rcases f t i hi with ⟨u, y⟩ | y
    · exact hl _ (.inr (.inr ⟨u, y⟩))
    · exact Nat.le_trans hB y
theorem last_le {d : Dk} {c : Lc} {base : ByteArray} {recs : List ByteArray} {j : Nat} (h : Good d c base recs) (hn : ∀ t e, d.F t = some e → ∃ k, 1 ≤ k ∧ k ≤ j ∧ t = nameW k) : c.last ≤ j ∧ c.last + 1 - c.first ≤ j + 1 := by
  by_cases f0 : c.first = 0
  · have h5 : c.last = 0 := congrArg Lc.last (h.lg.none f0).1
    omega
  · have hle := h.lg.le f0
    have := h.has f0 hle.1 (Nat.le_refl _)
    cases hf : d.F (nameW c.last) with
    | none => rw [hf] at this; cases this
    | some e =>
      obtain ⟨k, k1, k2, k3⟩ := hn _ e hf
      have := nameW_inj k3
      omega
/-- Where the script stands. -/
def Keep (B : Nat) (w : World) (db mb j : Nat) (vl vb vt vm vy vg : Value) (wr : World) : Prop :=
  ∃ (n' : Nat) (G : ByteArray → Option Nat) (d : Dk) (base : ByteArray) (recs M : List ByteArray) (ly : ByteArray) (lg : Bool), vb = .string base ∧ vy = .string ly ∧ vg = .bool lg ∧ DAt wr db mb n' G d ∧ Va B wr ∧ (∀ i, DS db mb G i → B ≤ i) ∧ B ≤ wr.heap.size ∧ Below B w wr ∧ Hf d base recs M (if lg then some ly else none) ∧ d.steps ≤ 2000 * j ∧ n' ≤ j ∧ (∀ t e, d.F t = some e → ∃ k, 1 ≤ k ∧ k ≤ j ∧ t = nameW k) ∧ RowN (DS db mb G) wr vt (recs.map Value.string) ∧ recs.length ≤ 20000 * j ∧ (RowAt w vm (M.map Value.string) ∧ CapK vm) ∧ M.length ≤ 20000
    ∧ (vl = .pointer none ∨ ∃ lb c, vl = .pointer (some ⟨lb, 0, none⟩) ∧ WAt wr lb db mb n' G c d ∧ B ≤ lb ∧ Good d c base recs ∧ RowN (Own3 lb db mb G) wr vt (recs.map Value.string))
theorem Keep.next {B : Nat} {w : World} {db mb j : Nat} {vl vb vt vm vy vg : Value} {wr w' : World} (h : Keep B w db mb j vl vb vt vm vy vg wr) (g : wr.grownBy w' none) : Keep B w db mb (j + 1) vl vb vt vm vy vg w' := by
  obtain ⟨n', G, d, base, recs, M, ly, lg, e1, e2, e3, h1, h2, h3, h4, h5, h6, h7, h8, h9, h10, h11, h12, h13, h14⟩ := h
  refine ⟨n', G, d, base, recs, M, ly, lg, e1, e2, e3, h1.keep g, h2.keep g, h3, Nat.le_trans h4 g.size, h5.trans (bel_none g h4), h6, by omega, by omega, fun t e he => ?_, h10.keep g, by omega, h12, h13, ?_⟩
  · obtain ⟨k, k1, k2, k3⟩ := h9 t e he
    exact ⟨k, k1, by omega, k3⟩
  · rcases h14 with q | ⟨lb, c, q1, q2, q3, q4, q5⟩
    · exact .inl q
    · exact .inr ⟨lb, c, q1, q2.keep g, q3, q4, q5.keep g⟩
theorem Keep.fuse {B : Nat} {w : World} {db mb j n' : Nat} {G : ByteArray → Option Nat} {d : Dk} {vl vt vm : Value} {wr w' : World} {base ly : ByteArray} {recs M : List ByteArray} {lg : Bool} {num : Int}
    (h1 : DAt wr db mb n' G d) (h2 : Va B wr) (h3 : ∀ i, DS db mb G i → B ≤ i) (h4 : B ≤ wr.heap.size) (h5 : Below B w wr) (h6 : Hf d base recs M (if lg then some ly else none)) (h7 : d.steps ≤ 2000 * j) (h8 : n' ≤ j) (h9 : ∀ t e, d.F t = some e → ∃ k, 1 ≤ k ∧ k ≤ j ∧ t = nameW k) (h10 : RowN (DS db mb G) wr vt (recs.map Value.string)) (h11 : recs.length ≤ 20000 * j) (h12 : RowAt w vm (M.map Value.string) ∧ CapK vm) (h13 : M.length ≤ 20000)
    (h14 : vl = .pointer none ∨ ∃ lb c, vl = .pointer (some ⟨lb, 0, none⟩) ∧ WAt wr lb db mb n' G c d ∧ B ≤ lb ∧ Good d c base recs ∧ RowN (Own3 lb db mb G) wr vt (recs.map Value.string)) (k : DEnd db mb G n' (fuseD d num) wr w') :
    Keep B w db mb (j + 1) vl (.string base) vt vm (.string ly) (.bool lg) w' := by
  obtain ⟨G', d1, c1, f1⟩ := k
  have hb := c1.below h4 h3
  refine ⟨n', G', fuseD d num, base, recs, M, ly, lg, rfl, rfl, rfl, d1, h2.below hb, lo_overD h3 h4 f1, Nat.le_trans h4 c1.size, h5.trans hb, ⟨h6.1, h6.2⟩, by show d.steps ≤ _; omega, by omega, fun t e he => ?_, h10.overD c1 f1, by omega, h12, h13, ?_⟩
  · obtain ⟨k, k1, k2, k3⟩ := h9 t e he
    exact ⟨k, k1, by omega, k3⟩
  · rcases h14 with q | ⟨lb, c, q1, q2, q3, q4, q5⟩
    · exact .inl q
    · have c2 : Chg (Own3 lb db mb G) wr w' := ⟨c1.os, c1.tape, c1.output, c1.size, fun i hi hn => c1.block i hi (fun hs => hn (.inr hs))⟩
      refine .inr ⟨lb, c, q1, ⟨c1.blk q2.log q2.far, d1, fun hs => ?_⟩, q3, q4.of_F rfl q4.up, q5.over c2 f1⟩
      rcases hs with y | y | ⟨t, y⟩
      · exact q2.far (.inl y)
      · exact q2.far (.inr (.inl y))
      · rcases f1 t lb y with ⟨u, z⟩ | z
        · exact q2.far (.inr (.inr ⟨u, z⟩))
        · have := q2.lt; omega
theorem RowN.less {w : World} {S T : Nat → Prop} {v : Value} {xs : List Value} (h : RowN S w v xs) (hs : ∀ i, T i → S i) : RowN T w v xs := by
  obtain ⟨a, cap, rfl, hc, h⟩ := h
  refine ⟨a, cap, rfl, hc, ?_⟩
  rcases h with h | ⟨b, off, rfl, hb, hn, h⟩
  · exact .inl h
  · exact .inr ⟨b, off, rfl, hb, fun t => hn (hs b t), h⟩
theorem RowN.of_cap {w : World} {v : Value} {xs : List Value} (h : RowAt w v xs) (hc : CapK v) : RowN (fun _ => False) w v xs := by
  obtain ⟨a, cap, e, h⟩ := h
  refine ⟨a, cap, e, hc _ _ _ e, ?_⟩
  rcases h with h | ⟨b, off, ha, hb, h⟩
  · exact .inl h
  · exact .inr ⟨b, off, ha, hb, fun t => t, h⟩
theorem Keep.mk' {B : Nat} {w w8 : World} {lb db mb j n8 : Nat} {G8 : ByteArray → Option Nat} {c8 : Lc} {d8 : Dk} {vl vt vm : Value} {base ly : ByteArray} {recs M : List ByteArray} {lg : Bool}
    (W8 : Wl B w8 lb db mb n8 G8 c8 d8) (E8 : Below B w w8) (hdom : ∀ t e, d8.F t = some e → ∃ k, 1 ≤ k ∧ k ≤ j + 1 ∧ t = nameW k) (hst : d8.steps ≤ 2000 * (j + 1)) (hn : n8 ≤ j + 1) (hHf : Hf d8 base recs M (if lg then some ly else none)) (hrow : RowN (Own3 lb db mb G8) w8 vt (recs.map Value.string)) (hrl : recs.length ≤ 20000 * (j + 1)) (hrm : RowAt w vm (M.map Value.string) ∧ CapK vm) (hml : M.length ≤ 20000) (hal : vl = .pointer none ∨ (vl = .pointer (some ⟨lb, 0, none⟩) ∧ Good d8 c8 base recs)) :
    Keep B w db mb (j + 1) vl (.string base) vt vm (.string ly) (.bool lg) w8 := by
  refine ⟨n8, G8, d8, base, recs, M, ly, lg, rfl, rfl, rfl, W8.wat.dr, W8.va, fun i hi => W8.lo i (.inr hi), W8.hb, E8, hHf, hst, hn, hdom, hrow.less (fun i hi => .inr hi), hrl, hrm, hml, ?_⟩
  rcases hal with q | ⟨q1, q2⟩
  · exact .inl q
  · exact .inr ⟨lb, c8, q1, W8.wat, W8.lo lb (.inl rfl), q2, hrow⟩
theorem own_empty2 (w : World) (o : Obj) (t : TypeId) (size : Nat) : ((w.alloc o).alloc (.cells #[] t)).ownsRow 0 t size (.slice (some ⟨w.heap.size + 1, 0, none⟩) 0 0) 0 [] := by
  have := own_empty (w.alloc o) t size
  simpa using this
theorem nok_of {d : Dk} {j : Nat} (h : ∀ t e, d.F t = some e → ∃ k, 1 ≤ k ∧ k ≤ j ∧ t = nameW k) (hj : j ≤ 1000) : Nok d.F := fun t e he => by
  obtain ⟨k, k1, k2, k3⟩ := h t e he
  exact ⟨k, k1, by omega, k3⟩
theorem dom_of {d d' : Dk} {j b : Nat} (h : ∀ t e, d.F t = some e → ∃ k, 1 ≤ k ∧ k ≤ j ∧ t = nameW k) (hd : Dom d d' b) (hb : b ≤ j + 1) : ∀ t e, d'.F t = some e → ∃ k, 1 ≤ k ∧ k ≤ j + 1 ∧ t = nameW k := fun t e he => by
  rcases hd t e he with ⟨e', q⟩ | ⟨k, k1, k2, k3⟩
  · obtain ⟨k, k1, k2, k3⟩ := h t e' q
    exact ⟨k, k1, by omega, k3⟩
  · exact ⟨k, k1, by omega, k3⟩
set_option maxRecDepth 100000 in
set_option maxHeartbeats 20000000 in
theorem law_WalKeeps (v : Value) (S : List Wo) {w : World} (hSK : WScrK w v S) (hv : Va w.heap.size w) :
    Calls Tryz.prog 4 #[v] w fun e w' => e = .returned (.bool true) ∧ Below w.heap.size w w' := by
  obtain ⟨i0, hi, hz0, hz1, hz2⟩ := info_parts info_int09
  obtain ⟨i4, hi4, hy0, hy1, hy2⟩ := info_parts Tryz.info04_string
  have hS := hSK.scr
  have HCAP : Hid (∀ o ∈ S, CapK o.list) := hSK.cap
  obtain ⟨p, c, rfl⟩ := hS.read.len
  have HV := Lib.hid hv
  have HS := Lib.hid hS
  have hsl' : (S.length : Int) ≤ 9223372036854775807 := by have := hS.len; unfold maxLen at this; omega
  clear hv hS hSK
  go_enter Tryz.func4, Tryz.ntmps4
  go_wp2_with fail
  refine (awake09_any w HV.out).mono ?_
  rintro e w1 ⟨rfl, g1⟩
  have G1 := Lib.hid g1
  clear g1
  go_wp2_with fail
  refine (great09_any _ S w1 (HS.out.keep G1.out).read HS.out.len (HS.out.keep G1.out).each).mono ?_
  rintro e w2 ⟨he, g2⟩
  have G2 := Lib.hid (grow_none G1.out g2)
  have AW := Lib.hid (awake09_any w2 ((HV.out.keep G2.out).mono G2.out.size))
  rcases he with rfl | ⟨rfl, hlen, hsm⟩
  · clear g2
    go_wp2_with fail
    refine AW.out.mono ?_
    rintro e w3 ⟨rfl, g3⟩
    have G3 := Lib.hid (grow_none G2.out g3)
    clear g3
    go_wp2
    go_ret
    exact ⟨rfl, below_of_none G3.out⟩
  have HLEN := Lib.hid hlen
  have HSM : Hid (∀ o ∈ S, ∀ ls ks, WoOk w o ls ks → WoSm o ls ks) := fun o ho ls ks h => hsm o ho ls ks (h.keep G1.out)
  clear hlen hsm g2
  have V2 := Lib.hid (HV.out.keep G2.out)
  obtain ⟨B, hBB⟩ : ∃ B, B = w.heap.size := ⟨_, rfl⟩
  rw [← hBB] at V2
  have HBE := Lib.hid hBB
  have hs1 : (S.length : Int) ≤ 100 := by have := HLEN.out; omega
  clear hBB AW
  go_wp2_with fail
  refine (New_any w2).mono ?_
  rintro e w3 ⟨rfl, h3, g3⟩
  have V3 := Lib.hid (V2.out.keep g3)
  have B3 : Hid (B ≤ w2.heap.size) := by show B ≤ _; have := HBE.out; have := G2.out.size; omega
  have H3 := Lib.hid h3
  have G3 := Lib.hid (grow_none G2.out g3)
  have Z3 := Lib.hid g3.size
  obtain ⟨db, hdb⟩ : ∃ db, db = w2.heap.size + 1 := ⟨_, rfl⟩
  obtain ⟨mb, hmb⟩ : ∃ mb, mb = w2.heap.size := ⟨_, rfl⟩
  rw [← hdb, ← hmb] at H3
  rw [← hdb]
  have LO3 : Hid (∀ i, DS db mb (fun _ => none) i → B ≤ i) := by
    intro i hi
    have := B3.out
    rcases hi with rfl | rfl | ⟨s, hs⟩
    · omega
    · omega
    · cases hs
  clear h3 g3 hdb hmb
  go_wp2_with fail
  refine (Open_good H3.out V3.out LO3.out (Nat.le_trans B3.out Z3.out) Good.new (by decide)).mono ?_
  rintro e w4 ⟨v4, G4, rfl, o4, n4, f4, h4, c4, x4⟩
  have W4 := Lib.hid h4
  have E4 : Hid (Below B w w4) := by
    have := HBE.out
    subst this
    exact (below_of_none G3.out).trans (c4.below (Nat.le_trans B3.out Z3.out) LO3.out)
  obtain ⟨lb, hlb⟩ : ∃ lb, lb = w3.heap.size := ⟨_, rfl⟩
  rw [← hlb] at W4
  rw [← hlb]
  obtain ⟨a4, k4, rfl⟩ := own_form o4
  clear o4 n4 f4 h4 c4 x4 hlb
  go_wp2
  go_loopw [4, 5, 6, 7, 8, 9, 10, 35] (fun vl vb vt ve vm vy vg i wr => ∃ j : Nat, j ≤ S.length ∧ i = .int .i64 j ∧ Keep B w db mb j vl vb vt vm vy vg wr) (fun _ _ _ _ _ _ _ i _ => S.length - (intOf i).toNat)
  case atStart =>
    refine ⟨0, Nat.zero_le _, rfl, 0, G4, newD, ⟨#[]⟩, [], [], ⟨#[]⟩, false, rfl, rfl, rfl, W4.out.wat.dr, W4.out.va, fun i hi => W4.out.lo i (.inr hi), W4.out.hb, E4.out, Hf.of_same Good.new (fun s e he => by cases he) rfl, Nat.le_refl _, Nat.le_refl _, fun s e he => (by cases he), RowN.nil _ _ _ _, Nat.le_refl _, ⟨⟨none, 0, rfl, .inl rfl⟩, fun p n c e => by injection e with _ e2 e3; omega⟩, Nat.zero_le _, .inr ⟨lb, ⟨0, 0, 0, false⟩, rfl, W4.out.wat, W4.out.lo lb (.inl rfl), Good.new, RowN.nil _ _ _ _⟩⟩
  case round =>
    obtain ⟨j, hj, rfl, hK⟩ := hrel
    have KP := Lib.hid hK
    by_cases hlt : j < S.length
    · obtain ⟨n', G, d, base, recs, M, ly, lg, rfl, rfl, rfl, hd, hva, hlo, hb, hbel, hHf, hst, hn', hnm, hrow, hrl, hrm, hml, hal⟩ := hK
      have HD := Lib.hid hd
      have HVA := Lib.hid hva
      have HLO := Lib.hid hlo
      have HB := Lib.hid hb
      have HBEL := Lib.hid hbel
      have HHF := Lib.hid hHf
      have HST := Lib.hid hst
      have HN' := Lib.hid hn'
      have HNM := Lib.hid hnm
      have HROW := Lib.hid hrow
      have HRL := Lib.hid hrl
      have HRM := Lib.hid hrm
      have HML := Lib.hid hml
      have HAL := Lib.hid hal
      have GW : Hid (w.grownBy wr none) := by
        rw [HBE.out] at hbel
        exact grow_of_below hbel
      obtain ⟨at0, ct0, rfl, hct0⟩ := hrow.form
      obtain ⟨am0, cm0, rfl⟩ := row_form hrm.1
      rw [List.length_map] at HROW HAL KP ⊢
      obtain ⟨o, ho⟩ : ∃ o, o = S[j] := ⟨_, rfl⟩
      obtain ⟨g, off, rfl, hgl, r0, r1, r2, r3, r4, r5⟩ := wo_at (HS.out.keep GW.out).read rfl j hlt o (by rw [ho, List.getElem?_eq_getElem])
      have hmem : o ∈ S := by rw [ho]; exact List.getElem_mem hlt
      obtain ⟨ls, k2, hok⟩ := HS.out.each o hmem
      have HCP := Lib.hid (HCAP.out o hmem)
      have HSMO := Lib.hid (HSM.out o hmem ls k2 hok)
      have HOK0 := Lib.hid hok
      have HOK := Lib.hid (hok.keep GW.out)
      obtain ⟨am, cm, e'⟩ := rowLen hok.rl
      obtain ⟨an, cn, e7⟩ := rowLen hok.rk
      rw [List.length_map] at e' e7
      rw [e'] at r1
      rw [e7] at r5
      have HE' := Lib.hid e'
      have HE7 := Lib.hid e7
      have j1 : (j : Int) < S.length := by omega
      have j0 : (0 : Int) ≤ j := by omega
      have HJ := Lib.hid hlt
      have HNUM : Hid (o.num ≤ 9223372036854775807) := hok.nm.2
      clear ho hmem hok e' e7 hlt hd hva hlo hb hbel hHf hst hn' hnm hrow hrl hrm hml hal hj hct0
      by_cases k1 : o.kind = 1
      · rw [k1] at r0
        clear k1
        rcases HAL.out with rfl | ⟨lb, c, rfl, hW, hBl, hG, hR3⟩
        · have GA := Lib.hid (World.grownBy_alloc wr (.cells #[.int .i64 1, .slice am ls.length cm, .string o.text, .string o.name, .int .i64 o.num, .slice an k2.length cn] 37) none)
          go_wp2
          go_roundw
          case rel => exact ⟨j + 1, by have := HJ.out; omega, by go_num, KP.out.next GA.out⟩
          case measure => have := HJ.out; simp [intOf]; omega
        · obtain ⟨wA, hwA⟩ : ∃ wA, wA = wr.alloc (.cells #[.int .i64 1, .slice am ls.length cm, .string o.text, .string o.name, .int .i64 o.num, .slice an k2.length cn] 37) := ⟨_, rfl⟩
          have gA : wr.grownBy wA none := by rw [hwA]; exact World.grownBy_alloc _ _ _
          have HOB : Hid (Blk wA wr.heap.size 37 [.int .i64 1, .slice am ls.length cm, .string o.text, .string o.name, .int .i64 o.num, .slice an k2.length cn]) := by rw [hwA]; exact Blk.new wr _ _
          have LL := Lib.hid (last_le hG HNM.out)
          have WA : Hid (Wl B wA lb db mb n' G c d) := ⟨hW.keep gA, HVA.out.keep gA, fun i hi => (by rcases hi with rfl | hi; exact hBl; exact HLO.out i hi), Nat.le_trans HB.out gA.size⟩
          have GA := Lib.hid gA
          have HG := Lib.hid hG
          have R3 := Lib.hid (hR3.keep gA)
          have HNO : Hid (¬ Own3 lb db mb G wr.heap.size) := fun h => by
            rcases h with h | h
            · have := hW.lt; omega
            · have := hW.dr.live _ h; omega
          have EA := Lib.hid (HBEL.out.trans (bel_none gA HB.out))
          have RLA : Hid (RowAt wA (.slice am ls.length cm) (ls.map Value.string)) := by
            have := HOK.out.rl.kept gA
            rw [HE'.out] at this; exact this
          have RLW : Hid (RowAt w (.slice am ls.length cm) (ls.map Value.string) ∧ CapK (.slice am ls.length cm)) := by
            have h1 := HOK0.out.rl
            have h2 := HCP.out
            rw [HE'.out] at h1 h2; exact ⟨h1, h2⟩
          have HLS : Hid (ls.length ≤ 16384) := by have := HSMO.out.2.2; have := HSMO.out.1; show _ ≤ _; omega
          clear hW hBl hG hR3 gA
          go_wp2_with fail
          rw [← hwA]
          clear hwA
          refine (own09_any _ ls _ RLA.out (by have := HLS.out; omega)).mono ?_
          rintro e w7 ⟨v7, rfl, o7, n7, g7⟩
          have R7 := Lib.hid (RowAt.of_own o7)
          have OB7 := Lib.hid (HOB.out.keep g7)
          have W7 := Lib.hid (WA.out.keep g7)
          have E7 := Lib.hid (EA.out.trans (bel_none g7 WA.out.hb))
          have T7 := Lib.hid (R3.out.keep g7)
          clear o7 n7 g7
          go_wp2_with fail
          refine (Append_keep _ W7.out HG.out (nok_of HNM.out (by have := HLEN.out; have := HJ.out; omega)) R7.out (by have := HLS.out; omega) (fun s hs => by have := HSMO.out.2.1 s hs; omega) (by have := LL.out.1; have := HLEN.out; have := HJ.out; omega) (by have := HST.out; have := HLEN.out; have := HJ.out; omega) (by have := HN'.out; have := HLEN.out; have := HJ.out; omega)).mono ?_
          rintro e w8 ⟨x, n8, c8, d8, rfl, hn8, ⟨G8, k81, k82, k83⟩, hdm, hs8, hl8, hx⟩
          obtain ⟨W8, E8⟩ := W7.out.of k81 k82 k83
          have W8 := Lib.hid W8
          have E8 := Lib.hid (E7.out.trans E8)
          have OB8 := Lib.hid (k82.blk OB7.out HNO.out)
          have R8 := Lib.hid (T7.out.over k82 k83)
          have DM8 := Lib.hid (dom_of HNM.out hdm (by have := LL.out.1; omega))
          have ST8 : Hid (d8.steps ≤ 2000 * (j + 1) ∧ n8 ≤ j + 1) := by
            have h1 := HST.out
            have h5 := HN'.out
            show _ ∧ _
            omega
          have NOK8 := Lib.hid (nok_of DM8.out (by have := HLEN.out; have := HJ.out; omega))
          have c18 : w8.cell? ⟨wr.heap.size, 1, none⟩ = some (.slice am ls.length cm) := OB8.out.cell 1 (by simp)
          have HX := Lib.hid hx
          clear k81 k82 k83 hdm hs8 hl8 hn8 hx
          rcases HX.out with ⟨rfl, hg8⟩ | ⟨rfl, hh8⟩ | ⟨hx0, hx5, hg8⟩
          · have HG8 := Lib.hid hg8
            have RL8 : Hid (RowAt w8 (.slice am ls.length cm) (ls.map Value.string)) := by
              have h := E8.out
              rw [HBE.out] at h
              exact RLW.out.1.kept (grow_of_below h)
            clear hg8
            go_wp2_with fail
            have hb8 : wr.heap.size < w8.heap.size := OB8.out.lt
            obtain ⟨wB, hwB⟩ : ∃ wB, wB = w8.drew.alloc (.cells #[] 9) := ⟨_, rfl⟩
            have gB : w8.grownBy wB none := by rw [hwB]; exact grow_drew _ (World.grownBy_alloc w8.drew _ none)
            have hzB : wB.heap.size = w8.heap.size + 1 := by rw [hwB]; simp
            have F5 : Hid (∀ (W : World), wB.grownBy W (some w8.heap.size) → W.cell? ⟨wr.heap.size, 1, none⟩ = some (.slice am ls.length cm) ∧ RowAt W (.slice am ls.length cm) (ls.map Value.string) ∧ w8.grownBy W none) := by
              intro W g
              have g8 : w8.grownBy W none := ⟨g.os.trans gB.os, g.tape.trans gB.tape, g.output.trans gB.output, Nat.le_trans gB.size g.size, fun i hi _ => (g.block i (by omega) (fun e => by injection e with e; omega)).trans (gB.block i hi (by simp))⟩
              exact ⟨(OB8.out.keep g8).cell 1 (by simp), RL8.out.kept g8, g8⟩
            have oA : wB.ownsRow 0 9 1 (.slice (some ⟨w8.heap.size, 0, none⟩) 0 0) 0 [] := by rw [hwB]; exact own_empty w8.drew _ _
            have rA : RowAt wB (.slice at0 recs.length ct0) (recs.map Value.string) := R8.out.row.kept gB
            have cA : wB.cell? ⟨wr.heap.size, 1, none⟩ = some (.slice am ls.length cm) := (OB8.out.keep gB).cell 1 (by simp)
            have HRL5 := Lib.hid (show recs.length ≤ 2000000 by have := HRL.out; have := HLEN.out; have := HJ.out; omega)
            rw [hwB] at oA rA cA
            have FB : Hid (∀ W : World, (w8.drew.alloc (.cells #[] 9)).grownBy W (some w8.heap.size) → wB.grownBy W (some w8.heap.size)) := fun W g => by rw [hwB]; exact g
            clear hwB gB hzB
            have LV8 : Hid (∀ i, Own3 lb db mb G8 i → i < w8.heap.size) := fun i hi => by
              rcases hi with rfl | hi
              · exact W8.out.wat.lt
              · exact W8.out.wat.dr.live i hi
            go_region_law (first
              | ((with_reducible show (if Region.wanted (Oper.mk _ (Op.call { callee := .builtin .append, args := #[.tmp 54, .tmp 55], argTypes := _ }) _ _ _ _) _ = true then _ else _)); refine step_append_row (.tmp 54) (.tmp 55) 34 (by with_reducible rfl) 9 i4 (.string ⟨#[]⟩) 16 Tryz.underlying34 hi4 hy0 hy1 hy2 rfl _ _ _ rfl oA _ (recs.map Value.string) rfl rA (ones_str recs) (by rw [List.length_map]; have := HRL5.out; show _ ≤ 2^63-1; omega) (by rw [List.length_map]; have := HRL5.out; omega) rfl ?_; intro v5 w5 o5 g5 m5; obtain ⟨c15, r15, g15⟩ := F5.out w5 (FB.out w5 g5); have N5 := Lib.hid ((newblk_at w8 w8.heap.size 0 0 (Nat.le_refl _) 0).moved (grow_drawn (World.grownBy_alloc w8 (.cells #[] 9) none)).size m5); clear g5 m5)
              | ((with_reducible show (if Region.wanted (Oper.mk _ (Op.call { callee := .builtin .append, args := #[.tmp 56, .tmp 58], argTypes := _ }) _ _ _ _) _ = true then _ else _)); refine step_append_row (.tmp 56) (.tmp 58) 34 (by with_reducible rfl) 9 i4 (.string ⟨#[]⟩) 16 Tryz.underlying34 hi4 hy0 hy1 hy2 rfl _ _ _ rfl o5 _ (ls.map Value.string) rfl r15 (ones_str ls) (by simp only [List.length_map]; have := HRL5.out; have := HLS.out; show _ ≤ 2^63-1; omega) (by simp only [List.length_map]; have := HRL5.out; have := HLS.out; omega) rfl ?_; intro v6 w6 o6 g6 m6; have X6 := Lib.hid (grow_newblk g15 N5.out g6); have N6 := Lib.hid (N5.out.moved g15.size m6); have R6 := Lib.hid (show RowN (Own3 lb db mb G8) w6 v6 ((recs ++ ls).map Value.string) by rw [List.map_append]; exact RowN.of_new o6 N6.out LV8.out); clear o6 g6 m6))
            all_goals
              go_wp2
              go_roundw
              case rel => exact ⟨j + 1, by have := HJ.out; omega, by go_num, Keep.mk' (W8.out.keep X6.out) (E8.out.trans (bel_none X6.out W8.out.hb)) DM8.out ST8.out.1 ST8.out.2 (Hf.of_same HG8.out NOK8.out rfl) R6.out (by rw [List.length_append]; have := HRL.out; have := HLS.out; omega) HRM.out HML.out (.inr ⟨rfl, HG8.out⟩)⟩
              case measure => have := HJ.out; simp [intOf]; omega
          · have HH8 := Lib.hid hh8
            clear hh8
            go_wp2
            go_roundw
            case rel => exact ⟨j + 1, by have := HJ.out; omega, by go_num, Keep.mk' W8.out E8.out DM8.out ST8.out.1 ST8.out.2 (HH8.out.wide1 _) R8.out (by have := HRL.out; omega) RLW.out (by have := HLS.out; omega) (.inl rfl)⟩
            case measure => have := HJ.out; simp [intOf]; omega
          · have HG8 := Lib.hid hg8
            have e0 : (x == 0) = false := by simpa using hx0
            have e5 : (x == 50) = false := by simpa using hx5
            clear hg8 hx0 hx5
            go_wp2
            go_roundw
            case rel => exact ⟨j + 1, by have := HJ.out; omega, by go_num, Keep.mk' W8.out E8.out DM8.out ST8.out.1 ST8.out.2 (Hf.of_same HG8.out NOK8.out rfl) R8.out (by have := HRL.out; omega) HRM.out HML.out (.inr ⟨rfl, HG8.out⟩)⟩
            case measure => have := HJ.out; simp [intOf]; omega
      by_cases k2' : o.kind = 2
      · rw [k2'] at r0
        clear k1 k2'
        rcases HAL.out with rfl | ⟨lb, c, rfl, hW, hBl, hG, hR3⟩
        · have GA := Lib.hid (World.grownBy_alloc wr (.cells #[.int .i64 2, .slice am ls.length cm, .string o.text, .string o.name, .int .i64 o.num, .slice an k2.length cn] 37) none)
          go_wp2
          go_roundw
          case rel => exact ⟨j + 1, by have := HJ.out; omega, by go_num, KP.out.next GA.out⟩
          case measure => have := HJ.out; simp [intOf]; omega
        · obtain ⟨wA, hwA⟩ : ∃ wA, wA = wr.alloc (.cells #[.int .i64 2, .slice am ls.length cm, .string o.text, .string o.name, .int .i64 o.num, .slice an k2.length cn] 37) := ⟨_, rfl⟩
          have gA : wr.grownBy wA none := by rw [hwA]; exact World.grownBy_alloc _ _ _
          have HOB : Hid (Blk wA wr.heap.size 37 [.int .i64 2, .slice am ls.length cm, .string o.text, .string o.name, .int .i64 o.num, .slice an k2.length cn]) := by rw [hwA]; exact Blk.new wr _ _
          have LL := Lib.hid (last_le hG HNM.out)
          have WA : Hid (Wl B wA lb db mb n' G c d) := ⟨hW.keep gA, HVA.out.keep gA, fun i hi => (by rcases hi with rfl | hi; exact hBl; exact HLO.out i hi), Nat.le_trans HB.out gA.size⟩
          have GA := Lib.hid gA
          have HG := Lib.hid hG
          have R3 := Lib.hid (hR3.keep gA)
          have HNO : Hid (¬ Own3 lb db mb G wr.heap.size) := fun h => by
            rcases h with h | h
            · have := hW.lt; omega
            · have := hW.dr.live _ h; omega
          have EA := Lib.hid (HBEL.out.trans (bel_none gA HB.out))
          clear hW hBl hG hR3 gA
          go_wp2_with fail
          rw [← hwA]
          clear hwA
          refine (Lay_keep o.text WA.out HG.out (nok_of HNM.out (by have := HLEN.out; have := HJ.out; omega)) (by have := HSMO.out.1; omega) (by have := LL.out.1; have := HLEN.out; have := HJ.out; omega) (by have := LL.out; have := HST.out; have := HLEN.out; have := HJ.out; omega) (by have := HN'.out; have := HLEN.out; have := HJ.out; omega)).mono ?_
          rintro e w8 ⟨x, n8, c8, d8, rfl, hn8, ⟨G8, k81, k82, k83⟩, hdm, hs8, hl8, hx⟩
          obtain ⟨W8, E8⟩ := WA.out.of k81 k82 k83
          have W8 := Lib.hid W8
          have E8 := Lib.hid (EA.out.trans E8)
          have OB8 := Lib.hid (k82.blk HOB.out HNO.out)
          have R8 := Lib.hid (R3.out.over k82 k83)
          have DM8 := Lib.hid (dom_of HNM.out hdm (by have := LL.out.1; omega))
          have ST8 : Hid (d8.steps ≤ 2000 * (j + 1) ∧ n8 ≤ j + 1) := by
            have h1 := HST.out
            have h2 := LL.out
            have h3 := HLEN.out
            have h4 := HJ.out
            have h5 := HN'.out
            show _ ∧ _
            omega
          have c28 : w8.cell? ⟨wr.heap.size, 2, none⟩ = some (.string o.text) := OB8.out.cell 2 (by simp)
          have HX := Lib.hid hx
          clear k81 k82 k83 hdm hs8 hl8 hn8 hx
          rcases HX.out with ⟨rfl, hg8⟩ | ⟨rfl, hh8⟩
          · have HG8 := Lib.hid hg8
            clear hg8
            go_wp2
            go_roundw
            case rel => exact ⟨j + 1, by have := HJ.out; omega, by go_num, Keep.mk' W8.out E8.out DM8.out ST8.out.1 ST8.out.2 (Hf.of_same HG8.out (nok_of DM8.out (by have := HLEN.out; have := HJ.out; omega)) rfl) (RowN.nil _ _ _ _) (Nat.zero_le _) HRM.out HML.out (.inr ⟨rfl, HG8.out⟩)⟩
            case measure => have := HJ.out; simp [intOf]; omega
          · have HH8 := Lib.hid hh8
            clear hh8
            go_wp2
            go_roundw
            case rel => exact ⟨j + 1, by have := HJ.out; omega, by go_num, Keep.mk' (lg := true) (ly := o.text) W8.out E8.out DM8.out ST8.out.1 ST8.out.2 (HH8.out.wide2 M) R8.out (by have := HRL.out; omega) HRM.out HML.out (.inl rfl)⟩
            case measure => have := HJ.out; simp [intOf]; omega
      by_cases k3 : o.kind = 3
      · rw [k3] at r0
        clear k1 k2' k3
        go_wp2_with fail
        have GA := Lib.hid (World.grownBy_alloc wr (.cells #[.int .i64 3, .slice am ls.length cm, .string o.text, .string o.name, .int .i64 o.num, .slice an k2.length cn] 37) none)
        refine (Fuse_any db mb n' G d o.num _ (HD.out.keep GA.out) HNUM.out).mono ?_
        rintro e w8 ⟨rfl, hD8⟩
        have K8 := Lib.hid (Keep.fuse (HD.out.keep GA.out) (HVA.out.keep GA.out) HLO.out (Nat.le_trans HB.out GA.out.size) (HBEL.out.trans (bel_none GA.out HB.out)) HHF.out HST.out HN'.out HNM.out (HROW.out.keep GA.out) HRL.out HRM.out HML.out (by
          rcases HAL.out with q | ⟨lb, c, q1, q2, q3, q4, q5⟩
          · exact .inl q
          · exact .inr ⟨lb, c, q1, q2.keep GA.out, q3, q4, q5.keep GA.out⟩) hD8)
        clear hD8
        go_wp2
        go_roundw
        case rel => exact ⟨j + 1, by have := HJ.out; omega, by go_num, K8.out⟩
        case measure => have := HJ.out; simp [intOf]; omega
      by_cases k4 : o.kind = 4
      · rw [k4] at r0
        clear k1 k2' k3 k4
        obtain ⟨wA, hwA⟩ : ∃ wA, wA = wr.alloc (.cells #[.int .i64 4, .slice am ls.length cm, .string o.text, .string o.name, .int .i64 o.num, .slice an k2.length cn] 37) := ⟨_, rfl⟩
        have gA : wr.grownBy wA none := by rw [hwA]; exact World.grownBy_alloc _ _ _
        have GA := Lib.hid gA
        have RK : Hid (RowAt wA (.slice an k2.length cn) (k2.map (Value.int .i64))) := by
          have := HOK.out.rk.kept gA
          rw [HE7.out] at this; exact this
        have HKL : Hid (k2.length ≤ 16384) := by have := HSMO.out.1; show _ ≤ _; omega
        rw [hwA] at RK
        go_wp2_with (at_builtin; refine wpList_append_row _ rfl _ _ 35 rfl 3 i0 (.int .i64 0) 8 Tryz.underlying35 hi hz0 hz1 hz2 rfl _ _ _ rfl (own_empty2 wr _ _ _) _ (k2.map (Value.int .i64)) rfl (RK.out.kept (World.grownBy_alloc _ _ _)) (ones_int k2) (by rw [List.length_map]; have := HKL.out; show _ ≤ 2^63-1; omega) (by rw [List.length_map]; have := HKL.out; omega) ?_)
        intro v5 w5 o5 g5 m5
        have hzA : wA.heap.size = wr.heap.size + 1 := by rw [hwA]; simp
        rw [← hwA, ← hzA] at g5 m5
        clear hwA gA hzA
        have N5 := Lib.hid (own_ints (ks := k2) (by simpa using o5) g5 m5)
        have D5 := Lib.hid (HD.out.keep (grow_none GA.out N5.out.2.1))
        have V5 := Lib.hid (HVA.out.keep (grow_none GA.out N5.out.2.1))
        have B5 : Hid (B ≤ w5.heap.size) := Nat.le_trans HB.out (grow_none GA.out N5.out.2.1).size
        have E5 := Lib.hid (HBEL.out.trans (bel_none (grow_none GA.out N5.out.2.1) HB.out))
        have T5 := Lib.hid (HROW.out.keep (grow_none GA.out N5.out.2.1))
        have R5 : Hid (RowN (DS db mb G) w5 v5 (ints k2)) := RowN.of_new o5 N5.out.1 (fun i hi => (HD.out.keep GA.out).live i hi)
        clear o5 g5 m5
        go_wp2_with fail
        refine (Crash_any db mb n' G d k2 v5 w5 D5.out R5.out).mono ?_
        rintro e w6 ⟨rfl, ts, hN, htn, G6, d6, c6, f6⟩
        have HNF := Lib.hid (Names.toF D5.out hN)
        have hb6 := c6.below B5.out HLO.out
        have D6 := Lib.hid d6
        have V6 := Lib.hid (V5.out.below hb6)
        have L6 := Lib.hid (lo_overD HLO.out B5.out f6)
        have B6 : Hid (B ≤ w6.heap.size) := Nat.le_trans B5.out c6.size
        have E6 := Lib.hid (E5.out.trans hb6)
        have T6 := Lib.hid (T5.out.overD c6 f6)
        clear hN htn d6 c6 f6 hb6
        go_wp2_with fail
        refine (Open_found D6.out V6.out L6.out B6.out rfl rfl (HHF.out.1.crash k2 ts) (crash_settled HNF.out) (by have := HST.out; have := HN'.out; have := HLEN.out; have := HJ.out; show d.steps + n' < 900000; omega)).mono ?_
        rintro e w7 ⟨v7, c7, d7, base7, recs7, G7, ts7, hN7, hf7, hlg7, hdom7, hW7, hch7, hnew7, hg7, hs7, hl7, rfl, hr7, hd7, hv7, ho7, hb7, hbel7⟩
        have FND := Lib.hid (HHF.out.2 k2 ts ts7 c7 base7 recs7 HNF.out hN7 hf7 hlg7)
        obtain ⟨a7, k7, rfl, hk7⟩ := hr7.form
        rw [List.length_map] at hr7 hk7 ⊢
        have T7 := Lib.hid (T6.out.overD hch7 hnew7)
        have HG7 := Lib.hid hg7
        have HL7 := Lib.hid hl7
        have HR7 := Lib.hid hr7
        have W7 : Hid (Wl B w7 w6.heap.size db mb n' G7 c7 d7) := ⟨hW7, hv7, fun i hi => (by rcases hi with rfl | hi; exact B6.out; exact ho7 i hi), hb7⟩
        have E7 := Lib.hid (E6.out.trans hbel7)
        have DM7 : Hid (∀ t e, d7.F t = some e → ∃ k, 1 ≤ k ∧ k ≤ j + 1 ∧ t = nameW k) := fun t e he => by
          obtain ⟨e1, h1⟩ := hdom7 t e he
          obtain ⟨e2, h2⟩ := crK_dom d.F k2 ts ts.length (Nat.le_refl _) h1
          obtain ⟨k, q1, q2, q3⟩ := HNM.out t e2 h2
          exact ⟨k, q1, by omega, q3⟩
        have ST7 : Hid (d7.steps ≤ 2000 * (j + 1) ∧ n' ≤ j + 1) := by
          have h1 := HST.out
          have h2 := HN'.out
          have h3 : d7.steps ≤ d.steps + 1000 := hs7
          show _ ∧ _
          omega
        obtain ⟨lb7, hlb7⟩ : ∃ lb7, lb7 = w6.heap.size := ⟨_, rfl⟩
        rw [← hlb7] at W7 HR7
        rw [← hlb7]
        have HK7 := Lib.hid hk7
        have hk7i : (recs7.length : Int) ≤ k7 := by omega
        clear hN7 hf7 hlg7 hdom7 hW7 hch7 hnew7 hg7 hs7 hl7 hr7 hd7 hv7 ho7 hb7 hbel7 hk7 hlb7
        have HRL9 : Hid (recs.length ≤ maxLen) := by have := HRL.out; have := HLEN.out; have := HJ.out; show _ ≤ 2^63-1; omega
        have GW7 : Hid (w.grownBy w7 none) := by
          have h := E7.out
          rw [HBE.out] at h
          exact grow_of_below h
        have HBG := Lib.hid (begins_any (.slice at0 recs.length ct0) (.slice a7 recs7.length k7) recs recs7 w7 T7.out.row _ HR7.out HRL9.out HL7.out)
        have HFIN : Hid (∀ (w9 : World) (vm' : Value), w7.grownBy w9 none → recs7.length ≤ 20000 * (j + 1) → Keep B w db mb (j + 1) (.pointer (some ⟨lb7, 0, none⟩)) (.string base7) (.slice a7 recs7.length k7) (.slice none 0 0) (.string ly) (.bool false) w9) := fun w9 _ g hrl9 =>
          Keep.mk' (M := []) (W7.out.keep g) (E7.out.trans (bel_none g W7.out.hb)) DM7.out ST7.out.1 ST7.out.2 (Hf.of_same HG7.out (nok_of DM7.out (by have := HLEN.out; have := HJ.out; omega)) rfl) (HR7.out.keep g) hrl9 ⟨⟨none, 0, rfl, .inl rfl⟩, fun p n c e => by injection e with _ e2 e3; omega⟩ (Nat.zero_le _) (.inr ⟨rfl, HG7.out⟩)
        have HMC : Hid (∀ w9 : World, w7.grownBy w9 none → RowN (fun _ => False) w9 (.slice am0 M.length cm0) (M.map Value.string)) := fun w9 g => RowN.of_cap (HRM.out.1.kept (grow_none GW7.out g)) HRM.out.2
        have HML9 : Hid (M.length ≤ maxLen) := by have := HML.out; show _ ≤ 2^63-1; omega
        rcases FND.out with ⟨hbe, k, hkM, hre⟩ | ⟨hlay, hre⟩
        · subst hbe
          have HRE := Lib.hid hre
          have HLE : Hid (recs.length ≤ recs7.length ∧ recs7.length ≤ recs.length + 20000 ∧ recs7.length - recs.length = k) := by
            rw [hre]
            rw [List.length_append, List.length_take]
            have := HML.out
            show _ ∧ _ ∧ _
            omega
          have hle1 : (recs.length : Int) ≤ recs7.length := by have := HLE.out.1; omega
          have hd1 : decide (recs = recs7.take recs.length) = true := decide_eq_true (by rw [HRE.out, List.take_left])
          rw [hd1] at HBG
          have hbb : (base7.toList == base7.toList) = true := by simp
          have HDR : Hid (recs7.drop recs.length = M.take k) := by show _ = _; rw [HRE.out, List.drop_left]
          have hd2 : decide (recs7.drop recs.length = M.take (recs7.drop recs.length).length) = true := decide_eq_true (by rw [HDR.out, List.length_take, Nat.min_eq_left hkM])
          have HD2 := Lib.hid hd2
          clear hre hkM hd1 hd2
          go_wp2_with fail
          refine HBG.out.mono ?_
          rintro e w8 ⟨rfl, g8⟩
          have HDP := Lib.hid ((HR7.out.keep g8).drop (k := recs.length) HLE.out.1 (by rw [List.length_map])).row
          have G8 := Lib.hid g8
          clear g8
          have HB2 : Hid (∀ v : Value, RowAt w8 v ((recs7.map Value.string).drop recs.length) → Calls Tryz.prog 21 #[v, .slice am0 M.length cm0] w8 fun e w' => e = .returned (.bool true) ∧ w8.grownBy w' none) := fun v hv => by
            have := begins_any _ _ (recs7.drop recs.length) M w8 (by rw [List.map_drop]; exact hv) _ (HMC.out w8 G8.out) (by rw [List.length_drop]; have := HL7.out; omega) HML9.out
            rw [HD2.out] at this
            exact this
          have K9 : Hid (∀ w9 : World, w8.grownBy w9 none → Keep B w db mb (j + 1) (.pointer (some ⟨lb7, 0, none⟩)) (.string base7) (.slice a7 recs7.length k7) (.slice none 0 0) (.string ly) (.bool false) w9) := fun w9 g => HFIN.out w9 (.slice none 0 0) (grow_none G8.out g) (by have := HLE.out.2.1; have := HRL.out; omega)
          have K9' : Hid (∀ w9 : World, w8.grownBy w9 none → k7 = recs.length → Keep B w db mb (j + 1) (.pointer (some ⟨lb7, 0, none⟩)) (.string base7) (.slice a7 recs7.length recs.length) (.slice none 0 0) (.string ly) (.bool false) w9) := fun w9 g hq => by have := K9.out w9 g; rw [hq] at this; exact this
          have HDP1 : Hid (k7 = recs.length → RowAt w8 (.slice a7 (recs7.length - recs.length) 0) ((recs7.map Value.string).drop recs.length)) := fun hq => by
            have h := HDP.out
            rw [if_pos hq, hq, Nat.sub_self] at h
            exact h
          have HDP2 : Hid (¬ k7 = recs.length → RowAt w8 (.slice (a7.map fun x => x.add recs.length) (recs7.length - recs.length) (k7 - recs.length)) ((recs7.map Value.string).drop recs.length)) := fun hq => by
            have h := HDP.out
            rw [if_neg hq] at h
            exact h
          clear HDP
          go_wp2_with fail
          · have hq : k7 = recs.length := by assumption
            refine (HB2.out _ (HDP1.out hq)).mono ?_
            rintro e w9 ⟨rfl, g9⟩
            have K5 := Lib.hid (K9'.out w9 g9 hq)
            clear g9 K9' K9 HDP1 HDP2 HB2 hq
            go_wp2
            go_roundw
            case rel => exact ⟨j + 1, by have := HJ.out; omega, by go_num, K5.out⟩
            case measure => have := HJ.out; simp [intOf]; omega
          · have hq : ¬ k7 = recs.length := by assumption
            refine (HB2.out _ (HDP2.out hq)).mono ?_
            rintro e w9 ⟨rfl, g9⟩
            have K5 := Lib.hid (K9.out w9 g9)
            clear g9 K9' K9 HDP1 HDP2 HB2 hq
            go_wp2
            go_roundw
            case rel => exact ⟨j + 1, by have := HJ.out; omega, by go_num, K5.out⟩
            case measure => have := HJ.out; simp [intOf]; omega
        · subst hre
          obtain ⟨rfl, rfl⟩ : lg = true ∧ ly = base7 := by
            cases lg with
            | false => simp at hlay
            | true => exact ⟨rfl, by simpa using hlay⟩
          clear hlay
          have hbb : (ly.toList == ly.toList) = true := by simp
          by_cases hbe : ly = base
          · subst hbe
            by_cases hr0 : recs = []
            · subst hr0
              have hd1 : decide (([] : List ByteArray) = ([] : List ByteArray).take ([] : List ByteArray).length) = true := rfl
              rw [hd1] at HBG
              go_wp2_with fail
              refine HBG.out.mono ?_
              rintro e w8 ⟨rfl, g8⟩
              have G8 := Lib.hid g8
              clear g8
              by_cases hq : k7 = 0
              · subst hq
                go_wp2_with fail
                refine (begins_any _ (.slice am0 M.length cm0) [] M w8 ⟨_, _, rfl, .inl rfl⟩ _ (HMC.out w8 G8.out) (Nat.zero_le _) HML9.out).mono ?_
                rintro e w9 ⟨rfl, g9⟩
                have K9 := Lib.hid (HFIN.out w9 (.slice none 0 0) (grow_none G8.out g9) (Nat.zero_le _))
                clear g9
                go_wp2
                go_roundw
                case rel => exact ⟨j + 1, by have := HJ.out; omega, by go_num, K9.out⟩
                case measure => have := HJ.out; simp [intOf]; omega
              · go_wp2_with fail
                refine (begins_any _ (.slice am0 M.length cm0) [] M w8 ⟨_, _, rfl, .inl rfl⟩ _ (HMC.out w8 G8.out) (Nat.zero_le _) HML9.out).mono ?_
                rintro e w9 ⟨rfl, g9⟩
                have K9 := Lib.hid (HFIN.out w9 (.slice none 0 0) (grow_none G8.out g9) (Nat.zero_le _))
                clear g9
                go_wp2
                go_roundw
                case rel => exact ⟨j + 1, by have := HJ.out; omega, by go_num, K9.out⟩
                case measure => have := HJ.out; simp [intOf]; omega
            · have hd1 : decide (recs = ([] : List ByteArray).take recs.length) = false := decide_eq_false (by rw [List.take_nil]; exact hr0)
              rw [hd1] at HBG
              clear hr0
              go_wp2_with fail
              refine HBG.out.mono ?_
              rintro e w8 ⟨rfl, g8⟩
              have K9 := Lib.hid (HFIN.out w8 (.slice none 0 0) g8 (Nat.zero_le _))
              clear g8
              go_wp2
              go_roundw
              case rel => exact ⟨j + 1, by have := HJ.out; omega, by go_num, K9.out⟩
              case measure => have := HJ.out; simp [intOf]; omega
          · have hbn : (ly.toList == base.toList) = false := by
              have := bytes_ne hbe
              simpa using this
            have K9 := Lib.hid (HFIN.out w7 (.slice none 0 0) (grow_refl _ _) (Nat.zero_le _))
            clear hbe
            go_wp2
            go_roundw
            case rel => exact ⟨j + 1, by have := HJ.out; omega, by go_num, K9.out⟩
            case measure => have := HJ.out; simp [intOf]; omega
      · have e1 : (o.kind == 1) = false := by simpa using k1
        have e2 : (o.kind == 2) = false := by simpa using k2'
        have e3 : (o.kind == 3) = false := by simpa using k3
        have e4 : (o.kind == 4) = false := by simpa using k4
        have GA := Lib.hid (World.grownBy_alloc wr (.cells #[.int .i64 o.kind, .slice am ls.length cm, .string o.text, .string o.name, .int .i64 o.num, .slice an k2.length cn] 37) none)
        clear k1 k2' k3 k4
        go_wp2
        go_roundw
        case rel => exact ⟨j + 1, by have := HJ.out; omega, by go_num, KP.out.next GA.out⟩
        case measure => have := HJ.out; simp [intOf]; omega
    · obtain rfl : j = S.length := by omega
      have EE : Hid (Below B w wr) := by
        obtain ⟨n', G, d, base, recs, M, ly, lg, _, _, _, _, _, _, _, h5, _⟩ := hK
        exact h5
      clear hK hj hlt
      go_wp2
      go_ret
      exact ⟨rfl, by have h := EE.out; rw [HBE.out] at h; exact h⟩
end Go.Proofs.YtphljjgjpkdpmaaGreatDoor
