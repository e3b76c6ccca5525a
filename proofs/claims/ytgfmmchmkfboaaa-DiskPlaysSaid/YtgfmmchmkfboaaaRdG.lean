/- The document's drive: Crash. -/
import Derived.Test.YtgfmmchmkfboaaaRdD
import Derived.Test.YtgfmmchmkfboaaaDkH
namespace Go.Proofs.Ytgfmmchmkfboaaa
open Go.RowKit
set_option linter.unusedVariables false
def keepR (f : Rf) (kp : Int) : Nat := (min (max kp 0) (f.w.size : Int)).toNat
def rcrF (f : Rf) (kp : Int) : Rf := ⟨f.n, f.l ++ f.w.extract 0 (keepR f kp), ⟨#[]⟩, f.s || decide (0 < keepR f kp)⟩
def rcrG (f : Rf) (kp : Int) : Rf := if f.w.size = 0 then f else rcrF f kp
def rcrS (p : List Rf × List Int) (f : Rf) : List Rf × List Int := (if (rcrG f (p.2.headD 0)).s = true then p.1 ++ [rcrG f (p.2.headD 0)] else p.1, if f.w.size = 0 then p.2 else p.2.tail)
def rcr (L : List Rf) (ks : List Int) : List Rf × List Int := L.foldl rcrS ([], ks)
def rcrashD (d : Rk) (ks : List Int) : Rk := ⟨(rcr d.L ks).1, -1, false, d.cnt⟩
theorem rcr_snoc (L : List Rf) (ks : List Int) (j : Nat) (hj : j < L.length) : rcr (L.take (j + 1)) ks = rcrS (rcr (L.take j) ks) L[j] := by
  unfold rcr
  rw [List.take_succ_eq_append_getElem hj, List.foldl_append]; rfl
theorem rcrG_n (f : Rf) (kp : Int) : (rcrG f kp).n = f.n := by unfold rcrG; split <;> rfl
theorem rcrG_sz (f : Rf) (kp : Int) : (rcrG f kp).sz ≤ f.sz := by
  unfold rcrG
  split
  · exact Nat.le_refl _
  · unfold rcrF Rf.sz keepR
    dsimp only
    rw [ByteArray.size_append, ByteArray.size_extract]
    show _ + _ + 0 ≤ _
    omega
theorem rcr_mem (ks : List Int) : ∀ (L : List Rf) (A : List Rf), ∀ f ∈ (L.foldl rcrS (A, ks)).1, f ∈ A ∨ ∃ g ∈ L, f.n = g.n ∧ f.sz ≤ g.sz
  | [], A, f, hf => .inl hf
  | g :: L, A, f, hf => by
    rw [List.foldl_cons] at hf
    have h2 : rcrS (A, ks) g = ((rcrS (A, ks) g).1, (rcrS (A, ks) g).2) := rfl
    rw [h2] at hf
    rcases rcr_mem (rcrS (A, ks) g).2 L (rcrS (A, ks) g).1 f hf with h | ⟨g', hg', e⟩
    · unfold rcrS at h
      dsimp only at h
      split at h
      · rcases List.mem_append.1 h with h | h
        · exact .inl h
        · rw [List.mem_singleton.1 h]
          exact .inr ⟨g, List.mem_cons_self .., rcrG_n _ _, rcrG_sz _ _⟩
      · exact .inl h
    · exact .inr ⟨g', List.mem_cons_of_mem _ hg', e⟩
theorem rcr_len (ks : List Int) : ∀ (L : List Rf) (A : List Rf), (L.foldl rcrS (A, ks)).1.length ≤ A.length + L.length
  | [], A => Nat.le_refl _
  | g :: L, A => by
    rw [List.foldl_cons]
    have h2 : rcrS (A, ks) g = ((rcrS (A, ks) g).1, (rcrS (A, ks) g).2) := rfl
    rw [h2]
    have h3 := rcr_len (rcrS (A, ks) g).2 L (rcrS (A, ks) g).1
    have h4 : (rcrS (A, ks) g).1.length ≤ A.length + 1 := by
      unfold rcrS
      dsimp only
      split
      · rw [List.length_append]; exact Nat.le_refl _
      · omega
    rw [List.length_cons]; omega
theorem drop_head (ks : List Int) (k : Nat) : (ks.drop k).headD 0 = ks.getD k 0 := by
  cases h : ks.drop k with
  | nil =>
    have : ks.length ≤ k := List.drop_eq_nil_iff.1 h
    rw [List.getD, List.getElem?_eq_none this]; rfl
  | cons x l =>
    have : (ks.drop k)[0]? = some x := by rw [h]; rfl
    rw [List.getElem?_drop, Nat.add_zero] at this
    rw [List.getD, this]; rfl
theorem drop_tail (ks : List Int) (k : Nat) : (ks.drop k).tail = ks.drop (k + 1) := List.tail_drop
theorem row_int5 {w : World} {a : Option Addr} {c n : Nat} {l : List Int} {k : Nat} (h : RowAt w (.slice a n c) (l.map (Value.int .i64))) (hn : l.length = n) (hk : k < n) :
    ∃ bb off, a = some ⟨bb, off, none⟩ ∧ w.cell? ⟨bb, off + k, none⟩ = some (.int .i64 (l.getD k 0)) ∧ bb < w.heap.size := by
  subst hn
  obtain ⟨a', c', e, h⟩ := h
  injection e with e1 e2 e3
  subst e1
  rcases h with h | ⟨b, off, rfl, hb, hc⟩
  · have : l.length = 0 := by have := congrArg List.length h; simpa using this
    omega
  · refine ⟨b, off, rfl, ?_, hb⟩
    rw [hc k (by simpa using hk)]
    simp [List.getD, List.getElem?_eq_getElem hk]
theorem one2 (w : World) (o : Obj) (x : Rf) (t : TypeId) (c : Nat) (cs : Array Value) (hcs : cs = x.cells.toArray) : ReadK Rf.cells 4 ((w.alloc o).alloc (.cells cs t)) (.slice (some ⟨w.heap.size + 1, 0, none⟩) 1 c) [x] := by
  have := ReadK.one Rf.len (w.alloc o) x t c cs hcs
  rw [show (w.alloc o).heap.size = w.heap.size + 1 by simp] at this
  exact this
theorem one2d (w : World) (o : Obj) (x : Rf) (t : TypeId) (c : Nat) (cs : Array Value) (hcs : cs = x.cells.toArray) : ReadK Rf.cells 4 ((w.alloc o).alloc (.cells cs t)).drew (.slice (some ⟨w.heap.size + 1, 0, none⟩) 1 c) [x] := (one2 w o x t c cs hcs).kept (grow_drawn (grow_refl _ _))
theorem one2dd (w : World) (o : Obj) (x : Rf) (t : TypeId) (c : Nat) (cs : Array Value) (hcs : cs = x.cells.toArray) : ReadK Rf.cells 4 ((w.alloc o).alloc (.cells cs t)).drew.drew (.slice (some ⟨w.heap.size + 1, 0, none⟩) 1 c) [x] := (one2 w o x t c cs hcs).kept (grow_drawn (grow_drawn (grow_refl _ _)))
/-- The relation of the rounds. -/
def CrI (w : World) (L : List Rf) (ks : List Int) (u kk i : Value) (wr : World) : Prop :=
  ∃ j k : Nat, j ≤ L.length ∧ i = .int .i64 j ∧ kk = .int .i64 k ∧ k ≤ j ∧ (rcr (L.take j) ks).2 = ks.drop k ∧ (rcr (L.take j) ks).1.length ≤ j ∧ OwnK Rf.cells 4 66 wr u (rcr (L.take j) ks).1 ∧ NewBlk w u ∧ w.grownBy wr none
set_option maxRecDepth 100000 in
set_option maxHeartbeats 8000000 in
theorem refCrash_any (b : Nat) (v : Value) (d : Rk) (ks : List Int) (kv : Value) (w : World) (h : RAt w b v d) (hk : RowAt w kv (ks.map (Value.int .i64))) (hkl : ks.length ≤ maxLen) :
    Calls Try.prog 35 #[.pointer (some ⟨b, 0, none⟩), kv] w fun e w' => e = .returned (.tuple #[]) ∧ REnd b v (rcrashD d ks) w w' := by
  obtain ⟨ii, hi, hz0, hz1, hz2⟩ := info_parts info_rf
  have hll := h.len
  have hli : (d.L.length : Int) ≤ 1000000 := by omega
  have H := Lib.hid h
  have hr := h.read
  obtain ⟨a, c, rfl⟩ := h.form
  obtain ⟨pk, ck, e⟩ : ∃ p c, kv = .slice p ks.length c := by
    obtain ⟨p, c, e, _⟩ := hk
    exact ⟨p, c, by rw [e, List.length_map]⟩
  subst e
  have il : (ks.length : Int) ≤ 9223372036854775807 := by unfold maxLen at hkl; omega
  have HK := Lib.hid hk
  have HR := Lib.hid hr
  clear h hk hkl hr
  go_enter Try.func35, Try.ntmps35
  go_wp2
  go_loopw [4, 5, 6] (fun u kk i wr => CrI w d.L ks u kk i wr) (fun _ _ i _ => d.L.length - (intOf i).toNat)
  case atStart => exact ⟨0, 0, Nat.zero_le _, rfl, rfl, Nat.le_refl _, rfl, Nat.le_refl _, OwnK.nil _ _, newblk_nil _, grow_refl _ _⟩
  case round =>
    obtain ⟨j, k, hj, rfl, rfl, hkj, hks, hlen, ho, hnb, hg⟩ := hrel
    have j0 : (0 : Int) ≤ j := by omega
    have k0 : (0 : Int) ≤ k := by omega
    have k5 : (k : Int) ≤ 1000000 := by omega
    have d0 := (H.out.keep hg).c0
    have hbr : b < wr.heap.size := (H.out.keep hg).lt
    by_cases hlt : j < d.L.length
    · obtain ⟨f, hf⟩ : ∃ f, f = d.L[j] := ⟨_, rfl⟩
      have hf' : d.L[j]? = some f := by rw [hf, List.getElem?_eq_getElem]
      have HSN := Lib.hid (rcr_snoc d.L ks j hlt)
      rw [← hf] at HSN
      have hfz := H.out.sz f (List.mem_of_getElem? hf')
      have i1 : (j : Int) < d.L.length := by omega
      obtain ⟨g, off, rfl, hgl, r0, r1, r2, r3⟩ := rf_at (HR.out.kept hg) rfl j hlt f hf'
      have HJ := Lib.hid hlt
      have HO := Lib.hid ho
      have HNB := Lib.hid hnb
      have HG := Lib.hid hg
      have HKS := Lib.hid hks
      have HLEN := Lib.hid hlen
      have HKJ := Lib.hid hkj
      obtain ⟨o1, ho1⟩ : ∃ o1 : Obj, o1 = .cells #[.string f.n, .string f.l, .string f.w, .bool f.s] 66 := ⟨_, rfl⟩
      have gA : wr.grownBy (wr.alloc o1) none := World.grownBy_alloc _ _ _
      have GA := Lib.hid gA
      clear hf hf' ho hnb hg hks hlen hkj hj
      by_cases hw0 : f.w.size = 0
      · have e1 := toList_nil hw0
        have HG1 : Hid (rcrG f ((ks.drop k).headD 0) = f) := by show _ = _; unfold rcrG; rw [if_pos hw0]
        cases hs : f.s
        · have HN : Hid (rcr (d.L.take (j + 1)) ks = ((rcr (d.L.take j) ks).1, ks.drop k)) := by
            show _ = _
            rw [HSN.out]; unfold rcrS; rw [HKS.out, HG1.out, hs, if_neg (by simp), if_pos hw0]
          rw [hs] at r3 ho1
          clear hs hw0
          subst ho1
          go_wp2
          go_roundw
          case rel => exact ⟨j + 1, k, by have := HJ.out; omega, by go_num, rfl, by have := HKJ.out; omega, by rw [HN.out], by rw [HN.out]; have := HLEN.out; dsimp only; omega, by rw [HN.out]; exact HO.out.keep GA.out, HNB.out, grow_none HG.out GA.out⟩
          case measure => have := HJ.out; simp [intOf]; omega
        · have HN : Hid (rcr (d.L.take (j + 1)) ks = ((rcr (d.L.take j) ks).1 ++ [f], ks.drop k)) := by
            show _ = _
            rw [HSN.out]; unfold rcrS; rw [HKS.out, HG1.out, hs, if_pos rfl, if_pos hw0]
          rw [hs] at r3 ho1
          have HFC : Hid (f.cells = [.string f.n, .string f.l, .string f.w, .bool true]) := by show _ = _; unfold Rf.cells; rw [hs]
          clear hs hw0
          have oA := HO.out.keep (grow_none GA.out (World.grownBy_alloc (wr.alloc o1) (.cells #[.string f.n, .string f.l, .string f.w, .bool true] 66) none))
          have rA := ReadK.one Rf.len (wr.alloc o1) f 66 1 #[.string f.n, .string f.l, .string f.w, .bool true] (by rw [HFC.out])
          have sA : (wr.alloc o1).heap.size = wr.heap.size + 1 := by simp
          rw [sA] at rA
          have HGX := Lib.hid (grow_none HG.out (grow_none GA.out (World.grownBy_alloc (wr.alloc o1) (.cells #[.string f.n, .string f.l, .string f.w, .bool true] 66) none)))
          clear sA
          subst ho1
          go_wp2_with (at_builtin; refine wpList_append_k rfl _ _ 58 rfl 66 ii _ 56 Rf.len Rf.ones (by omega) Try.underlying58 hi hz0 hz1 hz2 rfl _ rfl oA _ rfl rA (by have := HLEN.out; have := HJ.out; show _ + 1 ≤ 2^63-1; omega) (by have := HLEN.out; have := HJ.out; show (_ + 1) * 56 ≤ _; omega) ?_)
          intro v4 w4 o4 g4 m4
          have X4 := Lib.hid (grow_newblk HGX.out HNB.out g4)
          have N4 := Lib.hid (HNB.out.moved HGX.out.size m4)
          have O4 : Hid (OwnK Rf.cells 4 66 w4 v4 (rcr (d.L.take (j + 1)) ks).1) := by show OwnK _ _ _ _ _ _; rw [HN.out]; exact o4
          clear o4 g4 m4 oA rA
          go_wp2
          go_roundw
          case rel => exact ⟨j + 1, k, by have := HJ.out; omega, by go_num, rfl, by have := HKJ.out; omega, by rw [HN.out], by rw [HN.out]; have := HLEN.out; dsimp only; rw [List.length_append, List.length_singleton]; omega, O4.out, N4.out, X4.out⟩
          case measure => have := HJ.out; simp [intOf]; omega
      · have hsb : f.l.size + f.w.size ≤ 1048576 := hfz
        have e1 : f.w.toList.isEmpty = false := by rw [List.isEmpty_eq_false_iff]; exact toList_ne hw0
        obtain ⟨kp, hkp⟩ : ∃ kp, kp = (ks.drop k).headD 0 := ⟨_, rfl⟩
        obtain ⟨m, hm⟩ : ∃ m, m = keepR f kp := ⟨_, rfl⟩
        have hmw : m ≤ f.w.size := by rw [hm]; unfold keepR; omega
        have hmI : min (max kp 0) (f.w.size : Int) = (m : Int) := by rw [hm]; unfold keepR; omega
        have hsz : (f.w.extract 0 m).size = m := by rw [ByteArray.size_extract]; omega
        have hmi : (m : Int) ≤ f.w.size := by omega
        have m0 : (0 : Int) ≤ m := by omega
        have hb : ¬ 9223372036854775807 < f.l.size + (f.w.extract 0 m).size := by rw [hsz]; omega
        have hb2 : ¬ 9223372036854775807 < f.l.size + m := by omega
        have HT : Hid ((ks.drop k).tail = ks.drop (k + 1)) := drop_tail ks k
        have HKP := Lib.hid hkp
        have HG1' : Hid (rcrG f ((ks.drop k).headD 0) = ⟨f.n, f.l ++ f.w.extract 0 m, ⟨#[]⟩, f.s || decide (0 < m)⟩) := by show _ = _; unfold rcrG; rw [if_neg hw0, ← hkp]; unfold rcrF; rw [← hm]
        have HW0 := Lib.hid hw0
        clear hw0
        by_cases hkl : k < ks.length
        · obtain ⟨bk, ok, rfl, ck1, hbk⟩ := row_int5 HK.out rfl hkl
          rw [← drop_head, ← HKP.out] at ck1
          have ck2 : wr.cell? ⟨bk, ok + k, none⟩ = some (.int .i64 kp) := by rw [← ck1]; exact World.cell?_of_block (HG.out.block bk hbk (by simp))
          have hbk2 : bk < wr.heap.size := Nat.lt_of_lt_of_le hbk HG.out.size
          have k1 : (k : Int) < ks.length := by omega
          clear hm hkp
          cases hs : f.s
          · rw [hs] at r3 ho1 HG1'
            by_cases hm1 : 0 < m
            · have HG1 : Hid (rcrG f ((ks.drop k).headD 0) = ⟨f.n, f.l ++ f.w.extract 0 m, ⟨#[]⟩, true⟩) := by show _ = _; rw [HG1'.out, decide_eq_true hm1]; rfl
              have HSU : Hid ((⟨f.n, f.l ++ f.w.extract 0 m, ⟨#[]⟩, true⟩ : Rf).s = true) := rfl
              have q1 : decide ((0 : Int) < m) = true := decide_eq_true (by omega)
              clear hs HG1'
              have HN : Hid (rcr (d.L.take (j + 1)) ks = ((rcr (d.L.take j) ks).1 ++ [⟨f.n, f.l ++ f.w.extract 0 m, ⟨#[]⟩, true⟩], ks.drop (k + 1))) := by
                show _ = _
                rw [HSN.out]; unfold rcrS; rw [HKS.out, HG1.out, HSU.out, if_pos rfl, if_neg HW0.out, HT.out]
              subst ho1
              go_wp2
              go_region
              go_wp2
              go_region
              go_wp2_with (at_builtin; refine wpList_append_k rfl _ _ 58 rfl 66 ii _ 56 Rf.len Rf.ones (by omega) Try.underlying58 hi hz0 hz1 hz2 rfl _ rfl (HO.out.keep (by (repeat (with_reducible first | refine grow_drawn ?_ | refine grow_drawnN _ ?_ | refine grow_then_none ?_ (World.grownBy_alloc _ _ none))); with_reducible exact grow_refl _ none)) _ rfl (one2dd wr _ ⟨f.n, f.l ++ f.w.extract 0 m, ⟨#[]⟩, true⟩ 66 1 _ rfl) (by have := HLEN.out; have := HJ.out; show _ + 1 ≤ 2^63-1; omega) (by have := HLEN.out; have := HJ.out; show (_ + 1) * 56 ≤ _; omega) ?_)
              intro v4 w4 o4 g4 m4
              have X4 := Lib.hid (grow_newblk (grow_none HG.out (by (repeat (with_reducible first | refine grow_drawn ?_ | refine grow_drawnN _ ?_ | refine grow_then_none ?_ (World.grownBy_alloc _ _ none))); with_reducible exact grow_refl _ none)) HNB.out g4)
              have N4 := Lib.hid (HNB.out.moved (Nat.le_trans HG.out.size (show wr.grownBy _ none from (by (repeat (with_reducible first | refine grow_drawn ?_ | refine grow_drawnN _ ?_ | refine grow_then_none ?_ (World.grownBy_alloc _ _ none))); with_reducible exact grow_refl _ none)).size) m4)
              have O4 : Hid (OwnK Rf.cells 4 66 w4 v4 (rcr (d.L.take (j + 1)) ks).1) := by show OwnK _ _ _ _ _ _; rw [HN.out]; exact o4
              clear o4 g4 m4
              go_wp2
              go_roundw
              case rel => exact ⟨j + 1, k + 1, by have := HJ.out; omega, by go_num, by go_num, by have := HKJ.out; omega, by rw [HN.out], by rw [HN.out]; have := HLEN.out; dsimp only; rw [List.length_append, List.length_singleton]; omega, O4.out, N4.out, X4.out⟩
              case measure => have := HJ.out; simp [intOf]; omega
            · have HG1 : Hid (rcrG f ((ks.drop k).headD 0) = ⟨f.n, f.l ++ f.w.extract 0 m, ⟨#[]⟩, false⟩) := by show _ = _; rw [HG1'.out, decide_eq_false hm1]; rfl
              have HSU : Hid ((⟨f.n, f.l ++ f.w.extract 0 m, ⟨#[]⟩, false⟩ : Rf).s = false) := rfl
              have q1 : decide ((0 : Int) < m) = false := decide_eq_false (by omega)
              clear hs HG1'
              have HN : Hid (rcr (d.L.take (j + 1)) ks = ((rcr (d.L.take j) ks).1, ks.drop (k + 1))) := by
                show _ = _
                rw [HSN.out]; unfold rcrS; rw [HKS.out, HG1.out, HSU.out, if_neg (by simp), if_neg HW0.out, HT.out]
              subst ho1
              go_wp2
              go_region
              go_wp2
              go_region
              go_wp2
              go_roundw
              case rel => exact ⟨j + 1, k + 1, by have := HJ.out; omega, by go_num, by go_num, by have := HKJ.out; omega, by rw [HN.out], by rw [HN.out]; have := HLEN.out; dsimp only; omega, by rw [HN.out]; exact HO.out.keep (by (repeat (with_reducible first | refine grow_drawn ?_ | refine grow_drawnN _ ?_ | refine grow_then_none ?_ (World.grownBy_alloc _ _ none))); with_reducible exact grow_refl _ none), HNB.out, grow_none HG.out (by (repeat (with_reducible first | refine grow_drawn ?_ | refine grow_drawnN _ ?_ | refine grow_then_none ?_ (World.grownBy_alloc _ _ none))); with_reducible exact grow_refl _ none)⟩
              case measure => have := HJ.out; simp [intOf]; omega
          · rw [hs] at r3 ho1 HG1'
            have HG1 : Hid (rcrG f ((ks.drop k).headD 0) = ⟨f.n, f.l ++ f.w.extract 0 m, ⟨#[]⟩, true⟩) := by show _ = _; rw [HG1'.out]; rfl
            have HSU : Hid ((⟨f.n, f.l ++ f.w.extract 0 m, ⟨#[]⟩, true⟩ : Rf).s = true) := rfl
            clear hs HG1'
            have HN : Hid (rcr (d.L.take (j + 1)) ks = ((rcr (d.L.take j) ks).1 ++ [⟨f.n, f.l ++ f.w.extract 0 m, ⟨#[]⟩, true⟩], ks.drop (k + 1))) := by
              show _ = _
              rw [HSN.out]; unfold rcrS; rw [HKS.out, HG1.out, HSU.out, if_pos rfl, if_neg HW0.out, HT.out]
            subst ho1
            go_wp2
            go_region
            go_wp2
            go_region
            go_wp2_with (at_builtin; refine wpList_append_k rfl _ _ 58 rfl 66 ii _ 56 Rf.len Rf.ones (by omega) Try.underlying58 hi hz0 hz1 hz2 rfl _ rfl (HO.out.keep (by (repeat (with_reducible first | refine grow_drawn ?_ | refine grow_drawnN _ ?_ | refine grow_then_none ?_ (World.grownBy_alloc _ _ none))); with_reducible exact grow_refl _ none)) _ rfl (one2dd wr _ ⟨f.n, f.l ++ f.w.extract 0 m, ⟨#[]⟩, true⟩ 66 1 _ rfl) (by have := HLEN.out; have := HJ.out; show _ + 1 ≤ 2^63-1; omega) (by have := HLEN.out; have := HJ.out; show (_ + 1) * 56 ≤ _; omega) ?_)
            intro v4 w4 o4 g4 m4
            have X4 := Lib.hid (grow_newblk (grow_none HG.out (by (repeat (with_reducible first | refine grow_drawn ?_ | refine grow_drawnN _ ?_ | refine grow_then_none ?_ (World.grownBy_alloc _ _ none))); with_reducible exact grow_refl _ none)) HNB.out g4)
            have N4 := Lib.hid (HNB.out.moved (Nat.le_trans HG.out.size (show wr.grownBy _ none from (by (repeat (with_reducible first | refine grow_drawn ?_ | refine grow_drawnN _ ?_ | refine grow_then_none ?_ (World.grownBy_alloc _ _ none))); with_reducible exact grow_refl _ none)).size) m4)
            have O4 : Hid (OwnK Rf.cells 4 66 w4 v4 (rcr (d.L.take (j + 1)) ks).1) := by show OwnK _ _ _ _ _ _; rw [HN.out]; exact o4
            clear o4 g4 m4
            go_wp2
            go_roundw
            case rel => exact ⟨j + 1, k + 1, by have := HJ.out; omega, by go_num, by go_num, by have := HKJ.out; omega, by rw [HN.out], by rw [HN.out]; have := HLEN.out; dsimp only; rw [List.length_append, List.length_singleton]; omega, O4.out, N4.out, X4.out⟩
            case measure => have := HJ.out; simp [intOf]; omega
        · have hm00 : m = 0 := by
            have e0 : ks.drop k = [] := List.drop_eq_nil_of_le (by omega)
            rw [hm, hkp, e0]; unfold keepR; show (min (max (0 : Int) 0) _).toNat = 0; omega
          have k1 : ¬ (k : Int) < ks.length := by omega
          have k2 : (ks.length : Int) ≤ k := by omega
          clear hm hkp
          subst hm00
          cases hs : f.s
          · rw [hs] at r3 ho1 HG1'
            have HG1 : Hid (rcrG f ((ks.drop k).headD 0) = ⟨f.n, f.l ++ f.w.extract 0 0, ⟨#[]⟩, false⟩) := by show _ = _; rw [HG1'.out]; rfl
            have HSU : Hid ((⟨f.n, f.l ++ f.w.extract 0 0, ⟨#[]⟩, false⟩ : Rf).s = false) := rfl
            clear hs HG1'
            have HN : Hid (rcr (d.L.take (j + 1)) ks = ((rcr (d.L.take j) ks).1, ks.drop (k + 1))) := by
              show _ = _
              rw [HSN.out]; unfold rcrS; rw [HKS.out, HG1.out, HSU.out, if_neg (by simp), if_neg HW0.out, HT.out]
            subst ho1
            go_wp2
            go_region
            go_wp2
            go_roundw
            case rel => exact ⟨j + 1, k + 1, by have := HJ.out; omega, by go_num, by go_num, by have := HKJ.out; omega, by rw [HN.out], by rw [HN.out]; have := HLEN.out; dsimp only; omega, by rw [HN.out]; exact HO.out.keep (by (repeat (with_reducible first | refine grow_drawn ?_ | refine grow_drawnN _ ?_ | refine grow_then_none ?_ (World.grownBy_alloc _ _ none))); with_reducible exact grow_refl _ none), HNB.out, grow_none HG.out (by (repeat (with_reducible first | refine grow_drawn ?_ | refine grow_drawnN _ ?_ | refine grow_then_none ?_ (World.grownBy_alloc _ _ none))); with_reducible exact grow_refl _ none)⟩
            case measure => have := HJ.out; simp [intOf]; omega
          · rw [hs] at r3 ho1 HG1'
            have HG1 : Hid (rcrG f ((ks.drop k).headD 0) = ⟨f.n, f.l, ⟨#[]⟩, true⟩) := by show _ = _; rw [HG1'.out, ext_none f.w 0 rfl, app_none]; rfl
            have HSU : Hid ((⟨f.n, f.l, ⟨#[]⟩, true⟩ : Rf).s = true) := rfl
            clear hs HG1'
            have HN : Hid (rcr (d.L.take (j + 1)) ks = ((rcr (d.L.take j) ks).1 ++ [⟨f.n, f.l, ⟨#[]⟩, true⟩], ks.drop (k + 1))) := by
              show _ = _
              rw [HSN.out]; unfold rcrS; rw [HKS.out, HG1.out, HSU.out, if_pos rfl, if_neg HW0.out, HT.out]
            subst ho1
            go_wp2
            go_region
            go_wp2_with (at_builtin; refine wpList_append_k rfl _ _ 58 rfl 66 ii _ 56 Rf.len Rf.ones (by omega) Try.underlying58 hi hz0 hz1 hz2 rfl _ rfl (HO.out.keep (by (repeat (with_reducible first | refine grow_drawn ?_ | refine grow_drawnN _ ?_ | refine grow_then_none ?_ (World.grownBy_alloc _ _ none))); with_reducible exact grow_refl _ none)) _ rfl (one2d wr _ ⟨f.n, f.l, ⟨#[]⟩, true⟩ 66 1 _ rfl) (by have := HLEN.out; have := HJ.out; show _ + 1 ≤ 2^63-1; omega) (by have := HLEN.out; have := HJ.out; show (_ + 1) * 56 ≤ _; omega) ?_)
            intro v4 w4 o4 g4 m4
            have X4 := Lib.hid (grow_newblk (grow_none HG.out (by (repeat (with_reducible first | refine grow_drawn ?_ | refine grow_drawnN _ ?_ | refine grow_then_none ?_ (World.grownBy_alloc _ _ none))); with_reducible exact grow_refl _ none)) HNB.out g4)
            have N4 := Lib.hid (HNB.out.moved (Nat.le_trans HG.out.size (show wr.grownBy _ none from (by (repeat (with_reducible first | refine grow_drawn ?_ | refine grow_drawnN _ ?_ | refine grow_then_none ?_ (World.grownBy_alloc _ _ none))); with_reducible exact grow_refl _ none)).size) m4)
            have O4 : Hid (OwnK Rf.cells 4 66 w4 v4 (rcr (d.L.take (j + 1)) ks).1) := by show OwnK _ _ _ _ _ _; rw [HN.out]; exact o4
            clear o4 g4 m4
            go_wp2
            go_roundw
            case rel => exact ⟨j + 1, k + 1, by have := HJ.out; omega, by go_num, by go_num, by have := HKJ.out; omega, by rw [HN.out], by rw [HN.out]; have := HLEN.out; dsimp only; rw [List.length_append, List.length_singleton]; omega, O4.out, N4.out, X4.out⟩
            case measure => have := HJ.out; simp [intOf]; omega
    · obtain rfl : j = d.L.length := by omega
      rw [List.take_length] at ho hlen
      have hin := rcr_mem ks d.L []
      have hS := Lib.hid ((H.out.store (d' := { d with L := (rcr d.L ks).1 }) hg (fun g' hg' => .inr (hnb g' hg')) (OwnX.of ho) rfl rfl rfl (by dsimp only; omega)
        (fun f hf => by
          rcases hin f hf with y | ⟨g, hg, _, e⟩
          · cases y
          · exact Nat.le_trans e (H.out.sz g hg))
        (fun f hf => by
          rcases hin f hf with y | ⟨g, hg, e, _⟩
          · cases y
          · rw [e]; exact H.out.nm g hg)))
      have hb4 := (H.out.keep hg).blk
      have u0 : (wr.setCell ⟨b, 0, none⟩ u4).cell? ⟨b, 0, none⟩ = some u4 := (hb4.set_ 0 u4).cell 0 (by simp)
      obtain ⟨v5, h5, c5, k5'⟩ := hS.out
      have : v5 = u4 := by have := h5.c0; rw [u0] at this; injection this with this; exact this.symm
      subst this
      have t1 := h5.c1
      have t2 := h5.c2
      have f1 := h5.fr 1
      have f0 := (H.out.keep hg).fr 0
      have h6 := h5.setb 1 (.int .i64 (-1)) { d with L := (rcr d.L ks).1, left := -1 } rfl (by dsimp only; omega) (by dsimp only; omega) h5.s1 rfl
      have t3 := h6.c2
      have f2 := h6.fr 2
      have h7 := h6.setb 2 (.bool false) (rcrashD d ks) rfl (by show (-1 : Int) ≤ -1; omega) (by show (-1 : Int) ≤ _; omega) h5.s1 rfl
      have HE : Hid (REnd b (.slice a d.L.length c) (rcrashD d ks) w (((wr.setCell ⟨b, 0, none⟩ v5).setCell ⟨b, 1, none⟩ (.int .i64 (-1))).setCell ⟨b, 2, none⟩ (.bool false))) :=
        REnd.more (d := { d with L := (rcr d.L ks).1 }) ⟨v5, h5, c5, k5'⟩ fun v1 hv1 => by
          have e1 : v1 = v5 := by have e1 := hv1.c0; rw [u0] at e1; injection e1 with e1; exact e1.symm
          subst e1
          exact REnd.of_b h7 (grow_same (grow_set _ ⟨b, 1, none⟩ _) (grow_set _ ⟨b, 2, none⟩ _))
      obtain ⟨a4, c4, hv4⟩ := ho.read.len
      obtain ⟨N, hN⟩ : ∃ N, N = (rcr d.L ks).1.length := ⟨_, rfl⟩
      rw [← hN] at hv4
      subst hv4
      clear hS h5 h6 h7 c5 k5' ho hnb hN hin hks hlen
      go_wp2
      go_end0
      exact ⟨rfl, HE.out⟩
end Go.Proofs.Ytgfmmchmkfboaaa
