/- The document's drive: Names, Copy. -/
import Derived.Test.YtgfmmchmkfboaaaRdD
import Derived.Test.YtgfmmchmkfboaaaDkR
namespace Go.Proofs.Ytgfmmchmkfboaaa
open Go.RowKit
set_option linter.unusedVariables false
def rnm (L : List Rf) : List (List UInt8) := L.map fun f => f.n.data.toList
theorem rnm_len (L : List Rf) : (rnm L).length = L.length := List.length_map _
theorem prefix_is (n p : ByteArray) : Lib.hasPrefix n.data.toList p.data.toList = decide (p.size ≤ n.size ∧ n.extract 0 p.size = p) := by
  unfold Lib.hasPrefix
  rw [Bool.eq_iff_iff, List.isPrefixOf_iff_prefix, decide_eq_true_eq, List.prefix_iff_eq_take]
  have hn : n.data.toList.length = n.size := by simp
  have hp : p.data.toList.length = p.size := by simp
  have he : (n.extract 0 p.size).data.toList = n.data.toList.take p.size := by simp
  constructor
  · intro h
    have hl : p.size ≤ n.size := by
      have := congrArg List.length h
      rw [List.length_take, hp, hn] at this; omega
    refine ⟨hl, ?_⟩
    apply ByteArray.ext
    apply Array.toList_inj.1
    rw [he, h, hp, ← hp, ← h]
  · rintro ⟨h1, h2⟩
    rw [hp, ← he, h2]
def RNamesE (d : Rk) (p : ByteArray) (w : World) (e : Ending) (w' : World) : Prop :=
  ∃ v l, e = .returned v ∧ l = (if d.off = true then [] else namesP (rnm d.L) p) ∧ l.length ≤ d.L.length ∧ w'.ownsRow 0 9 1 v l.length (l.map encStr) ∧ NewBlk w v ∧ w.grownBy w' none
set_option maxRecDepth 100000 in
set_option maxHeartbeats 2000000 in
theorem refNames_any (b : Nat) (v : Value) (d : Rk) (p : ByteArray) (w : World) (h : RAt w b v d) (hp : p.size ≤ maxLen) :
    Calls Try.prog 18 #[.pointer (some ⟨b, 0, none⟩), .string p] w (RNamesE d p w) := by
  obtain ⟨i0, hi, hz0, hz1, hz2⟩ := info_parts Try.info05_string
  have hll := h.len
  have hli : (d.L.length : Int) ≤ 1000000 := by omega
  have hpi : (p.size : Int) ≤ 9223372036854775807 := by unfold maxLen at hp; omega
  have H := Lib.hid h
  have hr := h.read
  have c0 := h.c0
  have c2 := h.c2
  have HNM := Lib.hid h.nm
  obtain ⟨a, c, rfl⟩ := h.form
  clear h hp
  cases ho : d.off
  · rw [ho] at c2
    have HO := Lib.hid ho
    clear ho
    go_enter Try.func18, Try.ntmps18
    go_wp2
    go_loopw [5, 6] (fun v i wr => ∃ k : Nat, k ≤ d.L.length ∧ i = .int .i64 k ∧ (namesP (rnm (d.L.take k)) p).length ≤ k ∧ wr.ownsRow 0 9 1 v (namesP (rnm (d.L.take k)) p).length ((namesP (rnm (d.L.take k)) p).map encStr) ∧ NewBlk w v ∧ w.grownBy wr none) (fun _ i _ => d.L.length - (intOf i).toNat)
    case atStart => exact ⟨0, Nat.zero_le _, rfl, Nat.le_refl _, ⟨rfl, .inl ⟨rfl, rfl⟩⟩, newblk_nil _, grow_refl _ _⟩
    case round =>
      obtain ⟨k, hk, rfl, hfl, hrow, hnb, hg⟩ := hrel
      have i0' : (0 : Int) ≤ k := by omega
      have d0 := (H.out.keep hg).c0
      have d2 : wr.cell? ⟨b, 2, none⟩ = some (.bool false) := by rw [← c2]; exact World.cell?_of_block (hg.block b H.out.lt (by simp))
      by_cases hlt : k < d.L.length
      · obtain ⟨f, hf⟩ : ∃ f, f = d.L[k] := ⟨_, rfl⟩
        have hf' : d.L[k]? = some f := by rw [hf, List.getElem?_eq_getElem]
        have hn80 := HNM.out f (List.mem_of_getElem? hf')
        have n80 : (f.n.size : Int) ≤ 80 := by omega
        have n0 : (0 : Int) ≤ f.n.size := by omega
        have HK := Lib.hid hlt
        have i1 : (k : Int) < d.L.length := by omega
        obtain ⟨g, off, rfl, hgl, r0, _⟩ := rf_at (hr.kept hg) rfl k hlt f hf'
        have HST : Hid (namesP (rnm (d.L.take (k + 1))) p = namesP (rnm (d.L.take k)) p ++ (if Lib.hasPrefix f.n.data.toList p.data.toList then [f.n.data.toList] else [])) := by
          show _ = _
          unfold namesP rnm
          rw [List.take_succ_eq_append_getElem hlt, List.map_append, List.filter_append, ← hf]
          congr 1
          show List.filter _ [f.n.data.toList] = _
          rw [List.filter_cons, List.filter_nil]
        have HROW := Lib.hid hrow
        have HNB := Lib.hid hnb
        have HG := Lib.hid hg
        have HFL := Lib.hid hfl
        clear hk hfl hrow hnb hg hlt hf hf' c0 c2
        by_cases hsz : p.size ≤ f.n.size
        · have q1 : decide ((p.size : Int) ≤ (f.n.size : Int)) = true := decide_eq_true (by omega)
          have q1' : (p.size : Int) ≤ (f.n.size : Int) := by omega
          by_cases hpx : f.n.extract 0 p.size = p
          · have HPX : Hid (Lib.hasPrefix f.n.data.toList p.data.toList = true) := by show _ = _; rw [prefix_is]; exact decide_eq_true ⟨hsz, hpx⟩
            have q2 : ((f.n.extract 0 p.size).toList == p.toList) = true := by rw [hpx]; simp
            have HS2 : Hid (namesP (rnm (d.L.take (k + 1))) p = namesP (rnm (d.L.take k)) p ++ [f.n.data.toList]) := by show _ = _; rw [HST.out, HPX.out]; rfl
            clear hpx hsz
            go_wp2_with (at_builtin; refine wpList_append_row _ rfl _ _ 38 rfl 9 i0 (.string ⟨#[]⟩) 16 Try.underlying38 hi hz0 hz1 hz2 rfl _ (namesP (rnm (d.L.take k)) p).length ((namesP (rnm (d.L.take k)) p).map encStr) rfl (HROW.out.alloc _) _ [Value.string f.n] rfl (RowAt.lit wr [Value.string f.n] _ _ _ rfl) (by intro u hu; simp at hu; subst hu; rfl) (by have := HFL.out; have := HK.out; show _ + 1 ≤ 2^63-1; omega) (by have := HFL.out; have := HK.out; show (_ + 1) * 16 ≤ _; omega) ?_)
            intro v8 w8 o8 g8 m8
            have NB8 := Lib.hid (HNB.out.moved (by have := HG.out.size; simp; omega) m8)
            have G8 := Lib.hid (grow_newblk (grow_then_none HG.out (World.grownBy_alloc _ _ none)) HNB.out g8)
            have O8 : Hid (w8.ownsRow 0 9 1 v8 (namesP (rnm (d.L.take (k + 1))) p).length ((namesP (rnm (d.L.take (k + 1))) p).map encStr)) := by
              show World.ownsRow _ _ _ _ _ _ _
              rw [HS2.out, List.length_append, List.map_append]
              exact o8
            clear o8 g8 m8
            go_wp2_with fail
            go_roundw
            case rel => exact ⟨k + 1, by have := HK.out; omega, by go_num, by rw [HS2.out, List.length_append]; have := HFL.out; simp; omega, O8.out, NB8.out, G8.out⟩
            case measure => have := HK.out; simp [intOf]; omega
          · have HPX : Hid (Lib.hasPrefix f.n.data.toList p.data.toList = false) := by show _ = _; rw [prefix_is]; exact decide_eq_false (fun x => hpx x.2)
            have q2 : ((f.n.extract 0 p.size).toList == p.toList) = false := by rw [beq_toList]; exact decide_eq_false hpx
            have HS2 : Hid (namesP (rnm (d.L.take (k + 1))) p = namesP (rnm (d.L.take k)) p) := by show _ = _; rw [HST.out, HPX.out]; simp
            clear hpx hsz
            go_wp2_with fail
            go_roundw
            case rel => exact ⟨k + 1, by have := HK.out; omega, by go_num, by rw [HS2.out]; have := HFL.out; omega, by rw [HS2.out]; exact HROW.out, HNB.out, HG.out⟩
            case measure => have := HK.out; simp [intOf]; omega
        · have q1 : decide ((p.size : Int) ≤ (f.n.size : Int)) = false := decide_eq_false (by omega)
          have HPX : Hid (Lib.hasPrefix f.n.data.toList p.data.toList = false) := by show _ = _; rw [prefix_is]; exact decide_eq_false (fun x => hsz x.1)
          have HS2 : Hid (namesP (rnm (d.L.take (k + 1))) p = namesP (rnm (d.L.take k)) p) := by show _ = _; rw [HST.out, HPX.out]; simp
          have q3 : f.n.size < p.size := by omega
          have q4 : ¬ (p.size : Int) ≤ (f.n.size : Int) := by omega
          go_wp2_with fail
          go_roundw
          case rel => exact ⟨k + 1, by have := HK.out; omega, by go_num, by rw [HS2.out]; have := HFL.out; omega, by rw [HS2.out]; exact HROW.out, HNB.out, HG.out⟩
          case measure => have := HK.out; simp [intOf]; omega
      · obtain rfl : k = d.L.length := by omega
        rw [List.take_length] at hrow hfl
        have hfin := Lib.hid (show _ ∧ _ ∧ _ ∧ _ from ⟨hrow, hfl, hnb, hg⟩)
        clear hrow hfl hnb hg hlt hk c0 c2
        go_wp2_with fail
        go_ret
        exact ⟨_, namesP (rnm d.L) p, rfl, by rw [HO.out]; rfl, hfin.out.2.1, hfin.out.1, hfin.out.2.2.1, hfin.out.2.2.2⟩
  · rw [ho] at c2
    have HO := Lib.hid ho
    clear ho
    go_enter Try.func18, Try.ntmps18
    go_wp2
    go_loopw [5, 6] (fun v i wr => v = .slice none 0 0 ∧ i = .int .i64 0 ∧ wr = w) (fun _ i _ => 0)
    case atStart => exact ⟨rfl, rfl, rfl⟩
    case round =>
      obtain ⟨rfl, rfl, rfl⟩ := hrel
      by_cases hlt : 0 < d.L.length
      · have q1 : decide ((0 : Int) < (d.L.length : Int)) = true := decide_eq_true (by omega)
        go_wp2_with fail
        go_ret
        exact ⟨_, [], rfl, by rw [HO.out]; rfl, Nat.zero_le _, ⟨rfl, .inl ⟨rfl, rfl⟩⟩, newblk_nil _, grow_refl _ _⟩
      · have q1 : decide ((0 : Int) < (d.L.length : Int)) = false := decide_eq_false (by omega)
        go_wp2_with fail
        go_ret
        exact ⟨_, [], rfl, by rw [HO.out]; rfl, Nat.zero_le _, ⟨rfl, .inl ⟨rfl, rfl⟩⟩, newblk_nil _, grow_refl _ _⟩
set_option maxRecDepth 100000 in
set_option maxHeartbeats 2000000 in
theorem refCopy_any (b : Nat) (v : Value) (d : Rk) (w : World) (h : RAt w b v d) :
    Calls Try.prog 24 #[.pointer (some ⟨b, 0, none⟩)] w fun e w' => ∃ b2 v2, e = .returned (.pointer (some ⟨b2, 0, none⟩)) ∧ RAt w' b2 v2 d ∧ w.heap.size ≤ b2 ∧ NewBlk w v2 ∧ w.grownBy w' none := by
  obtain ⟨ii, hi, hz0, hz1, hz2⟩ := info_parts info_rf
  have hll := h.len
  have H := Lib.hid h
  have c0 := h.c0
  have c1 := h.c1
  have c2 := h.c2
  have c3 := h.c3
  have hb := h.lt
  have hr := h.read
  obtain ⟨a, c, rfl⟩ := h.form
  obtain ⟨o1, ho1⟩ : ∃ o1 : Obj, o1 = .cells #[.slice a d.L.length c, .int .i64 d.left, .bool d.off, .int .i64 d.cnt] 60 := ⟨_, rfl⟩
  have gA : w.grownBy (w.alloc o1) none := World.grownBy_alloc _ _ _
  have oE : OwnK Rf.cells 4 66 ((w.alloc o1).alloc (.cells #[] 66)) (.slice (some ⟨w.heap.size + 1, 0, none⟩) 0 0) [] := by
    have := OwnK.empty (enc := Rf.cells) (k := 4) 66 (w.alloc o1)
    rw [show (w.alloc o1).heap.size = w.heap.size + 1 by simp] at this
    exact this
  have rN := hr.kept (grow_none gA (World.grownBy_alloc (w.alloc o1) (.cells #[] 66) none))
  have e0 := c0
  have bN : Blk (w.alloc o1) w.heap.size 60 [.slice a d.L.length c, .int .i64 d.left, .bool d.off, .int .i64 d.cnt] := by rw [ho1]; exact Blk.new w 60 [.slice a d.L.length c, .int .i64 d.left, .bool d.off, .int .i64 d.cnt]
  have GA := Lib.hid gA
  have BN := Lib.hid bN
  subst ho1
  clear h gA bN hr e0
  go_enter Try.func24, Try.ntmps24
  go_wp2_with (at_builtin; refine wpList_append_k rfl _ _ 58 rfl 66 ii _ 56 Rf.len Rf.ones (by omega) Try.underlying58 hi hz0 hz1 hz2 rfl _ rfl oE _ rfl rN (by show (0 : Nat) + _ ≤ 2^63-1; omega) (by show (0 + _) * 56 ≤ _; omega) ?_)
  intro v4 w4 o4 g4 m4
  obtain ⟨L4, hL4⟩ : ∃ L4, L4 = d.L := ⟨_, rfl⟩
  have o4' : OwnK Rf.cells 4 66 w4 v4 d.L := by simpa using o4
  have G4 := Lib.hid (grow_newblk (World.grownBy_alloc (w.alloc _) (.cells #[] 66) none) (newblk_at (w.alloc (.cells #[.slice a d.L.length c, .int .i64 d.left, .bool d.off, .int .i64 d.cnt] 60)) (w.heap.size + 1) 0 0 (by simp) 0) (by simpa using g4))
  have N4 : Hid (NewBlk (w.alloc (.cells #[.slice a d.L.length c, .int .i64 d.left, .bool d.off, .int .i64 d.cnt] 60)) v4) := (newblk_at (w.alloc _) (w.heap.size + 1) 0 0 (by simp) 0).moved (World.grownBy_alloc (w.alloc _) (.cells #[] 66) none).size (by simpa using m4)
  have b4 := BN.out.keep G4.out
  have x0 := b4.cell 0 (by simp)
  have f0 := b4.frozen 0
  have hfar : v4.ownBlock ≠ some w.heap.size := fun e => by have := N4.out _ e; simp at this; omega
  obtain ⟨a4, c4, hv4⟩ := o4'.read.len
  have HR : Hid (RAt (w4.setCell ⟨w.heap.size, 0, none⟩ v4) w.heap.size v4 d) :=
    ⟨b4.set_ 0 v4, (OwnX.of o4').far (p := ⟨w.heap.size, 0, none⟩) hfar v4, hfar, H.out.len, H.out.sz, H.out.nm, H.out.l0, H.out.l1, H.out.s1⟩
  have HG : Hid (w.grownBy (w4.setCell ⟨w.heap.size, 0, none⟩ v4) none) := grow_setnew (grow_none GA.out G4.out) (Nat.le_refl _) _
  have HNB : Hid (NewBlk w v4) := fun j hj => by have := N4.out j hj; simp at this; omega
  subst hv4
  clear o4 o4' g4 m4 oE rN hfar
  go_wp2
  go_ret
  exact ⟨_, _, rfl, HR.out, Nat.le_refl _, HNB.out, HG.out⟩
end Go.Proofs.Ytgfmmchmkfboaaa
