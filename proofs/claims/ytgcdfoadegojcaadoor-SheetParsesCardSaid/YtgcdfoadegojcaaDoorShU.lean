/- Stage 3: the document's Sum. -/
import Derived.Test.YtgcdfoadegojcaaDoorShV
import Derived.Test.YtgcdfoadegojcaaDoorRelU
namespace Go.Proofs.YtgcdfoadegojcaaDoor
open Go.RowKit
set_option linter.unusedVariables false
/-- A message's bytes lie there. -/
def MB (w : World) (q : Nat) (M : List UInt8) : Prop := q < w.heap.size ∧ ∀ j (h : j < M.length), w.cell? ⟨q, j, none⟩ = some (.int .u8 ((M[j].toNat : Nat) : Int))
theorem MB.kept {w w' : World} {q : Nat} {M : List UInt8} {r : Option Nat} (h : MB w q M) (g : w.grownBy w' r) (hq : some q ≠ r) : MB w' q M :=
  ⟨Nat.lt_of_lt_of_le h.1 g.size, fun j hj => by rw [World.cell?_of_block (g.block q h.1 hq)]; exact h.2 j hj⟩
theorem grow_wrote {w w1 w2 : World} {b : Nat} (g : w.grownBy w1 none) (hb : w.heap.size ≤ b) (h : w1.grownBy w2 (some b)) : w.grownBy w2 none :=
  grow_newblk (v := .slice (some ⟨b, 0, none⟩) 0 0) g (newblk_at w b 0 0 hb 0) h
structure RU (w wr : World) (hb kb q : Nat) (H : List (BitVec 32)) (M : List UInt8) : Prop where
  bh : Blk wr hb 57 (H.map u32v)
  bk : Blk wr kb 65 (KL.map u32v)
  mb : MB wr q M
  n1 : w.heap.size ≤ hb
  n2 : w.heap.size ≤ kb
  d1 : hb ≠ kb
  d2 : hb ≠ q
  h8 : H.length = 8
  gr : w.grownBy wr none
theorem RU.grow {w wr w' : World} {hb kb q : Nat} {H : List (BitVec 32)} {M : List UInt8} (h : RU w wr hb kb q H M) (g : wr.grownBy w' none) : RU w w' hb kb q H M :=
  { h with bh := h.bh.keep g, bk := h.bk.keep g, mb := h.mb.kept g (by simp), gr := grow_none h.gr g }
theorem RU.wrote {w wr w' : World} {hb kb q b : Nat} {H : List (BitVec 32)} {M : List UInt8} (h : RU w wr hb kb q H M) (g : wr.grownBy w' (some b)) (hb0 : w.heap.size ≤ b) (h1 : hb ≠ b) (h2 : kb ≠ b) (h3 : q ≠ b) : RU w w' hb kb q H M :=
  { h with bh := h.bh.kept g (by simpa using h1), bk := h.bk.kept g (by simpa using h2), mb := h.mb.kept g (by simpa using h3), gr := grow_wrote h.gr hb0 g }
theorem h0_len : h0.length = 8 := rfl
def z8 : List Value := List.replicate 8 (.int .u32 0)
theorem padC_z8 : (padC h0 8 0).map u32v = z8 := by rw [padC_zero, List.map_replicate]; rfl
theorem padC_z64 : (padC KL 64 0).map u32v = z64 := by rw [padC_zero, List.map_replicate]; rfl
theorem zero64 : ∀ W : World, (zeroValue 65).run Tryd.prog W = .ok (.agg z64.toArray) W := fun W => by kernel_rfl
/-- A row of 64 words, all 0, kept shut. -/
structure Z64 (Z : Array Value) : Prop where
  val : Z = z64.toArray
  zero : ∀ W : World, (zeroValue 65).run Tryd.prog W = .ok (.agg Z) W
  one : Z.all (·.oneCell') = true
  inf : (Tryd.prog.info? 65).map (·.size) = some Z.size
theorem z64_all : Z64 z64.toArray := ⟨rfl, zero64, by rw [Array.all_eq_true_iff_forall_mem]; intro v hv; rw [List.mem_toArray] at hv; rw [(List.mem_replicate.1 hv).2]; rfl, by kernel_rfl⟩
theorem Z64.laid {Z : Array Value} (h : Z64 Z) (w : World) : Blk ((w.alloc (.cells Z 65)).setRow w.heap.size Z) w.heap.size 65 z64 := by
  have := setRow_heap (w.alloc (.cells Z 65)) w.heap.size Z Z 65 (0, 0) (heap_alloc_new _ _)
  rw [h.val] at this ⊢
  exact this
theorem Z64.grows {Z : Array Value} (w : World) : w.grownBy ((w.alloc (.cells Z 65)).setRow w.heap.size Z) none := grow_setrow (World.grownBy_alloc _ _ _) (Nat.le_refl _) _
theorem OwnB.ne {w : World} {q b n cap : Nat} {M : List UInt8} {T : TypeId} {xs : List Value} (h : OwnB 5 w (.slice (some ⟨q, 0, none⟩) n cap) M) (hB : Blk w b T xs) (hT : T ≠ 5) : b ≠ q := by
  obtain ⟨g, c, cur, lo, hi, e, hh, _⟩ := h
  intro hbq
  injection e with e1 _ _
  injection e1 with e2
  injection e2 with e3 _ _
  unfold Blk at hB
  rw [hbq, e3, hh] at hB
  injection hB with h1
  injection h1 with _ h2 _
  exact hT h2.symm
theorem OwnB.mb {w : World} {q n cap : Nat} {M : List UInt8} (h : OwnB 5 w (.slice (some ⟨q, 0, none⟩) n cap) M) (hM : 0 < M.length) : MB w q M :=
  ⟨World.block_lt_of_cell? _ _ (h.byt 0 hM), fun j hj => h.byt j hj⟩
/-- What holds while a block is gone through: its words' table is at tb. -/
structure RW (w wr : World) (hb kb q tb : Nat) (H : List (BitVec 32)) (M : List UInt8) (ws : List Value) : Prop where
  ru : RU w wr hb kb q H M
  bt : Blk wr tb 65 ws
  n3 : w.heap.size ≤ tb
  e1 : hb ≠ tb
  e2 : kb ≠ tb
  e3 : q ≠ tb
theorem RW.grow {w wr w' : World} {hb kb q tb : Nat} {H : List (BitVec 32)} {M : List UInt8} {ws : List Value} (h : RW w wr hb kb q tb H M ws) (g : wr.grownBy w' none) : RW w w' hb kb q tb H M ws :=
  { h with ru := h.ru.grow g, bt := h.bt.keep g }
theorem RW.set {w wr : World} {hb kb q tb : Nat} {H : List (BitVec 32)} {M : List UInt8} {ws : List Value} (h : RW w wr hb kb q tb H M ws) (k : Nat) (x : Value) : RW w (wr.setCell ⟨tb, k, none⟩ x) hb kb q tb H M (ws.set k x) :=
  { h with ru := h.ru.wrote (grow_set wr ⟨tb, k, none⟩ x) h.n3 h.e1 h.e2 h.e3, bt := h.bt.set_ k x }
theorem toL_ofL : ∀ {H : List (BitVec 32)}, H.length = 8 → toL (ofL H) = H
  | [_, _, _, _, _, _, _, _], _ => rfl
theorem grow_rowat (w : World) (r : Nat) (cs : Array Value) : w.grownBy (w.setRow r cs) (some r) :=
  ⟨rfl, rfl, rfl, by rw [setRow_size]; exact Nat.le_refl _, fun k hk hn => setRow_other w r k cs (by rintro rfl; exact hn rfl)⟩
theorem RW.wrote {w wr w' : World} {hb kb q tb b : Nat} {H : List (BitVec 32)} {M : List UInt8} {ws : List Value} (h : RW w wr hb kb q tb H M ws) (g : wr.grownBy w' (some b)) (hb0 : w.heap.size ≤ b) (h1 : hb ≠ b) (h2 : kb ≠ b) (h3 : q ≠ b) (h4 : tb ≠ b) : RW w w' hb kb q tb H M ws :=
  { h with ru := h.ru.wrote g hb0 h1 h2 h3, bt := h.bt.kept g (by simpa using h4) }
theorem RU.seth {w wr : World} {hb kb q : Nat} {H H2 : List (BitVec 32)} {M : List UInt8} {k : Nat} {x : Value} (h : RU w wr hb kb q H M) (e : (H.map u32v).set k x = H2.map u32v) (hl : H2.length = 8) : RU w (wr.setCell ⟨hb, k, none⟩ x) hb kb q H2 M :=
  { h with bh := e ▸ h.bh.set_ k x, bk := h.bk.far (p := ⟨hb, k, none⟩) (Ne.symm h.d1) x, mb := h.mb.kept (grow_set wr ⟨hb, k, none⟩ x) (by simpa using Ne.symm h.d2), h8 := hl, gr := grow_setnew (a := ⟨hb, k, none⟩) h.gr h.n1 x }
theorem inf8 : (Tryd.prog.info? 57).map (·.size) = some 8 := by kernel_rfl
theorem one_u32 (l : List (BitVec 32)) : (l.map u32v).toArray.all (·.oneCell') = true := by
  rw [Array.all_eq_true_iff_forall_mem]
  intro v hv
  rw [List.mem_toArray, List.mem_map] at hv
  obtain ⟨x, _, rfl⟩ := hv
  rfl
def V4 (xs : List Value) (v : Value) (W : World) : Prop := RowAt W v xs
theorem V4.kept {xs : List Value} {v : Value} {w w' : World} (h : V4 xs v w) (g : w.grownBy w' none) : V4 xs v w' := RowAt.kept h g
theorem rrel_7 {w0 : World} (x : BitVec 32) (w : World) (hI : w0.grownBy w none) :
    Calls Tryd.prog 39 #[.int .u32 (un x), .int .i64 7] w fun e w' => ∃ u, e = .returned u ∧ u = .int .u32 (un (rr x 7)) ∧ w0.grownBy w' none ∧ w.grownBy w' none := rrot_rel 7 (by decide) (by decide) x w hI
theorem rrel_18 {w0 : World} (x : BitVec 32) (w : World) (hI : w0.grownBy w none) :
    Calls Tryd.prog 39 #[.int .u32 (un x), .int .i64 18] w fun e w' => ∃ u, e = .returned u ∧ u = .int .u32 (un (rr x 18)) ∧ w0.grownBy w' none ∧ w.grownBy w' none := rrot_rel 18 (by decide) (by decide) x w hI
theorem rrel_17 {w0 : World} (x : BitVec 32) (w : World) (hI : w0.grownBy w none) :
    Calls Tryd.prog 39 #[.int .u32 (un x), .int .i64 17] w fun e w' => ∃ u, e = .returned u ∧ u = .int .u32 (un (rr x 17)) ∧ w0.grownBy w' none ∧ w.grownBy w' none := rrot_rel 17 (by decide) (by decide) x w hI
theorem rrel_19 {w0 : World} (x : BitVec 32) (w : World) (hI : w0.grownBy w none) :
    Calls Tryd.prog 39 #[.int .u32 (un x), .int .i64 19] w fun e w' => ∃ u, e = .returned u ∧ u = .int .u32 (un (rr x 19)) ∧ w0.grownBy w' none ∧ w.grownBy w' none := rrot_rel 19 (by decide) (by decide) x w hI
theorem rrel_6 {w0 : World} (x : BitVec 32) (w : World) (hI : w0.grownBy w none) :
    Calls Tryd.prog 39 #[.int .u32 (un x), .int .i64 6] w fun e w' => ∃ u, e = .returned u ∧ u = .int .u32 (un (rr x 6)) ∧ w0.grownBy w' none ∧ w.grownBy w' none := rrot_rel 6 (by decide) (by decide) x w hI
theorem rrel_11 {w0 : World} (x : BitVec 32) (w : World) (hI : w0.grownBy w none) :
    Calls Tryd.prog 39 #[.int .u32 (un x), .int .i64 11] w fun e w' => ∃ u, e = .returned u ∧ u = .int .u32 (un (rr x 11)) ∧ w0.grownBy w' none ∧ w.grownBy w' none := rrot_rel 11 (by decide) (by decide) x w hI
theorem rrel_25 {w0 : World} (x : BitVec 32) (w : World) (hI : w0.grownBy w none) :
    Calls Tryd.prog 39 #[.int .u32 (un x), .int .i64 25] w fun e w' => ∃ u, e = .returned u ∧ u = .int .u32 (un (rr x 25)) ∧ w0.grownBy w' none ∧ w.grownBy w' none := rrot_rel 25 (by decide) (by decide) x w hI
theorem rrel_2 {w0 : World} (x : BitVec 32) (w : World) (hI : w0.grownBy w none) :
    Calls Tryd.prog 39 #[.int .u32 (un x), .int .i64 2] w fun e w' => ∃ u, e = .returned u ∧ u = .int .u32 (un (rr x 2)) ∧ w0.grownBy w' none ∧ w.grownBy w' none := rrot_rel 2 (by decide) (by decide) x w hI
theorem rrel_13 {w0 : World} (x : BitVec 32) (w : World) (hI : w0.grownBy w none) :
    Calls Tryd.prog 39 #[.int .u32 (un x), .int .i64 13] w fun e w' => ∃ u, e = .returned u ∧ u = .int .u32 (un (rr x 13)) ∧ w0.grownBy w' none ∧ w.grownBy w' none := rrot_rel 13 (by decide) (by decide) x w hI
theorem rrel_22 {w0 : World} (x : BitVec 32) (w : World) (hI : w0.grownBy w none) :
    Calls Tryd.prog 39 #[.int .u32 (un x), .int .i64 22] w fun e w' => ∃ u, e = .returned u ∧ u = .int .u32 (un (rr x 22)) ∧ w0.grownBy w' none ∧ w.grownBy w' none := rrot_rel 22 (by decide) (by decide) x w hI
set_option maxRecDepth 100000 in
set_option maxHeartbeats 40000000 in
theorem refSum_any (s : ByteArray) (w : World) (hs : s.size ≤ 100000000) :
    Calls Tryd.prog 13 #[.string s] w fun e w' => e = .returned (.string ⟨(shaS s).toArray⟩) ∧ w.grownBy w' none := by
  have HS := Lib.hid hs
  obtain ⟨Z, hZ⟩ : ∃ Z, Z64 Z := ⟨_, z64_all⟩
  have HZ := Lib.hid hZ
  have hzv := hZ.zero
  have HZ0 : ∀ w : World, Hid ((w.alloc (.cells Z 65)).heap[w.heap.size]? = some (.cells Z 65 (0, 0))) := fun w => heap_alloc_new _ _
  have HB0 := Lib.hid HZ0
  obtain ⟨hb, hhb⟩ : ∃ hb, hb = w.heap.size := ⟨_, rfl⟩
  have b0 : Blk (w.alloc (.cells z8.toArray 57)) hb 57 z8 := by rw [hhb]; exact Blk.new _ _ _
  have g0 : w.grownBy (w.alloc (.cells z8.toArray 57)) none := World.grownBy_alloc _ _ _
  have B0 := Lib.hid b0
  have G0 := Lib.hid g0
  have HN1 : Hid (w.heap.size ≤ hb) := by show _ ≤ _; omega
  have HHB := Lib.hid hhb
  clear hs b0 g0 hhb hZ HZ0
  go_enter Tryd.func13, Tryd.ntmps13
  go_wp2
  refine wp_at (w' := w.alloc (.cells z8.toArray 57)) rfl ?_
  rw [← HHB.out]
  go_loopw [4] (fun i wr => ∃ k : Nat, k ≤ 8 ∧ i = .int .i64 k ∧ Blk wr hb 57 ((padC h0 8 k).map u32v) ∧ w.grownBy wr none) (fun i _ => 8 - (intOf i).toNat)
  case atStart => exact ⟨0, Nat.zero_le _, rfl, by rw [padC_z8]; exact B0.out, G0.out⟩
  case round =>
    clear B0 G0
    obtain ⟨k, hk, rfl, c1, hg⟩ := hrel
    have C1 := Lib.hid c1
    have HG := Lib.hid hg
    clear c1 hg
    by_cases hlt : k < 8
    · have hki : (k : Int) < 8 := by omega
      have HLT := Lib.hid hlt
      have HSET : Hid (((padC h0 8 k).map u32v).set k (u32v (h0.getD k 0)) = (padC h0 8 (k + 1)).map u32v) := by
        show _ = _
        rw [← List.map_set, padC_set h0_len hlt]
      have HV := Lib.hid (first_val k hlt)
      clear hlt hk
      go_wp2_with fail
      refine (prime_any k _ (by have := HLT.out; omega)).mono ?_
      rintro e w1 ⟨rfl, rfl⟩
      go_wp2_with fail
      refine (square_any (pr k) _ (pr_le k (by have := HLT.out; omega))).mono ?_
      rintro e w1 ⟨rfl, rfl⟩
      rw [HV.out]
      have d1 := C1.out.frozen k
      have d2 := C1.out.cell k (by rw [List.length_map, padC_len h0_len (by have := HLT.out; omega)]; exact HLT.out)
      have c3 := C1.out.set_ k (u32v (h0.getD k 0))
      rw [HSET.out] at c3
      have C3 := Lib.hid c3
      clear c3
      go_wp2
      go_roundw
      case rel => exact ⟨k + 1, by have := HLT.out; omega, by go_num, C3.out, grow_setnew HG.out HN1.out _⟩
      case measure => have := HLT.out; simp [intOf]; omega
    · have hki : (8 : Int) ≤ (k : Int) := by omega
      have c8' : Blk wr hb 57 (h0.map u32v) := by
        have e : k = 8 := by omega
        have := C1.out
        rwa [e, padC_all h0_len] at this
      have bk0 := HZ.out.laid wr
      have gk0 := Z64.grows (Z := Z) wr
      obtain ⟨kb, hkb⟩ : ∃ kb, kb = wr.heap.size := ⟨_, rfl⟩
      rw [← hkb] at bk0 gk0
      have hlt8 := c8'.lt
      have HD1 : Hid (hb ≠ kb) := by show _ ≠ _; omega
      have HN2 : Hid (w.heap.size ≤ kb) := by have := HG.out.size; show _ ≤ _; omega
      have BH := Lib.hid (c8'.keep gk0)
      have BK := Lib.hid bk0
      have GR := Lib.hid (grow_none HG.out gk0)
      have HKB := Lib.hid hkb
      clear c8' bk0 gk0 hkb hlt8 hlt hk C1 HG
      go_wp2_with (refine wpList_store_row rfl 65 (.tmp 5) (.tmp 33) (by with_reducible rfl) wr.heap.size Z rfl rfl 65 Z (HB0.out wr).out HZ.out.inf rfl HZ.out.one ?_)
      rw [← HKB.out]
      go_loopw [6] (fun i wr => ∃ k : Nat, k ≤ 64 ∧ i = .int .i64 k ∧ Blk wr hb 57 (h0.map u32v) ∧ Blk wr kb 65 ((padC KL 64 k).map u32v) ∧ w.grownBy wr none) (fun i _ => 64 - (intOf i).toNat)
      case atStart => exact ⟨0, Nat.zero_le _, rfl, BH.out, by rw [padC_z64]; exact BK.out, GR.out⟩
      case round =>
        clear BH BK GR HKB hki
        rename_i kk _
        obtain ⟨k, hk, rfl, c0, c1, hg⟩ := hrel
        have C0 := Lib.hid c0
        have C1 := Lib.hid c1
        have HG := Lib.hid hg
        clear c0 c1 hg
        by_cases hlt : k < 64
        · have hki : (k : Int) < 64 := by omega
          have HLT := Lib.hid hlt
          have HSET : Hid (((padC KL 64 k).map u32v).set k (u32v (Kw k)) = (padC KL 64 (k + 1)).map u32v) := by
            show _ = _
            rw [← padC_set KL_len hlt, KL_get k hlt, List.map_set]
          have HV := Lib.hid (cube_val k hlt)
          clear hlt hk
          go_wp2_with fail
          refine (prime_any k _ (by have := HLT.out; omega)).mono ?_
          rintro e w1 ⟨rfl, rfl⟩
          go_wp2_with fail
          refine (cube_any (pr k) _ (pr_le k (by have := HLT.out; omega))).mono ?_
          rintro e w1 ⟨rfl, g1⟩
          rw [HV.out]
          have c1 := C1.out.keep g1
          have d1 := c1.frozen k
          have d2 := c1.cell k (by rw [List.length_map, padC_len KL_len (by have := HLT.out; omega)]; exact HLT.out)
          have c3 := c1.set_ k (u32v (Kw k))
          rw [HSET.out] at c3
          have C3 := Lib.hid c3
          have C4 := Lib.hid ((C0.out.keep g1).far (p := ⟨kb, k, none⟩) HD1.out (u32v (Kw k)))
          have G4 := Lib.hid (grow_setnew (a := ⟨kb, k, none⟩) (grow_none HG.out g1) HN2.out (u32v (Kw k)))
          clear c3 c1 g1
          go_wp2
          go_roundw
          case rel => exact ⟨k + 1, by have := HLT.out; omega, by go_num, C4.out, C3.out, G4.out⟩
          case measure => have := HLT.out; simp [intOf]; omega
        · have hki : (64 : Int) ≤ (k : Int) := by omega
          have bk : Blk wr kb 65 (KL.map u32v) := by
            have e : k = 64 := by omega
            have := C1.out
            rwa [e, padC_all KL_len] at this
          have BK := Lib.hid bk
          clear bk hlt hk C1
          go_wp2_with fail
          refine (message_any s _ HS.out).mono ?_
          rintro e w1 ⟨v, z, rfl, hz, hz56, ho, g1⟩
          obtain ⟨hM64, hDig⟩ := sha_along s z hz hz56
          obtain ⟨M, hM⟩ : ∃ M, M = padL s z := ⟨_, rfl⟩
          have hMl : M.length ≤ 200000000 ∧ 0 < M.length := by
            rw [hM]; unfold padL
            rw [List.length_append, List.length_append, List.length_cons, List.length_replicate, tailN_len]
            have := HS.out
            have e : s.data.toList.length = s.size := by simp
            omega
          rw [← hM] at ho hM64 hDig
          obtain ⟨q, cap, rfl, hcap, hcm⟩ := ho.form
          have hRU : RU w w1 hb kb q h0 M :=
            ⟨C0.out.keep g1, BK.out.keep g1, ho.mb hMl.2, HN1.out, HN2.out, HD1.out, ho.ne (C0.out.keep g1) (by decide), rfl, grow_none HG.out g1⟩
          obtain ⟨N, hN⟩ : ∃ N, N = M.length / 64 := ⟨_, rfl⟩
          rw [← hN] at hDig
          obtain ⟨L, hL⟩ : ∃ L, L = M.length := ⟨_, rfl⟩
          have HLN : Hid (L = M.length ∧ L = 64 * N ∧ L ≤ 200000000) := ⟨hL, by omega, by omega⟩
          have HDIG := Lib.hid hDig
          have R0 := Lib.hid hRU
          rw [← hL]
          rw [← hL] at hcap
          clear hM64 hDig hM hMl hRU hN hL ho g1 C0 HG hz hz56 BK HN1 HN2 HD1
          go_wp2
          go_loopw [8] (fun i wr => ∃ n A : Nat, A = 64 * n ∧ n ≤ N ∧ i = .int .i64 A ∧ RU w wr hb kb q (stM M h0 n) M) (fun i _ => 200000001 - (intOf i).toNat)
          case atStart => exact ⟨0, 0, rfl, Nat.zero_le _, rfl, R0.out⟩
          case round =>
            clear R0
            obtain ⟨n, A, hA, hn, rfl, h1⟩ := hrel
            have R1 := Lib.hid h1
            clear h1
            by_cases hlt : n < N
            · obtain ⟨hl1, hl2, hl3⟩ := HLN.out
              have hAL : (A : Int) < L := by omega
              have HA := Lib.hid (show A = 64 * n ∧ A + 64 ≤ L ∧ n < N from ⟨hA, by omega, hlt⟩)
              obtain ⟨H, hH⟩ : ∃ H, H = stM M h0 n := ⟨_, rfl⟩
              rw [← hH] at R1
              obtain ⟨B, hB⟩ : ∃ B, B = blkB M n := ⟨_, rfl⟩
              have HNX : Hid (takeW B H = stM M h0 (n + 1)) := by show _ = _; rw [hB, hH]; rfl
              have HBY : Hid (∀ j, j < 64 → ∃ y : UInt8, (∃ h : A + j < M.length, M[A + j] = y) ∧ byW B j = BitVec.ofNat 32 y.toNat) := by
                intro j hj
                have hj2 : A + j < M.length := by omega
                refine ⟨M[A + j], ⟨hj2, rfl⟩, ?_⟩
                rw [hB, blkB_at M n j hj (by omega)]
                congr 3; omega
              obtain ⟨tb, htb⟩ : ∃ tb, tb = wr.heap.size := ⟨_, rfl⟩
              have bt0 := HZ.out.laid wr
              have gt0 := Z64.grows (Z := Z) wr
              rw [← htb] at bt0 gt0
              have R2 : Hid (RW w ((wr.alloc (.cells Z 65)).setRow tb Z) hb kb q tb H M z64) := by
                refine ⟨R1.out.grow gt0, bt0, ?_, ?_, ?_, ?_⟩
                · rw [htb]; exact R1.out.gr.size
                · have := R1.out.bh.lt; omega
                · have := R1.out.bk.lt; omega
                · have := R1.out.mb.1; omega
              have HTB := Lib.hid htb
              clear hl1 hl2 hl3 hlt hn hA hH hB htb bt0 gt0 R1 hcap
              go_wp2_with (refine wpList_store_row rfl 65 (.tmp 9) (.tmp 51) (by with_reducible rfl) wr.heap.size Z rfl rfl 65 Z (HB0.out wr).out HZ.out.inf rfl HZ.out.one ?_)
              rw [← HTB.out]
              go_loopw [10] (fun i wr => ∃ t : Nat, t ≤ 64 ∧ i = .int .i64 t ∧ RW w wr hb kb q tb H M (schC B t)) (fun i _ => 64 - (intOf i).toNat)
              case atStart => exact ⟨0, Nat.zero_le _, rfl, by rw [schC_zero]; exact R2.out⟩
              case round =>
                clear R2 HTB
                rename_i kk _ wo _
                obtain ⟨t, ht, rfl, h1⟩ := hrel
                have R3 := Lib.hid h1
                clear h1
                by_cases hlt : t < 64
                · have hti : (t : Int) < 64 := by omega
                  by_cases h16 : t < 16
                  · have h16i : (t : Int) < 16 := by omega
                    have HT := Lib.hid h16
                    clear hlt ht h16
                    go_wp2
                    go_loopw [11] (fun i wr => ∃ k : Nat, k ≤ 4 ∧ i = .int .i64 k ∧ RW w wr hb kb q tb H M ((schC B t).set t (u32v (pw B t k)))) (fun i _ => 4 - (intOf i).toNat)
                    case atStart => exact ⟨0, Nat.zero_le _, rfl, by show RW _ _ _ _ _ _ _ _ ((schC B t).set t (u32v 0)); rw [schC_at B t (by have := HT.out; omega)]; exact R3.out⟩
                    case round =>
                      clear R3
                      obtain ⟨k, hk, rfl, h1⟩ := hrel
                      have R4 := Lib.hid h1
                      clear h1
                      by_cases hk4 : k < 4
                      · have hki : (k : Int) < 4 := by omega
                        have hAl := HA.out
                        have hLN := HLN.out
                        have ht16 := HT.out
                        obtain ⟨y, ⟨hy1, hy2⟩, hy3⟩ := HBY.out (4 * t + k) (by omega)
                        have cy := R4.out.ru.mb.2 (A + (4 * t + k)) hy1
                        rw [hy2] at cy
                        obtain ⟨x, hx⟩ : ∃ x, x = pw B t k := ⟨_, rfl⟩
                        obtain ⟨yb, hyb⟩ : ∃ yb, yb = BitVec.ofNat 32 y.toNat := ⟨_, rfl⟩
                        have hw8 : IntKind.u32.wrap ((y.toNat : Nat) : Int) = un yb := by rw [hyb]; exact un_byte y
                        have hl := schC_len B t (by omega)
                        have cx := R4.out.bt.cell t (by rw [List.length_set]; omega)
                        rw [show ((schC B t).set t (u32v (pw B t k))).getD t undef = .int .u32 (un x) by rw [List.getD, List.getElem?_set_self (by omega), hx]; rfl] at cx
                        have fx := R4.out.bt.frozen t
                        have HN5 := R4.out.set t (u32v ((x <<< 8) + yb))
                        rw [List.set_set, show (x <<< 8) + yb = pw B t (k + 1) by rw [hx, hyb, ← hy3]; rfl] at HN5
                        rw [show pw B t (k + 1) = (x <<< 8) + yb by rw [hx, hyb, ← hy3]; rfl] at HN5
                        have HN6 : Hid (RW w (wr.setCell ⟨tb, t, none⟩ (u32v ((x <<< 8) + yb))) hb kb q tb H M ((schC B t).set t (u32v (pw B t (k + 1))))) := by
                          show RW _ _ _ _ _ _ _ _ _
                          rw [show pw B t (k + 1) = (x <<< 8) + yb by rw [hx, hyb, ← hy3]; rfl]
                          exact HN5
                        have m1 : IntKind.i64.wrap (4 * (t : Int)) = 4 * (t : Int) := wrapI (by omega) (by omega)
                        have m2 : IntKind.i64.wrap ((A : Int) + 4 * (t : Int)) = (A : Int) + 4 * (t : Int) := wrapI (by omega) (by omega)
                        have m3 : IntKind.i64.wrap ((A : Int) + 4 * (t : Int) + (k : Int)) = (A : Int) + 4 * (t : Int) + (k : Int) := wrapI (by omega) (by omega)
                        have m4 : ((A : Int) + 4 * (t : Int) + (k : Int)).toNat = A + (4 * t + k) := by omega
                        have m5 : (0 : Int) ≤ (A : Int) + 4 * (t : Int) + (k : Int) := by omega
                        have m6 : (A : Int) + 4 * (t : Int) + (k : Int) < (L : Int) := by omega
                        have HK := Lib.hid hk4
                        clear hAl hLN ht16 hy1 hy2 hy3 hx hyb hl HN5 hk4 hk
                        go_wp2
                        go_region
                        all_goals
                          go_wp2
                          go_roundw
                          case rel => exact ⟨k + 1, by have := HK.out; omega, by go_num, HN6.out.grow (grow_drawn (grow_refl _ _))⟩
                          case measure => have := HK.out; simp [intOf]; omega
                      · have hki : (4 : Int) ≤ (k : Int) := by omega
                        have R5 : Hid (RW w wr hb kb q tb H M (schC B (t + 1))) := by
                          have e : k = 4 := by omega
                          have := R4.out
                          rw [e, schC_pw B t HT.out] at this
                          exact this
                        clear R4 hk hk4
                        go_wp2
                        go_roundw
                        case rel => exact ⟨t + 1, by have := HT.out; omega, by go_num, R5.out⟩
                        case measure => have := HT.out; simp [intOf]; omega
                  · have h16i : (16 : Int) ≤ (t : Int) := by omega
                    obtain ⟨x16, hx16⟩ : ∃ x, x = (schN B t).getD (t - 16) 0 := ⟨_, rfl⟩
                    obtain ⟨x15, hx15⟩ : ∃ x, x = (schN B t).getD (t - 15) 0 := ⟨_, rfl⟩
                    obtain ⟨x7, hx7⟩ : ∃ x, x = (schN B t).getD (t - 7) 0 := ⟨_, rfl⟩
                    obtain ⟨x2, hx2⟩ : ∃ x, x = (schN B t).getD (t - 2) 0 := ⟨_, rfl⟩
                    have HSET : Hid ((schC B t).set t (u32v (((x16 + sg0 x15) + x7) + sg1 x2)) = schC B (t + 1)) := by
                      show _ = _
                      rw [← schC_set B t hlt, hx16, hx15, hx7, hx2]
                      unfold schF
                      rw [if_neg h16]
                    have hl := schC_len B t (by omega)
                    have a16 := R3.out.bt.cell (t - 16) (by omega)
                    have a15 := R3.out.bt.cell (t - 15) (by omega)
                    have a7 := R3.out.bt.cell (t - 7) (by omega)
                    have a2 := R3.out.bt.cell (t - 2) (by omega)
                    rw [schC_get B t _ (by omega), ← hx16] at a16
                    rw [schC_get B t _ (by omega), ← hx15] at a15
                    rw [schC_get B t _ (by omega), ← hx7] at a7
                    rw [schC_get B t _ (by omega), ← hx2] at a2
                    unfold u32v at a16 a15 a7 a2
                    have q16 : ((t : Int) - 16).toNat = t - 16 := by omega
                    have q15 : ((t : Int) - 15).toNat = t - 15 := by omega
                    have q7 : ((t : Int) - 7).toNat = t - 7 := by omega
                    have q2 : ((t : Int) - 2).toNat = t - 2 := by omega
                    have i16 : (0 : Int) ≤ (t : Int) - 16 := by omega
                    have i15 : (0 : Int) ≤ (t : Int) - 15 := by omega
                    have i7 : (0 : Int) ≤ (t : Int) - 7 := by omega
                    have i2 : (0 : Int) ≤ (t : Int) - 2 := by omega
                    have j16 : (t : Int) - 16 < 64 := by omega
                    have j15 : (t : Int) - 15 < 64 := by omega
                    have j7 : (t : Int) - 7 < 64 := by omega
                    have j2 : (t : Int) - 2 < 64 := by omega
                    have m16 : (15 : Int) ≤ (t : Int) := by omega
                    have m7 : (7 : Int) ≤ (t : Int) := by omega
                    have m2 : (2 : Int) ≤ (t : Int) := by omega
                    have v16 : IntKind.i64.wrap ((t : Int) - 16) = (t : Int) - 16 := wrapI (by omega) (by omega)
                    have v15 : IntKind.i64.wrap ((t : Int) - 15) = (t : Int) - 15 := wrapI (by omega) (by omega)
                    have v7 : IntKind.i64.wrap ((t : Int) - 7) = (t : Int) - 7 := wrapI (by omega) (by omega)
                    have v2 : IntKind.i64.wrap ((t : Int) - 2) = (t : Int) - 2 := wrapI (by omega) (by omega)
                    have hc16 : ∀ W, wr.grownBy W none → W.cell? ⟨tb, t - 16, none⟩ = some (.int .u32 (un x16)) := fun W hW => hW.cell a16 (by simp)
                    have hc7 : ∀ W, wr.grownBy W none → W.cell? ⟨tb, t - 7, none⟩ = some (.int .u32 (un x7)) := fun W hW => hW.cell a7 (by simp)
                    have HC16 := Lib.hid hc16
                    have HC7 := Lib.hid hc7
                    have HT := Lib.hid (show 16 ≤ t ∧ t < 64 from ⟨by omega, hlt⟩)
                    have HL := Lib.hid hl
                    clear hx16 hx15 hx7 hx2 hc16 hc7 hlt ht h16 hl a16 a7
                    go_wp2
                    refine wp_region_tail _ (fun W => wr.grownBy W none) (fun W W' => W.grownBy W' none) rfl (by kernel_rfl) (by kernel_rfl) (by kernel_rfl) (fun W => grow_refl W none) (grow_drawn (grow_refl _ _)) ?_
                    clear a15 a2
                    repeat (refine wpRel_det ?_; apply Exists.intro; refine ⟨fun W hI => ?_, ?_⟩; focus (have hw1 := HC16.out W hI; have hw2 := HC7.out W hI; go_simp; first | with_reducible exact rrel_7 x15 W hI | with_reducible exact rrel_18 x15 W hI | with_reducible exact rrel_17 x2 W hI | with_reducible exact rrel_19 x2 W hI | exact ⟨rfl, grow_refl _ _⟩))
                    refine wpRel_nil ?_
                    intro w' hI
                    have R4 := R3.out.grow hI
                    have d1 := R4.bt.frozen t
                    have d2 := R4.bt.cell t (by rw [HL.out]; exact HT.out.2)
                    have R5 := R4.set t (u32v (((x16 + sg0 x15) + x7) + sg1 x2))
                    rw [HSET.out] at R5
                    have R6 := Lib.hid R5
                    clear R4 R5
                    go_simp
                    go_wp2
                    go_roundw
                    case rel => exact ⟨t + 1, by have := HT.out; omega, by go_num, R6.out⟩
                    case measure => have := HT.out; simp [intOf]; omega
                · have hti : (64 : Int) ≤ (t : Int) := by omega
                  have R4 : Hid (RW w wr hb kb q tb H M ((schN B 64).map u32v)) := by
                    have e : t = 64 := by omega
                    have := R3.out
                    rw [e, schC_all] at this
                    exact this
                  obtain ⟨vb, hvb⟩ : ∃ vb, vb = wr.heap.size := ⟨_, rfl⟩
                  obtain ⟨LH, hLH⟩ : ∃ LH, LH = H.map u32v := ⟨_, rfl⟩
                  have C0 : Hid (wr.heap[hb]? = some (.cells LH.toArray 57 (0, 0))) := by rw [hLH]; exact R4.out.ru.bh
                  have C1 : Hid ((wr.alloc (.cells z8.toArray 57)).heap[hb]? = some (.cells LH.toArray 57 (0, 0))) := by rw [hLH]; exact R4.out.ru.bh.alloc _
                  have hsz : LH.toArray.size = 8 := by rw [List.size_toArray, hLH, List.length_map, R4.out.ru.h8]
                  have HIN : Hid ((Tryd.prog.info? 57).map (·.size) = some LH.toArray.size) := by show _ = _; rw [hsz]; exact inf8
                  have HZ8 : Hid (z8.toArray.size = LH.toArray.size) := by show _ = _; rw [hsz]; rfl
                  have HONE : Hid (LH.toArray.all (·.oneCell') = true) := by show _ = _; rw [hLH]; exact one_u32 H
                  have BZ : Hid ((wr.alloc (.cells z8.toArray 57)).heap[wr.heap.size]? = some (.cells z8.toArray 57 (0, 0))) := heap_alloc_new _ _
                  have gz : wr.grownBy ((wr.alloc (.cells z8.toArray 57)).setRow vb LH.toArray) none := by rw [hvb]; exact grow_setrow (World.grownBy_alloc _ _ _) (Nat.le_refl _) _
                  have BV : Hid (Blk ((wr.alloc (.cells z8.toArray 57)).setRow vb LH.toArray) vb 57 ((toL (ofL H)).map u32v)) := by
                    have := setRow_heap (wr.alloc (.cells z8.toArray 57)) wr.heap.size z8.toArray LH.toArray 57 (0, 0) BZ.out
                    rw [← hvb] at this
                    rw [toL_ofL R4.out.ru.h8]
                    show Blk _ _ _ (H.map u32v)
                    rw [← hLH]
                    exact this
                  have R5 := Lib.hid (R4.out.grow gz)
                  have HVB : Hid (w.heap.size ≤ vb ∧ hb ≠ vb ∧ kb ≠ vb ∧ q ≠ vb ∧ tb ≠ vb) := by
                    have a1 := R4.out.ru.gr.size
                    have a2 := R4.out.ru.bh.lt
                    have a3 := R4.out.ru.bk.lt
                    have a4 := R4.out.ru.mb.1
                    have a5 := R4.out.bt.lt
                    exact ⟨by omega, by omega, by omega, by omega, by omega⟩
                  have HVV := Lib.hid hvb
                  clear hLH hsz gz hvb hlt ht R3
                  go_wp2_with (first | (refine wpList_load_row rfl 57 (.tmp 3) (by with_reducible rfl) hb rfl 57 LH.toArray (0, 0) _ C0.out Tryd.underlying57 rfl HIN.out ?_) | (refine wpList_store_row rfl 57 (.tmp 14) (.tmp 116) (by with_reducible rfl) wr.heap.size LH.toArray rfl rfl 57 z8.toArray BZ.out HIN.out HZ8.out HONE.out ?_))
                  rw [← HVV.out]
                  go_loopw [15] (fun i wr => ∃ (k : Nat) (st : S8), k ≤ 64 ∧ i = .int .i64 k ∧ st = rnds (schN B 64) (ofL H) k ∧ RW w wr hb kb q tb H M ((schN B 64).map u32v) ∧ Blk wr vb 57 ((toL st).map u32v)) (fun i _ => 64 - (intOf i).toNat)
                  case atStart => exact ⟨0, _, Nat.zero_le _, rfl, rfl, R5.out, BV.out⟩
                  case round =>
                    clear R5 BV BZ HVV R4 C0 C1 HIN HZ8 HONE
                    rename_i kk2 _ wo2 _
                    obtain ⟨k, st, hk, rfl, hst, h1, h2⟩ := hrel
                    have R6 := Lib.hid h1
                    have BV := Lib.hid h2
                    have HST := Lib.hid hst
                    clear h1 h2 hst
                    by_cases hlt : k < 64
                    · have hki : (k : Int) < 64 := by omega
                      obtain ⟨sa, sb, sc, sd, se, sf, sg, sh⟩ := st
                      have c0 : wr.cell? ⟨vb, 0, none⟩ = some (.int .u32 (un sa)) := BV.out.cell 0 (by show 0 < 8; omega)
                      have c1 : wr.cell? ⟨vb, 1, none⟩ = some (.int .u32 (un sb)) := BV.out.cell 1 (by show 1 < 8; omega)
                      have c2 : wr.cell? ⟨vb, 2, none⟩ = some (.int .u32 (un sc)) := BV.out.cell 2 (by show 2 < 8; omega)
                      have c3 : wr.cell? ⟨vb, 3, none⟩ = some (.int .u32 (un sd)) := BV.out.cell 3 (by show 3 < 8; omega)
                      have c4 : wr.cell? ⟨vb, 4, none⟩ = some (.int .u32 (un se)) := BV.out.cell 4 (by show 4 < 8; omega)
                      have c5 : wr.cell? ⟨vb, 5, none⟩ = some (.int .u32 (un sf)) := BV.out.cell 5 (by show 5 < 8; omega)
                      have c6 : wr.cell? ⟨vb, 6, none⟩ = some (.int .u32 (un sg)) := BV.out.cell 6 (by show 6 < 8; omega)
                      have c7 : wr.cell? ⟨vb, 7, none⟩ = some (.int .u32 (un sh)) := BV.out.cell 7 (by show 7 < 8; omega)
                      have kc := R6.out.ru.bk.cell k (by rw [List.length_map, KL_len]; exact hlt)
                      rw [map_getD _ _ (by rw [KL_len]; exact hlt), KL_get k hlt] at kc
                      have wc := R6.out.bt.cell k (by rw [List.length_map, schN_len]; exact hlt)
                      rw [map_getD _ _ (by rw [schN_len]; exact hlt)] at wc
                      obtain ⟨K, hK⟩ : ∃ K, K = Kw k := ⟨_, rfl⟩
                      obtain ⟨Wt, hW⟩ : ∃ W, W = (schN B 64).getD k 0 := ⟨_, rfl⟩
                      rw [← hK] at kc
                      rw [← hW] at wc
                      have HNEXT : Hid (rnd K Wt ⟨sa, sb, sc, sd, se, sf, sg, sh⟩ = rnds (schN B 64) (ofL H) (k + 1)) := by
                        show _ = _
                        rw [rnds, ← HST.out, hK, hW]
                      have H0 := Lib.hid (show ∀ X, wr.grownBy X none → X.cell? ⟨vb, 0, none⟩ = some (.int .u32 (un sa)) from fun X hX => hX.cell c0 (by simp))
                      have H1 := Lib.hid (show ∀ X, wr.grownBy X none → X.cell? ⟨vb, 1, none⟩ = some (.int .u32 (un sb)) from fun X hX => hX.cell c1 (by simp))
                      have H2 := Lib.hid (show ∀ X, wr.grownBy X none → X.cell? ⟨vb, 2, none⟩ = some (.int .u32 (un sc)) from fun X hX => hX.cell c2 (by simp))
                      have H3 := Lib.hid (show ∀ X, wr.grownBy X none → X.cell? ⟨vb, 3, none⟩ = some (.int .u32 (un sd)) from fun X hX => hX.cell c3 (by simp))
                      have H4 := Lib.hid (show ∀ X, wr.grownBy X none → X.cell? ⟨vb, 4, none⟩ = some (.int .u32 (un se)) from fun X hX => hX.cell c4 (by simp))
                      have H5 := Lib.hid (show ∀ X, wr.grownBy X none → X.cell? ⟨vb, 5, none⟩ = some (.int .u32 (un sf)) from fun X hX => hX.cell c5 (by simp))
                      have H6 := Lib.hid (show ∀ X, wr.grownBy X none → X.cell? ⟨vb, 6, none⟩ = some (.int .u32 (un sg)) from fun X hX => hX.cell c6 (by simp))
                      have H7 := Lib.hid (show ∀ X, wr.grownBy X none → X.cell? ⟨vb, 7, none⟩ = some (.int .u32 (un sh)) from fun X hX => hX.cell c7 (by simp))
                      have HKC := Lib.hid (show ∀ X, wr.grownBy X none → X.cell? ⟨kb, k, none⟩ = some (.int .u32 (un K)) from fun X hX => hX.cell kc (by simp))
                      have HWC := Lib.hid (show ∀ X, wr.grownBy X none → X.cell? ⟨tb, k, none⟩ = some (.int .u32 (un Wt)) from fun X hX => hX.cell wc (by simp))
                      have HK := Lib.hid hlt
                      clear c1 c2 c3 c5 c6 c7 kc wc hK hW hlt hk HST
                      go_wp2
                      refine wp_region_rel (fun X => wr.grownBy X none) (fun X X' => X.grownBy X' none) (by kernel_rfl) (by kernel_rfl) (fun X => grow_refl X none) (grow_drawn (grow_refl _ _)) ?_
                      clear c0 c4
                      repeat (refine wpRel_det ?_; apply Exists.intro; refine ⟨fun X hI => ?_, ?_⟩; focus (have x1 := H5.out X hI; have x2 := H6.out X hI; have x3 := H7.out X hI; have x4 := HKC.out X hI; have x5 := HWC.out X hI; go_simp; first | with_reducible exact rrel_6 se X hI | with_reducible exact rrel_11 se X hI | with_reducible exact rrel_25 se X hI | exact ⟨rfl, grow_refl _ _⟩))
                      refine wpRel_nil ?_
                      intro w3 hI3
                      have G3 := Lib.hid hI3
                      clear hI3
                      go_simp
                      go_wp2
                      refine wp_region_rel (fun X => wr.grownBy X none) (fun X X' => X.grownBy X' none) (by kernel_rfl) (by kernel_rfl) (fun X => grow_refl X none) (grow_drawn G3.out) ?_
                      repeat (refine wpRel_det ?_; apply Exists.intro; refine ⟨fun X hI => ?_, ?_⟩; focus (have x1 := H1.out X hI; have x2 := H2.out X hI; go_simp; first | with_reducible exact rrel_2 sa X hI | with_reducible exact rrel_13 sa X hI | with_reducible exact rrel_22 sa X hI | exact ⟨rfl, grow_refl _ _⟩))
                      refine wpRel_nil ?_
                      intro w4 hI4
                      have G4 := Lib.hid hI4
                      have c0 := H0.out w4 hI4
                      have c1 := H1.out w4 hI4
                      have c2 := H2.out w4 hI4
                      have c3 := H3.out w4 hI4
                      have c4 := H4.out w4 hI4
                      have c5 := H5.out w4 hI4
                      have c6 := H6.out w4 hI4
                      have BV4 := Lib.hid (BV.out.keep hI4)
                      have R7 := Lib.hid (R6.out.grow hI4)
                      have BC : Hid (w4.heap[vb]? = some (.cells ((toL ⟨sa, sb, sc, sd, se, sf, sg, sh⟩).map u32v).toArray 57 (0, 0))) := BV4.out
                      have HON : Hid (((toL (rnd K Wt ⟨sa, sb, sc, sd, se, sf, sg, sh⟩)).map u32v).toArray.all (·.oneCell') = true) := one_u32 _
                      have HIN : Hid ((Tryd.prog.info? 57).map (·.size) = some ((toL (rnd K Wt ⟨sa, sb, sc, sd, se, sf, sg, sh⟩)).map u32v).toArray.size) := inf8
                      have BN := Lib.hid (setRow_heap w4 vb _ ((toL (rnd K Wt ⟨sa, sb, sc, sd, se, sf, sg, sh⟩)).map u32v).toArray 57 (0, 0) BC.out)
                      have RN := Lib.hid (R7.out.wrote (grow_rowat w4 vb ((toL (rnd K Wt ⟨sa, sb, sc, sd, se, sf, sg, sh⟩)).map u32v).toArray) HVB.out.1 HVB.out.2.1 HVB.out.2.2.1 HVB.out.2.2.2.1 HVB.out.2.2.2.2)
                      clear hI4 H0 H1 H2 H3 H4 H5 H6 H7 HKC HWC BV R6 R7 G4 G3 BV4 HZ HB0 HLN HDIG HA HNX HBY
                      go_simp
                      go_wp2_with (refine wpList_store_row rfl 57 (.tmp 14) (.tmp 198) (by with_reducible rfl) vb ((toL (rnd K Wt ⟨sa, sb, sc, sd, se, sf, sg, sh⟩)).map u32v).toArray rfl rfl 57 _ BC.out HIN.out rfl HON.out ?_)
                      go_roundw
                      case rel => exact ⟨k + 1, _, by have := HK.out; omega, by go_num, HNEXT.out, RN.out, BN.out⟩
                      case measure => have := HK.out; simp [intOf]; omega
                    · have hki : (64 : Int) ≤ (k : Int) := by omega
                      obtain ⟨V, hV⟩ : ∃ V, V = toL st := ⟨_, rfl⟩
                      have HVN : Hid (V.length = 8 ∧ addW H V = takeW B H) := by
                        refine ⟨by rw [hV]; rfl, ?_⟩
                        have e : k = 64 := by omega
                        rw [hV, HST.out, e]
                        rfl
                      have BV2 : Hid (Blk wr vb 57 (V.map u32v)) := by rw [hV]; exact BV.out
                      have R7 := Lib.hid R6.out.ru
                      have H8 := Lib.hid R6.out.ru.h8
                      clear hV BV R6 HST hlt hk
                      go_wp2
                      go_loopw [20] (fun i wr => ∃ k : Nat, k ≤ 8 ∧ i = .int .i64 k ∧ RU w wr hb kb q (addC H V k) M ∧ Blk wr vb 57 (V.map u32v)) (fun i _ => 8 - (intOf i).toNat)
                      case atStart => exact ⟨0, Nat.zero_le _, rfl, by rw [addC_zero]; exact R7.out, BV2.out⟩
                      case round =>
                        clear R7 BV2
                        rename_i kk3 _ wo3 _
                        obtain ⟨j, hj, rfl, h1, h2⟩ := hrel
                        have R8 := Lib.hid h1
                        have BV := Lib.hid h2
                        clear h1 h2
                        by_cases hlt : j < 8
                        · have hji : (j : Int) < 8 := by omega
                          have cc := R8.out.bh.cell j (by rw [List.length_map, R8.out.h8]; omega)
                          rw [map_getD _ _ (by rw [R8.out.h8]; omega), addC_at H8.out HVN.out.1 j hlt] at cc
                          have cv := BV.out.cell j (by rw [List.length_map, HVN.out.1]; omega)
                          rw [map_getD _ _ (by rw [HVN.out.1]; omega)] at cv
                          have HSET : ((addC H V j).map u32v).set j (u32v (H.getD j 0 + V.getD j 0)) = (addC H V (j + 1)).map u32v := by
                            rw [← List.map_set, addC_set H8.out HVN.out.1 j hlt]
                          obtain ⟨x, hx⟩ : ∃ x, x = H.getD j 0 := ⟨_, rfl⟩
                          obtain ⟨y, hy⟩ : ∃ y, y = V.getD j 0 := ⟨_, rfl⟩
                          rw [← hx] at cc HSET
                          rw [← hy] at cv HSET
                          have d1 := R8.out.bh.frozen j
                          have R9 := Lib.hid (R8.out.seth HSET (addC_len H8.out HVN.out.1 (j + 1) (by omega)))
                          have BV3 := Lib.hid (BV.out.far (p := ⟨hb, j, none⟩) (Ne.symm HVB.out.2.1) (u32v (x + y)))
                          have HJ := Lib.hid hlt
                          clear hx hy HSET hlt hj
                          go_wp2
                          go_region
                          all_goals
                            go_wp2
                            go_roundw
                            case rel => exact ⟨j + 1, by have := HJ.out; omega, by go_num, R9.out.grow (grow_drawn (grow_refl _ _)), BV3.out⟩
                            case measure => have := HJ.out; simp [intOf]; omega
                        · have hji : (8 : Int) ≤ (j : Int) := by omega
                          have R9 : Hid (RU w wr hb kb q (stM M h0 (n + 1)) M) := by
                            have e : j = 8 := by omega
                            have := R8.out
                            rw [e, addC_all H8.out HVN.out.1, HVN.out.2, HNX.out] at this
                            exact this
                          have hAi : (A : Int) ≤ 200000000 := by have := HA.out; have := HLN.out; omega
                          clear R8 BV hlt hj
                          go_wp2
                          go_roundw
                          case rel => exact ⟨n + 1, A + 64, by have := HA.out; omega, by have := HA.out; omega, by go_num, R9.out⟩
                          case measure => have := HA.out; have := HLN.out; simp [intOf]; omega
            · have hAL : (L : Int) ≤ (A : Int) := by have := HLN.out; omega
              obtain ⟨H, hH⟩ : ∃ H, H = stM M h0 n := ⟨_, rfl⟩
              rw [← hH] at R1
              have HFIN : Hid (digB H = shaS s) := by
                show _ = _
                have e : n = N := by omega
                rw [hH, e]; exact HDIG.out
              have BH := Lib.hid R1.out.bh
              have H8 := Lib.hid R1.out.h8
              have GR := Lib.hid R1.out.gr
              obtain ⟨i0, hi, hz0, hz1, hz2⟩ := info_parts info03_u8
              have O0 := Lib.hid (own_empty wr 5 1)
              clear hH hA hn hlt R1
              go_wp2
              have e1 : decide (A < L) = false := decide_eq_false (by omega)
              simp only [e1]
              clear hAL e1
              go_loopw [21, 22] (fun v i w2 => ∃ k : Nat, k ≤ 8 ∧ i = .int .i64 k ∧ w2.ownsRow 0 5 1 v (4 * k) ((digB (H.take k)).map c8) ∧ wr.grownBy w2 none ∧ NewBlk wr v) (fun _ i _ => 8 - (intOf i).toNat)
              case atStart => exact ⟨0, Nat.zero_le _, rfl, O0.out, World.grownBy_alloc _ _ _, newblk_at _ _ _ _ (Nat.le_refl _) _⟩
              case round =>
                clear O0
                rename_i u21 _ _
                obtain ⟨k, hk, rfl, ho, hg, hnb⟩ := hrel
                by_cases hlt : k < 8
                · have hki : (k : Int) < 8 := by omega
                  have cx := (BH.out.keep hg).cell k (by rw [List.length_map, H8.out]; exact hlt)
                  rw [map_getD _ _ (by rw [H8.out]; exact hlt)] at cx
                  have HSN := Lib.hid (digB_snoc H k (by rw [H8.out]; exact hlt))
                  obtain ⟨x, hx⟩ : ∃ x, x = H.getD k 0 := ⟨_, rfl⟩
                  rw [← hx] at cx HSN
                  have HK := Lib.hid hlt
                  have HC : Hid (∀ W, wr.grownBy W none → W.cell? ⟨hb, k, none⟩ = some (u32v x)) := by
                    intro W hW
                    rw [World.cell?_of_block (hW.block hb (World.block_lt_of_cell? _ _ cx) (by simp))]
                    exact cx
                  have GA := Lib.hid hg
                  have OA := Lib.hid ho
                  have hb1 : 4 * k + 4 ≤ maxLen := by show _ ≤ 2^63-1; omega
                  have hb2 : (4 * k + 4) * 1 ≤ 140737488355328 := by omega
                  have HB1 := Lib.hid hb1
                  have HB2 := Lib.hid hb2
                  have HNB := Lib.hid hnb
                  clear hx hnb hlt hk ho hg hb1 hb2 cx
                  go_wp2
                  refine wp_region_tails 21 _ _ (fun W => wr.grownBy W none) (fun W W' => W.grownBy W' none) (by simp only [List.take_succ_cons, List.take_zero]; exact rfl) (by simp only [List.drop_succ_cons, List.drop_zero]; exact rfl) (by kernel_rfl) (by kernel_rfl) (by kernel_rfl) (fun W => grow_refl W none) (grow_drawn (grow_refl _ _)) ?_
                  iterate 20 (refine wpRel_det ?_; apply Exists.intro; refine ⟨fun W hI => ?_, ?_⟩; focus (have hcW := HC.out W hI; go_simp; first | exact ⟨rfl, grow_refl _ _⟩ | exact ⟨rfl, hI, grow_refl _ _⟩))
                  have f24 : IntKind.u8.wrap ((un x).fdiv 16777216) = lowI (x >>> 24) := by rw [Int.fdiv_eq_ediv_of_nonneg _ (by decide)]; exact low_conv x 24 16777216 rfl
                  have f16 : IntKind.u8.wrap ((un x).fdiv 65536) = lowI (x >>> 16) := by rw [Int.fdiv_eq_ediv_of_nonneg _ (by decide)]; exact low_conv x 16 65536 rfl
                  have f8 : IntKind.u8.wrap ((un x).fdiv 256) = lowI (x >>> 8) := by rw [Int.fdiv_eq_ediv_of_nonneg _ (by decide)]; exact low_conv x 8 256 rfl
                  refine wpRel_step (V4 [c8 (lowB (x >>> 24)), c8 (lowB (x >>> 16)), c8 (lowB (x >>> 8)), c8 (lowB x)]) (fun v w w' g h => V4.kept h g) (fun W hI => ?_) ?_
                  · go_simp
                    exact ⟨RowAt.lit W [c8 (lowB (x >>> 24)), c8 (lowB (x >>> 16)), c8 (lowB (x >>> 8)), c8 (lowB x)] _ 4 4 rfl, grow_none hI (World.grownBy_alloc _ _ _), World.grownBy_alloc _ _ _⟩
                  refine wpRel_nil ?_
                  intro w3 hI3
                  go_simp
                  intro vr hv
                  have oA : w3.ownsRow 0 5 1 u21 (4 * k) ((digB (H.take k)).map c8) := own_keep OA.out hI3
                  have GB := Lib.hid (grow_none GA.out hI3)
                  refine wpList_append_row _ rfl (.tmp 216) (.tmp 236) 52 (by with_reducible rfl) 5 i0 (.int .u8 0) 1 Tryd.underlying52 hi hz0 hz1 hz2 rfl _ _ _ rfl oA _ [c8 (lowB (x >>> 24)), c8 (lowB (x >>> 16)), c8 (lowB (x >>> 8)), c8 (lowB x)] rfl hv (one_c8 [lowB (x >>> 24), lowB (x >>> 16), lowB (x >>> 8), lowB x]) HB1.out HB2.out ?_
                  intro v4 w4 o4 g4 m4
                  have X4 := Lib.hid (grow_newblk GB.out HNB.out g4)
                  have N4 := Lib.hid (HNB.out.moved GB.out.size m4)
                  have O4 : Hid (w4.ownsRow 0 5 1 v4 (4 * k + 4) ((digB (H.take (k + 1))).map c8)) := by
                    show w4.ownsRow _ _ _ _ _ _
                    rw [HSN.out, List.map_append]
                    exact o4
                  clear o4 g4 m4 oA hv hI3 f24 f16 f8 OA HC HB1 HB2 hi hz0 hz1 hz2
                  go_simp
                  go_wp2
                  go_roundw
                  case rel => exact ⟨k + 1, by have := HK.out; omega, by go_num, O4.out, X4.out, N4.out⟩
                  case measure => have := HK.out; simp [intOf]; omega
                · have hki : (8 : Int) ≤ (k : Int) := by omega
                  have ho2 : wr.ownsRow 0 5 1 u21 (4 * k) ((shaS s).map c8) := by
                    have e : H.take k = H := List.take_of_length_le (by rw [H8.out]; omega)
                    rw [e, HFIN.out] at ho
                    exact ho
                  have hconv := run_str_buf (P := Tryd.prog) wr Tryd.underlying52 Tryd.underlying5 Tryd.underlying9 ho2
                  have GE := Lib.hid (grow_none GR.out hg)
                  clear ho ho2 hg hnb hlt hk
                  go_wp2
                  go_ret
                  exact ⟨rfl, GE.out⟩
end Go.Proofs.YtgcdfoadegojcaaDoor
