/- Stage 3: a block is gone through. -/
import Derived.Test.YtgcdfoadegojcaaDoorShC
namespace Go.Proofs.YtgcdfoadegojcaaDoor
open Go.RowKit
set_option linter.unusedVariables false
def cubesL : List Nat := [
  0x428a2f98, 0x71374491, 0xb5c0fbcf, 0xe9b5dba5, 0x3956c25b, 0x59f111f1, 0x923f82a4, 0xab1c5ed5,
  0xd807aa98, 0x12835b01, 0x243185be, 0x550c7dc3, 0x72be5d74, 0x80deb1fe, 0x9bdc06a7, 0xc19bf174,
  0xe49b69c1, 0xefbe4786, 0x0fc19dc6, 0x240ca1cc, 0x2de92c6f, 0x4a7484aa, 0x5cb0a9dc, 0x76f988da,
  0x983e5152, 0xa831c66d, 0xb00327c8, 0xbf597fc7, 0xc6e00bf3, 0xd5a79147, 0x06ca6351, 0x14292967,
  0x27b70a85, 0x2e1b2138, 0x4d2c6dfc, 0x53380d13, 0x650a7354, 0x766a0abb, 0x81c2c92e, 0x92722c85,
  0xa2bfe8a1, 0xa81a664b, 0xc24b8b70, 0xc76c51a3, 0xd192e819, 0xd6990624, 0xf40e3585, 0x106aa070,
  0x19a4c116, 0x1e376c08, 0x2748774c, 0x34b0bcb5, 0x391c0cb3, 0x4ed8aa4a, 0x5b9cca4f, 0x682e6ff3,
  0x748f82ee, 0x78a5636f, 0x84c87814, 0x8cc70208, 0x90befffa, 0xa4506ceb, 0xbef9a3f7, 0xc67178f2]
def Kw (t : Nat) : BitVec 32 := BitVec.ofNat 32 (cubesL.getD t 0)
/-- The table of the 64 words lies there. -/
def Ck (w : World) : Prop := ∀ j, j < 64 → w.cell? ⟨1, j, none⟩ = some (.int .u32 (un (Kw j)))
theorem Ck.kept {w w' : World} {q : Option Nat} (h : Ck w) (g : w.grownBy w' q) (hq : q ≠ some 1) : Ck w' := fun j hj => by
  have hc := h j hj
  rw [World.cell?_of_block (g.block _ (World.block_lt_of_cell? _ _ hc) (Ne.symm hq))]
  exact hc
structure S8 where
  a : BitVec 32
  b : BitVec 32
  c : BitVec 32
  d : BitVec 32
  e : BitVec 32
  f : BitVec 32
  g : BitVec 32
  h : BitVec 32
def T1 (s : S8) (K W : BitVec 32) : BitVec 32 := (((s.h + ((rr s.e 6 ^^^ rr s.e 11) ^^^ rr s.e 25)) + ((s.e &&& s.f) ^^^ (~~~ s.e &&& s.g))) + K) + W
def T2 (s : S8) : BitVec 32 := ((rr s.a 2 ^^^ rr s.a 13) ^^^ rr s.a 22) + (((s.a &&& s.b) ^^^ (s.a &&& s.c)) ^^^ (s.b &&& s.c))
def rnd (K W : BitVec 32) (s : S8) : S8 := ⟨T1 s K W + T2 s, s.a, s.b, s.c, s.d + T1 s K W, s.e, s.f, s.g⟩
def ofL (h : List (BitVec 32)) : S8 := ⟨h.getD 0 0, h.getD 1 0, h.getD 2 0, h.getD 3 0, h.getD 4 0, h.getD 5 0, h.getD 6 0, h.getD 7 0⟩
def toL (s : S8) : List (BitVec 32) := [s.a, s.b, s.c, s.d, s.e, s.f, s.g, s.h]
def rnds (W : List (BitVec 32)) (s : S8) : Nat → S8
  | 0 => s
  | n + 1 => rnd (Kw n) (W.getD n 0) (rnds W s n)
/-- The state behind a block. -/
def takeW (s : ByteArray) (h : List (BitVec 32)) : List (BitVec 32) := addW h (toL (rnds (schN s 64) (ofL h) 64))
theorem takeW_len (s : ByteArray) {h : List (BitVec 32)} (h8 : h.length = 8) : (takeW s h).length = 8 := addW_len h8 rfl
theorem same_rel {f : FuncId} {args : Array Value} {v : Value} {w0 w : World} (h : Calls Tryd.prog f args w fun e w' => e = .returned v ∧ w = w') (hI : w0.grownBy w none) :
    Calls Tryd.prog f args w fun e w' => ∃ u, e = .returned u ∧ u = v ∧ w0.grownBy w' none ∧ w.grownBy w' none :=
  h.mono fun e w' ⟨he, hw⟩ => by subst hw; exact ⟨_, he, rfl, hI, grow_refl _ _⟩
set_option maxRecDepth 100000 in
set_option maxHeartbeats 4000000 in
theorem take_any (b : Nat) (h : List (BitVec 32)) (s : ByteArray) (w : World) (hs : s.size = 64) (h8 : h.length = 8) (hb : Blk w b 58 (h.map u32v)) (hck : Ck w) (hbg : b ≠ 1) :
    Calls Tryd.prog 32 #[.pointer (some ⟨b, 0, none⟩), .string s] w fun e w' => e = .returned (.tuple #[]) ∧ Blk w' b 58 ((takeW s h).map u32v) ∧ w.grownBy w' (some b) := by
  have H8 := Lib.hid h8
  have HBG := Lib.hid hbg
  have HCK := Lib.hid hck
  have HSC := Lib.hid (schedule_any s w hs)
  clear hs h8 hbg hck
  go_enter Tryd.func32, Tryd.ntmps32
  go_wp2_with fail
  refine HSC.out.mono ?_
  rintro e w1 ⟨rfl, g1⟩
  obtain ⟨L, hL⟩ : ∃ L, L = (schN s 64).map u32v := ⟨_, rfl⟩
  rw [← hL]
  have hsz : L.length = 64 := by rw [hL, List.length_map, schN_len]
  have hone : L.toArray.all (·.oneCell') = true := by
    rw [Array.all_eq_true_iff_forall_mem]
    intro v hv
    rw [List.mem_toArray, hL, List.mem_map] at hv
    obtain ⟨x, _, rfl⟩ := hv
    rfl
  have hin : (Tryd.prog.info? 65).map (·.size) = some L.toArray.size := by
    rw [List.size_toArray, hsz]; kernel_rfl
  have hz6 : z64.toArray.size = L.toArray.size := by rw [List.size_toArray, List.size_toArray, hsz]; rfl
  have bz : Blk (w1.alloc (.cells z64.toArray 65)) w1.heap.size 65 z64 := Blk.new _ _ _
  have HIN := Lib.hid hin
  have HZ := Lib.hid hz6
  have HONE := Lib.hid hone
  have HL := Lib.hid hL
  have HSZ := Lib.hid hsz
  have BZ := Lib.hid bz
  clear hin hz6 hone hL hsz bz
  go_wp2_with (refine wpList_store_row rfl 65 (.tmp 4) (.tmp 17) (by with_reducible rfl) w1.heap.size L.toArray rfl rfl 65 z64.toArray BZ.out HIN.out HZ.out HONE.out ?_)
  obtain ⟨w2, hw2⟩ : ∃ w2, (w1.alloc (.cells z64.toArray 65)).setRow w1.heap.size L.toArray = w2 := ⟨_, rfl⟩
  refine wp_at (w' := w2) hw2 ?_
  obtain ⟨g, hg⟩ : ∃ g, g = w1.heap.size := ⟨_, rfl⟩
  have hg0 : w.heap.size ≤ g := by rw [hg]; exact g1.size
  have hbl := hb.lt
  have hgb : b ≠ g := by omega
  have bg : Blk w2 g 65 L := by
    rw [hg, ← hw2]; exact setRow_heap _ _ z64.toArray L.toArray _ _ BZ.out
  have G2 : w.grownBy w2 none := by
    rw [← hw2]
    exact grow_setrow (grow_none g1 (World.grownBy_alloc _ _ _)) (by rw [← hg]; exact hg0) _
  have bb : Blk w2 b 58 (h.map u32v) := hb.keep G2
  have ck2 : Ck w2 := HCK.out.kept G2 (by simp)
  rw [← hg]
  clear hw2 BZ g1 hg
  have c0 := bb.cell 0 (by rw [List.length_map, H8.out]; omega)
  rw [map_getD _ _ (by rw [H8.out]; omega)] at c0
  have c1 := bb.cell 1 (by rw [List.length_map, H8.out]; omega)
  rw [map_getD _ _ (by rw [H8.out]; omega)] at c1
  have c2 := bb.cell 2 (by rw [List.length_map, H8.out]; omega)
  rw [map_getD _ _ (by rw [H8.out]; omega)] at c2
  have c3 := bb.cell 3 (by rw [List.length_map, H8.out]; omega)
  rw [map_getD _ _ (by rw [H8.out]; omega)] at c3
  have c4 := bb.cell 4 (by rw [List.length_map, H8.out]; omega)
  rw [map_getD _ _ (by rw [H8.out]; omega)] at c4
  have c5 := bb.cell 5 (by rw [List.length_map, H8.out]; omega)
  rw [map_getD _ _ (by rw [H8.out]; omega)] at c5
  have c6 := bb.cell 6 (by rw [List.length_map, H8.out]; omega)
  rw [map_getD _ _ (by rw [H8.out]; omega)] at c6
  have c7 := bb.cell 7 (by rw [List.length_map, H8.out]; omega)
  rw [map_getD _ _ (by rw [H8.out]; omega)] at c7
  have HCK2 := Lib.hid ck2
  have HBG2 := Lib.hid bg
  have HBB := Lib.hid bb
  clear ck2 bg bb
  go_quiet (fail)
  clear c0 c1 c2 c3 c4 c5 c6 c7
  go_wp2
  go_loopw [5, 6, 7, 8, 9, 10, 11, 12, 50] (fun va vb vc vd ve vf vg vh i wr => ∃ (k : Nat) (st : S8), k ≤ 64 ∧ st = rnds (schN s 64) (ofL h) k ∧ i = .int .i64 k ∧ va = .int .u32 (un st.a) ∧ vb = .int .u32 (un st.b) ∧ vc = .int .u32 (un st.c) ∧ vd = .int .u32 (un st.d) ∧ ve = .int .u32 (un st.e) ∧ vf = .int .u32 (un st.f) ∧ vg = .int .u32 (un st.g) ∧ vh = .int .u32 (un st.h) ∧ w2.grownBy wr none) (fun _ _ _ _ _ _ _ _ i _ => 64 - (intOf i).toNat)
  case atStart => exact ⟨0, ofL h, Nat.zero_le _, rfl, rfl, rfl, rfl, rfl, rfl, rfl, rfl, rfl, rfl, grow_drawnN _ (grow_refl _ _)⟩
  case round =>
    obtain ⟨k, st, hk, hst, rfl, rfl, rfl, rfl, rfl, rfl, rfl, rfl, rfl, hgw⟩ := hrel
    have HST := Lib.hid hst
    clear hst
    obtain ⟨A, B, C, D, E, F, G, H⟩ := st
    simp only []
    by_cases hlt : k < 64
    · have hki : (k : Int) < 64 := by omega
      have kc := (HCK2.out.kept hgw (by simp)) k hlt
      have wc := (HBG2.out.keep hgw).cell k (by rw [HSZ.out]; exact hlt)
      rw [show L.getD k undef = .int .u32 (un ((schN s 64).getD k 0)) by rw [HL.out]; exact map_getD _ _ (by rw [schN_len]; exact hlt)] at wc
      obtain ⟨K, hK⟩ : ∃ K, K = Kw k := ⟨_, rfl⟩
      obtain ⟨W, hW⟩ : ∃ W, W = (schN s 64).getD k 0 := ⟨_, rfl⟩
      rw [← hK] at kc
      rw [← hW] at wc
      have HNEXT : Hid (rnd K W ⟨A, B, C, D, E, F, G, H⟩ = rnds (schN s 64) (ofL h) (k + 1)) := by
        show _ = _
        rw [rnds, ← HST.out, hK, hW]
      have hkc : ∀ X, wr.grownBy X none → X.cell? ⟨1, k, none⟩ = some (.int .u32 (un K)) := fun X hX => hX.cell kc (by simp)
      have hwc : ∀ X, wr.grownBy X none → X.cell? ⟨g, k, none⟩ = some (.int .u32 (un W)) := fun X hX => hX.cell wc (by simp)
      have HKC := Lib.hid hkc
      have HWC := Lib.hid hwc
      clear hK hW kc wc hkc hwc
      go_wp2
      refine wp_region_rel (fun X => wr.grownBy X none) (fun X X' => X.grownBy X' none) (by kernel_rfl) (by kernel_rfl) (fun X => grow_refl X none) (grow_drawn (grow_refl _ _)) ?_
      repeat (refine wpRel_det ?_; apply Exists.intro; refine ⟨fun X hI => ?_, ?_⟩; focus (have hx1 := HKC.out X hI; have hx2 := HWC.out X hI; go_simp; first | exact ⟨rfl, grow_refl _ _⟩ | exact same_rel (rot_6 E _) hI | exact same_rel (rot_11 E _) hI | exact same_rel (rot_25 E _) hI))
      refine wpRel_nil ?_
      intro w3 hI
      have hg3 := grow_none hgw hI
      go_simp
      go_wp2_with fail
      refine (rot_2 A _).mono ?_
      rintro e w' ⟨rfl, rfl⟩
      go_wp2_with fail
      refine (rot_13 A _).mono ?_
      rintro e w' ⟨rfl, rfl⟩
      go_wp2_with fail
      refine (rot_22 A _).mono ?_
      rintro e w' ⟨rfl, rfl⟩
      go_wp2
      go_roundw
      case rel => exact ⟨k + 1, rnd K W ⟨A, B, C, D, E, F, G, H⟩, by omega, HNEXT.out, by go_num, rfl, rfl, rfl, rfl, rfl, rfl, rfl, rfl, hg3⟩
      case measure => simp [intOf]; omega
    · have hki : (64 : Int) ≤ (k : Int) := by omega
      have HFIN : Hid (addW h [A, B, C, D, E, F, G, H] = takeW s h) := by
        show _ = _
        have e : k = 64 := by omega
        have h2 := HST.out
        rw [e] at h2
        unfold takeW
        rw [← h2]; rfl
      have bb3 := HBB.out.keep hgw
      go_wp2_with fail
      refine (add_any b h [A, B, C, D, E, F, G, H] _ H8.out rfl bb3).mono ?_
      rintro e w4 ⟨rfl, b4, g4⟩
      rw [HFIN.out] at b4
      go_wp2
      go_end0
      exact ⟨rfl, b4, grow_same (grow_to (grow_none G2 hgw)) g4⟩
end Go.Proofs.YtgcdfoadegojcaaDoor
