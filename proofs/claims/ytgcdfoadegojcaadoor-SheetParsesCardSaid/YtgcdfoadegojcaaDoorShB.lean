/- Stage 3: the words of a block. -/
import Derived.Test.YtgcdfoadegojcaaDoorShA
import Derived.Test.YtgcdfoadegojcaaDoorRelT
import Derived.Laws.Rows
namespace Go.Proofs.YtgcdfoadegojcaaDoor
open Go.RowKit
set_option linter.unusedVariables false
def u32v (x : BitVec 32) : Value := .int .u32 (un x)
def byW (s : ByteArray) (j : Nat) : BitVec 32 := BitVec.ofNat 32 (s.data.toList.getD j 0).toNat
/-- The t-th word of a block's bytes. -/
def be (s : ByteArray) (t : Nat) : BitVec 32 := ((byW s (4 * t) <<< 24 ||| byW s (4 * t + 1) <<< 16) ||| byW s (4 * t + 2) <<< 8) ||| byW s (4 * t + 3)
def sg0 (x : BitVec 32) : BitVec 32 := (rr x 7 ^^^ rr x 18) ^^^ (x >>> 3)
def sg1 (x : BitVec 32) : BitVec 32 := (rr x 17 ^^^ rr x 19) ^^^ (x >>> 10)
def schF (s : ByteArray) (l : List (BitVec 32)) (t : Nat) : BitVec 32 :=
  if t < 16 then be s t else ((l.getD (t - 16) 0 + sg0 (l.getD (t - 15) 0)) + l.getD (t - 7) 0) + sg1 (l.getD (t - 2) 0)
/-- The first words of a block. -/
def schN (s : ByteArray) : Nat → List (BitVec 32)
  | 0 => []
  | n + 1 => schN s n ++ [schF s (schN s n) n]
theorem schN_len (s : ByteArray) : ∀ n, (schN s n).length = n
  | 0 => rfl
  | n + 1 => by rw [schN, List.length_append, schN_len s n]; rfl
def z64 : List Value := List.replicate 64 (.int .u32 0)
/-- The block's cells when the first k words are there. -/
def schC (s : ByteArray) (k : Nat) : List Value := (schN s k).map u32v ++ List.replicate (64 - k) (.int .u32 0)
theorem schC_zero (s : ByteArray) : schC s 0 = z64 := rfl
theorem schC_len (s : ByteArray) (k : Nat) (hk : k ≤ 64) : (schC s k).length = 64 := by
  unfold schC; rw [List.length_append, List.length_map, schN_len, List.length_replicate]; omega
theorem schC_set (s : ByteArray) (k : Nat) (hk : k < 64) : (schC s k).set k (u32v (schF s (schN s k) k)) = schC s (k + 1) := by
  unfold schC
  have hl : ((schN s k).map u32v).length = k := by rw [List.length_map, schN_len]
  rw [List.set_append_right _ _ (by omega), hl, Nat.sub_self, schN, List.map_append, List.append_assoc]
  congr 1
  rw [show 64 - k = (64 - (k + 1)) + 1 by omega, List.replicate_succ]
  rfl
theorem schC_get (s : ByteArray) (k j : Nat) (hj : j < k) : (schC s k).getD j undef = u32v ((schN s k).getD j 0) := by
  unfold schC
  have hl : ((schN s k).map u32v).length = k := by rw [List.length_map, schN_len]
  have h2 : j < (schN s k).length := by rw [schN_len]; exact hj
  rw [List.getD, List.getElem?_append_left (by omega), List.getElem?_map, List.getElem?_eq_getElem h2, List.getD, List.getElem?_eq_getElem h2]
  rfl
theorem schC_all (s : ByteArray) : schC s 64 = (schN s 64).map u32v := by unfold schC; simp
theorem wp_at {P : Program} {Q : Exit → Act → World → Prop} {c : Code} {a : Act} {w w' : World} (e : w = w') (h : c.wp P Q a w') : c.wp P Q a w := e ▸ h
theorem grow_setrow {w w1 : World} {q : Option Nat} (g : w.grownBy w1 q) {r : Nat} (hr : w.heap.size ≤ r) (cs : Array Value) : w.grownBy (w1.setRow r cs) q :=
  ⟨g.os, g.tape, g.output, by rw [setRow_size]; exact g.size, fun k hk hn => by rw [setRow_other w1 r k cs (by omega), g.block k hk hn]⟩
theorem byW_nat (s : ByteArray) (j : Nat) (hj : j < s.size) : ((s[j].toNat : Nat) : Int) = un (byW s j) := by
  unfold byW un
  rw [byte_get s j hj, BitVec.toNat_ofNat]
  have := s[j].toNat_lt
  omega
theorem wrapI {x : Int} (h1 : -9223372036854775808 ≤ x) (h2 : x ≤ 9223372036854775807) : IntKind.i64.wrap x = x := by
  rw [IntKind.wrap_i64]; omega
set_option maxRecDepth 100000 in
set_option maxHeartbeats 2000000 in
theorem schedule_any (s : ByteArray) (w : World) (hs : s.size = 64) :
    Calls Tryd.prog 61 #[.string s] w fun e w' => e = .returned (.agg ((schN s 64).map u32v).toArray) ∧ w.grownBy w' none := by
  have HS := Lib.hid hs
  have hsi : (s.size : Int) ≤ 64 := by omega
  have hsj : (64 : Int) ≤ (s.size : Int) := by omega
  have b0 : Blk ((w.alloc (.cells z64.toArray 65)).alloc (.cells z64.toArray 65)) w.heap.size 65 z64 := (Blk.new w _ _).alloc _
  have b1 : Blk ((w.alloc (.cells z64.toArray 65)).alloc (.cells z64.toArray 65)) (w.heap.size + 1) 65 z64 := by
    have h := Blk.new (w.alloc (.cells z64.toArray 65)) 65 z64
    rw [show (w.alloc (.cells z64.toArray 65)).heap.size = w.heap.size + 1 by simp] at h
    exact h
  have g0 : w.grownBy ((w.alloc (.cells z64.toArray 65)).alloc (.cells z64.toArray 65)) none := grow_none (World.grownBy_alloc _ _ _) (World.grownBy_alloc _ _ _)
  obtain ⟨w2, hw2⟩ : ∃ w2, (w.alloc (.cells z64.toArray 65)).alloc (.cells z64.toArray 65) = w2 := ⟨_, rfl⟩
  rw [hw2] at b0 b1 g0
  obtain ⟨g, hg⟩ : ∃ g, w.heap.size + 1 = g := ⟨_, rfl⟩
  obtain ⟨r, hr⟩ : ∃ r, w.heap.size = r := ⟨_, rfl⟩
  rw [hg] at b1
  rw [hr] at b0
  have HW := Lib.hid hw2
  have HG := Lib.hid hg
  have HR := Lib.hid hr
  have hgr : g ≠ r := by omega
  have hg1 : w.heap.size ≤ g := by omega
  have hr1 : w.heap.size ≤ r := by omega
  clear hs hw2 hg hr
  go_enter Tryd.func61, Tryd.ntmps61
  go_wp2
  refine wp_at (w' := (w.alloc (.cells z64.toArray 65)).alloc (.cells z64.toArray 65)) rfl ?_
  rw [HW.out, HG.out, HR.out]
  go_loopw [10] (fun i wr => ∃ k : Nat, k ≤ 16 ∧ i = .int .i64 k ∧ Blk wr g 65 (schC s k) ∧ Blk wr r 65 z64 ∧ w.grownBy wr none) (fun i _ => 16 - (intOf i).toNat)
  case atStart => exact ⟨0, Nat.zero_le _, rfl, b1, b0, g0⟩
  case round =>
    obtain ⟨k, hk, rfl, c1, c0, hgw⟩ := hrel
    clear b0 b1 g0
    by_cases hlt : k < 16
    · have hki : (k : Int) < 16 := by omega
      have hk64 : (k : Int) < 64 := by omega
      have hF : schF s (schN s k) k = be s k := by unfold schF; rw [if_pos hlt]
      have HSET : Hid ((schC s k).set k (u32v (be s k)) = schC s (k + 1)) := by show _ = _; rw [← hF]; exact schC_set s k (by omega)
      clear hF
      have hl := schC_len s k (by omega)
      have f1 := c1.frozen k
      have cc := c1.cell k (by omega)
      have y0 := byW_nat s (4 * k) (by have := HS.out; omega)
      have y1 := byW_nat s (4 * k + 1) (by have := HS.out; omega)
      have y2 := byW_nat s (4 * k + 2) (by have := HS.out; omega)
      have y3 := byW_nat s (4 * k + 3) (by have := HS.out; omega)
      have q0 : (4 * (k : Int)).toNat = 4 * k := by omega
      have q1 : (4 * (k : Int) + 1).toNat = 4 * k + 1 := by omega
      have q2 : (4 * (k : Int) + 2).toNat = 4 * k + 2 := by omega
      have q3 : (4 * (k : Int) + 3).toNat = 4 * k + 3 := by omega
      have i0 : (0 : Int) ≤ 4 * (k : Int) := by omega
      have i1 : (0 : Int) ≤ 4 * (k : Int) + 1 := by omega
      have i2 : (0 : Int) ≤ 4 * (k : Int) + 2 := by omega
      have i3 : (0 : Int) ≤ 4 * (k : Int) + 3 := by omega
      have j0 : 4 * (k : Int) < s.size := by omega
      have j1 : 4 * (k : Int) + 1 < s.size := by omega
      have j2 : 4 * (k : Int) + 2 < s.size := by omega
      have j3 : 4 * (k : Int) + 3 < s.size := by omega
      have w0 : IntKind.i64.wrap (4 * (k : Int)) = 4 * (k : Int) := wrapI (by omega) (by omega)
      have w1 : IntKind.i64.wrap (4 * (k : Int) + 1) = 4 * (k : Int) + 1 := wrapI (by omega) (by omega)
      have w2 : IntKind.i64.wrap (4 * (k : Int) + 2) = 4 * (k : Int) + 2 := wrapI (by omega) (by omega)
      have w3 : IntKind.i64.wrap (4 * (k : Int) + 3) = 4 * (k : Int) + 3 := wrapI (by omega) (by omega)
      go_wp2
      refine wp_region_tail _ (fun W => wr.grownBy W none) (fun W W' => W.grownBy W' none) rfl (by kernel_rfl) (by kernel_rfl) (by kernel_rfl) (fun W => grow_refl W none) (grow_drawn (grow_refl _ _)) ?_
      repeat (refine wpRel_det ?_; apply Exists.intro; refine ⟨fun W hI => ?_, ?_⟩; focus (go_simp; first | exact ⟨rfl, grow_refl _ _⟩))
      refine wpRel_nil ?_
      intro w' hI
      have c2 := c1.keep hI
      have d1 := c2.frozen k
      have d2 := c2.cell k (by omega)
      go_simp
      have c3 := c2.set_ k (u32v (be s k))
      rw [HSET.out] at c3
      go_wp2
      go_roundw
      case rel => exact ⟨k + 1, by omega, by go_num, c3, (c0.keep hI).far (Ne.symm hgr) _, grow_setnew (grow_none hgw hI) hg1 _⟩
      case measure => simp [intOf]; omega
    · have hki : (16 : Int) ≤ (k : Int) := by omega
      have c1' : Blk wr g 65 (schC s 16) := by
        have e : k = 16 := by omega
        rw [e] at c1; exact c1
      go_wp2
      go_loopw [5] (fun i wr => ∃ k : Nat, 16 ≤ k ∧ k ≤ 64 ∧ i = .int .i64 k ∧ Blk wr g 65 (schC s k) ∧ Blk wr r 65 z64 ∧ w.grownBy wr none) (fun i _ => 64 - (intOf i).toNat)
      case atStart => exact ⟨16, Nat.le_refl _, by omega, rfl, c1', c0, hgw⟩
      case round =>
        clear c1 c1' c0 hgw hk hlt hki
        rename_i kk _
        obtain ⟨k, hk1, hk2, rfl, c1, c0, hgw⟩ := hrel
        by_cases hlt : k < 64
        · have hki : (k : Int) < 64 := by omega
          have hki1 : (16 : Int) ≤ (k : Int) := by omega
          have hl := schC_len s k (by omega)
          obtain ⟨x16, hx16⟩ : ∃ x, x = (schN s k).getD (k - 16) 0 := ⟨_, rfl⟩
          obtain ⟨x15, hx15⟩ : ∃ x, x = (schN s k).getD (k - 15) 0 := ⟨_, rfl⟩
          obtain ⟨x7, hx7⟩ : ∃ x, x = (schN s k).getD (k - 7) 0 := ⟨_, rfl⟩
          obtain ⟨x2, hx2⟩ : ∃ x, x = (schN s k).getD (k - 2) 0 := ⟨_, rfl⟩
          have HSET : Hid ((schC s k).set k (u32v (((x16 + sg0 x15) + x7) + sg1 x2)) = schC s (k + 1)) := by
            show _ = _
            rw [← schC_set s k hlt, hx16, hx15, hx7, hx2]
            unfold schF
            rw [if_neg (by omega)]
          have a16 := c1.cell (k - 16) (by omega)
          have a15 := c1.cell (k - 15) (by omega)
          have a7 := c1.cell (k - 7) (by omega)
          have a2 := c1.cell (k - 2) (by omega)
          rw [schC_get s k _ (by omega), ← hx16] at a16
          rw [schC_get s k _ (by omega), ← hx15] at a15
          rw [schC_get s k _ (by omega), ← hx7] at a7
          rw [schC_get s k _ (by omega), ← hx2] at a2
          unfold u32v at a16 a15 a7 a2
          have q16 : ((k : Int) - 16).toNat = k - 16 := by omega
          have q15 : ((k : Int) - 15).toNat = k - 15 := by omega
          have q7 : ((k : Int) - 7).toNat = k - 7 := by omega
          have q2 : ((k : Int) - 2).toNat = k - 2 := by omega
          have i16 : (0 : Int) ≤ (k : Int) - 16 := by omega
          have i15 : (0 : Int) ≤ (k : Int) - 15 := by omega
          have i7 : (0 : Int) ≤ (k : Int) - 7 := by omega
          have i2 : (0 : Int) ≤ (k : Int) - 2 := by omega
          have j16 : (k : Int) - 16 < 64 := by omega
          have j15 : (k : Int) - 15 < 64 := by omega
          have j7 : (k : Int) - 7 < 64 := by omega
          have j2 : (k : Int) - 2 < 64 := by omega
          have m16 : (15 : Int) ≤ (k : Int) := by omega
          have m7 : (7 : Int) ≤ (k : Int) := by omega
          have m2 : (2 : Int) ≤ (k : Int) := by omega
          have v16 : IntKind.i64.wrap ((k : Int) - 16) = (k : Int) - 16 := wrapI (by omega) (by omega)
          have v15 : IntKind.i64.wrap ((k : Int) - 15) = (k : Int) - 15 := wrapI (by omega) (by omega)
          have v7 : IntKind.i64.wrap ((k : Int) - 7) = (k : Int) - 7 := wrapI (by omega) (by omega)
          have v2 : IntKind.i64.wrap ((k : Int) - 2) = (k : Int) - 2 := wrapI (by omega) (by omega)
          have hc16 : ∀ W, wr.grownBy W none → W.cell? ⟨g, k - 16, none⟩ = some (.int .u32 (un x16)) := fun W hW => hW.cell a16 (by simp)
          have hc7 : ∀ W, wr.grownBy W none → W.cell? ⟨g, k - 7, none⟩ = some (.int .u32 (un x7)) := fun W hW => hW.cell a7 (by simp)
          have HC16 := Lib.hid hc16
          have HC7 := Lib.hid hc7
          clear hx16 hx15 hx7 hx2 hc16 hc7
          go_wp2
          go_quiet (fail)
          go_wp2_with fail
          refine (rot_7 x15 _).mono ?_
          rintro e w' ⟨rfl, rfl⟩
          go_wp2_with fail
          refine (rot_18 x15 _).mono ?_
          rintro e w' ⟨rfl, rfl⟩
          go_wp2_with fail
          refine (rot_17 x2 _).mono ?_
          rintro e w' ⟨rfl, rfl⟩
          go_wp2_with fail
          refine (rot_19 x2 _).mono ?_
          rintro e w' ⟨rfl, rfl⟩
          go_wp2
          have gq : wr.grownBy (wr.drewN nq) none := grow_drawnN _ (grow_refl _ _)
          refine wp_region_tail _ (fun W => wr.grownBy W none) (fun W W' => W.grownBy W' none) rfl (by kernel_rfl) (by kernel_rfl) (by kernel_rfl) (fun W => grow_refl W none) (grow_drawn gq) ?_
          repeat (refine wpRel_det ?_; apply Exists.intro; refine ⟨fun W hI => ?_, ?_⟩; focus (have hw1 := HC16.out W hI; have hw2 := HC7.out W hI; go_simp; first | exact ⟨rfl, grow_refl _ _⟩))
          refine wpRel_nil ?_
          intro w' hI
          have c2 := c1.keep hI
          have d1 := c2.frozen k
          have d2 := c2.cell k (by omega)
          go_simp
          have c3 := c2.set_ k (u32v (((x16 + sg0 x15) + x7) + sg1 x2))
          rw [HSET.out] at c3
          go_wp2
          go_roundw
          case rel => exact ⟨k + 1, by omega, by omega, by go_num, c3, (c0.keep hI).far (Ne.symm hgr) _, grow_setnew (grow_none hgw hI) hg1 _⟩
          case measure => simp [intOf]; omega
        · have hki : (64 : Int) ≤ (k : Int) := by omega
          have c2 : Blk wr g 65 ((schN s 64).map u32v) := by
            have e : k = 64 := by omega
            rw [e, schC_all] at c1; exact c1
          have hsz : ((schN s 64).map u32v).length = 64 := by rw [List.length_map, schN_len]
          obtain ⟨L, hL⟩ : ∃ L, L = (schN s 64).map u32v := ⟨_, rfl⟩
          rw [← hL] at c2 hsz
          have hone : L.toArray.all (·.oneCell') = true := by
            rw [Array.all_eq_true_iff_forall_mem]
            intro v hv
            rw [List.mem_toArray, hL, List.mem_map] at hv
            obtain ⟨x, _, rfl⟩ := hv
            rfl
          have hin : (Tryd.prog.info? 65).map (·.size) = some L.toArray.size := by
            rw [List.size_toArray, hsz]; kernel_rfl
          have hz6 : z64.toArray.size = L.toArray.size := by rw [List.size_toArray, List.size_toArray, hsz]; rfl
          have HIN := Lib.hid hin
          have HZ := Lib.hid hz6
          have HONE := Lib.hid hone
          have HL := Lib.hid hL
          clear hL c1 hin hz6 hsz hone
          go_wp2_with (first | (refine wpList_load_row rfl 65 (.tmp 3) (by with_reducible rfl) g rfl 65 L.toArray (0, 0) _ c2 Tryd.underlying65 rfl HIN.out ?_) | (refine wpList_store_row rfl 65 (.tmp 2) (.tmp 88) (by with_reducible rfl) r L.toArray rfl rfl 65 z64.toArray c0 HIN.out HZ.out HONE.out ?_))
          go_wp2
          refine bodyPost_ret (v := .agg L.toArray) (results_cell_row (fn := Tryd.f61) rfl _ _ r 65 L.toArray (0, 0) _ rfl (setRow_heap wr r z64.toArray L.toArray 65 (0, 0) c0) Tryd.underlying65 rfl HIN.out) rfl ?_
          exact ⟨by rw [HL.out], grow_setrow hgw hr1 _⟩
end Go.Proofs.YtgcdfoadegojcaaDoor
