/- Stage 3: Sum. -/
import Derived.Test.YtgcdfoadegojcaaDoorShF
import Derived.Test.YtgcdfoadegojcaaDoorShelf
namespace Go.Proofs.YtgcdfoadegojcaaDoor
open Go.RowKit
set_option linter.unusedVariables false
def allB (l : List ByteArray) : List UInt8 := l.flatMap fun s => s.data.toList
theorem join_nil : ∀ xs : List (List UInt8), Lib.join xs [] = xs.flatten
  | [] => rfl
  | [x] => by simp [Lib.join]
  | x :: y :: xs => by
    have := join_nil (y :: xs)
    simp [Lib.join] at this ⊢
    exact this
theorem join_all (l : List ByteArray) : Lib.join (l.map (·.data.toList)) (ByteArray.data ⟨#[]⟩).toList = allB l := by
  rw [show (ByteArray.data ⟨#[]⟩).toList = ([] : List UInt8) from rfl, join_nil]
  unfold allB
  rw [List.flatMap_def]
theorem row_string {w : World} {a : Option Addr} {c n : Nat} {l : List ByteArray} {k : Nat} (h : RowAt w (.slice a n c) (l.map Value.string)) (hn : l.length = n) (hk : k < n) :
    ∃ bb off, a = some ⟨bb, off, none⟩ ∧ w.cell? ⟨bb, off + k, none⟩ = some (.string (l.getD k ⟨#[]⟩)) ∧ bb < w.heap.size := by
  subst hn
  obtain ⟨a', c', e, h⟩ := h
  injection e with e1 e2 e3
  subst e1
  rcases h with h | ⟨b, off, rfl, hb, hc⟩
  · have : l = [] := by simpa using h
    subst this; simp at hk
  · exact ⟨b, off, rfl, by rw [hc k (by simpa using hk)]; simp [List.getD, List.getElem?_eq_getElem hk], hb⟩
theorem row_form {w : World} {v : Value} {l : List ByteArray} (h : RowAt w v (l.map Value.string)) : ∃ p c, v = .slice p l.length c := by
  obtain ⟨p, c, e⟩ := h.len
  exact ⟨p, c, by rw [e, List.length_map]⟩
def CapOk (v : Value) : Prop := ∀ p n c, v = .slice p n c → n ≤ c
theorem capok_lit (p : Option Addr) (n : Nat) : CapOk (.slice p n n) := by
  intro p n c e; injection e with _ e2 e3; omega
theorem Join_any (v : Value) (l : List ByteArray) (w : World) (hr : RowAt w v (l.map Value.string)) (hc : CapOk v) (hl : l.length ≤ 1000000) (hb : (allB l).length ≤ 100000000) :
    Calls Tryd.prog 31 #[v, .string ⟨#[]⟩] w fun e w' => e = .returned (.string ⟨(allB l).toArray⟩) ∧ w.grownBy w' none := by
  obtain ⟨p, c, rfl⟩ := row_form hr
  have hcap := hc _ _ _ rfl
  cases hll : l with
  | nil =>
    refine (Tryd.strings_Join_none p c ⟨#[]⟩ w).mono ?_
    rintro e w' ⟨rfl, rfl⟩
    exact ⟨rfl, grow_refl _ _⟩
  | cons x xs =>
    rw [← hll]
    have hpos : 0 < l.length := by rw [hll]; simp
    obtain ⟨bb, off, rfl, _, hbb⟩ := row_string hr rfl hpos
    refine (Tryd.strings_Join bb off c l ⟨#[]⟩ w (fun j x hj => ?_) hbb (by omega) hcap (by rw [join_all]; omega)).mono ?_
    · have hjl : j < l.length := (List.getElem?_eq_some_iff.1 hj).1
      obtain ⟨b2, o2, e2, hc2, _⟩ := row_string hr rfl hjl
      injection e2 with e2
      injection e2 with e3 e4
      subst e3 e4
      rw [hc2, List.getD, hj]; rfl
    · rintro e w' ⟨rfl, hbel⟩
      exact ⟨by rw [join_all], none_of_below hbel⟩
def firstL : List Nat := [0x6a09e667, 0xbb67ae85, 0x3c6ef372, 0xa54ff53a, 0x510e527f, 0x9b05688c, 0x1f83d9ab, 0x5be0cd19]
def h0 : List (BitVec 32) := firstL.map (BitVec.ofNat 32)
/-- The table of the first eight words lies there. -/
def Fi (w : World) : Prop := ∀ j, j < 8 → w.cell? ⟨0, j, none⟩ = some (.int .u32 (un (h0.getD j 0)))
theorem Fi.kept {w w' : World} {q : Option Nat} (h : Fi w) (g : w.grownBy w' q) (hq : q ≠ some 0) : Fi w' := fun j hj => by
  have hc := h j hj
  rw [World.cell?_of_block (g.block _ (World.block_lt_of_cell? _ _ hc) (Ne.symm hq))]
  exact hc
/-- The state behind the first n blocks. -/
def stN (s : ByteArray) (h : List (BitVec 32)) : Nat → List (BitVec 32)
  | 0 => h
  | n + 1 => takeW (s.extract (64 * n) (64 * n + 64)) (stN s h n)
theorem stN_len (s : ByteArray) {h : List (BitVec 32)} (h8 : h.length = 8) : ∀ n, (stN s h n).length = 8
  | 0 => h8
  | n + 1 => takeW_len _ (stN_len s h8 n)
def lastS (s : ByteArray) : ByteArray := endS (s.extract (64 * (s.size / 64)) s.size) s.size
/-- The digest of bytes. -/
def shaS (s : ByteArray) : List UInt8 := digB (stN (lastS s) (stN s h0 (s.size / 64)) ((lastS s).size / 64))
theorem endS_size (left : ByteArray) (n : Nat) (hl : left.size < 64) : (endS left n).size = endLen left := by
  have h1 : endLen left ≤ 128 := by unfold endLen; split <;> omega
  unfold endS
  show (List.take _ _).toArray.size = _
  rw [List.size_toArray, List.length_take, endC_len left n hl 8]; omega
set_option maxRecDepth 100000 in
set_option maxHeartbeats 4000000 in
theorem Sum_any (v : Value) (l : List ByteArray) (w : World) (hr : RowAt w v (l.map Value.string)) (hc : CapOk v) (hl : l.length ≤ 1000000) (hb : (allB l).length ≤ 100000000) (hck : Ck w) (hfi : Fi w) :
    Calls Tryd.prog 12 #[v] w fun e w' => e = .returned (.string ⟨(shaS ⟨(allB l).toArray⟩).toArray⟩) ∧ w.grownBy w' none := by
  have HJ := Lib.hid (Join_any v l w hr hc hl hb)
  obtain ⟨p, c, rfl⟩ := row_form hr
  obtain ⟨s, hs⟩ : ∃ s : ByteArray, s = ⟨(allB l).toArray⟩ := ⟨_, rfl⟩
  have hss : s.size ≤ 100000000 := by rw [hs]; show (allB l).toArray.size ≤ _; rw [List.size_toArray]; exact hb
  have HS := Lib.hid hs
  have HCK := Lib.hid hck
  have HFI := Lib.hid hfi
  clear hr hc hl hb hs hck hfi
  go_enter Tryd.func12, Tryd.ntmps12
  go_wp2_with fail
  refine HJ.out.mono ?_
  rintro e w1 ⟨rfl, g1⟩
  rw [← HS.out]
  have fi1 := HFI.out.kept g1 (by simp)
  have c0 := fi1 0 (by omega)
  have c1 := fi1 1 (by omega)
  have c2 := fi1 2 (by omega)
  have c3 := fi1 3 (by omega)
  have c4 := fi1 4 (by omega)
  have c5 := fi1 5 (by omega)
  have c6 := fi1 6 (by omega)
  have c7 := fi1 7 (by omega)
  have HF1 := Lib.hid fi1
  clear fi1
  obtain ⟨m, hm⟩ : ∃ m : Nat, m = s.size % 64 := ⟨_, rfl⟩
  obtain ⟨q, hq⟩ : ∃ q : Nat, q = s.size / 64 := ⟨_, rfl⟩
  obtain ⟨W, hW⟩ : ∃ W : Nat, W = 64 * q := ⟨_, rfl⟩
  have hm2 : (s.size : Int) - (s.size : Int) % 64 = (W : Int) := by omega
  have hm3 : m < 64 := by omega
  have hm4 : W + m = s.size := by omega
  have hWi : (W : Int) ≤ s.size := by omega
  have hsi : (s.size : Int) ≤ 100000000 := by omega
  have hmi : (m : Int) ≤ s.size := by omega
  have HM := Lib.hid hm4
  have HQ := Lib.hid hq
  have HWQ := Lib.hid hW
  obtain ⟨g, hg⟩ : ∃ g, w1.heap.size = g := ⟨_, rfl⟩
  have hg0 : w.heap.size ≤ g := by rw [← hg]; exact g1.size
  have b0 : Blk (w1.alloc (.cells (h0.map u32v).toArray 58)) g 58 (h0.map u32v) := by rw [← hg]; exact Blk.new _ _ _
  have G0 : w.grownBy (w1.alloc (.cells (h0.map u32v).toArray 58)) none := grow_none g1 (World.grownBy_alloc _ _ _)
  obtain ⟨w2, hw2⟩ : ∃ w2, w1.alloc (.cells (h0.map u32v).toArray 58) = w2 := ⟨_, rfl⟩
  have hfl := World.block_lt_of_cell? _ _ (HFI.out 0 (by omega))
  have hcl := World.block_lt_of_cell? _ _ (HCK.out 0 (by omega))
  have hgc : g ≠ 1 := by simp only at hcl; omega
  rw [hw2] at b0 G0
  have HG := Lib.hid hg
  have HW2 := Lib.hid hw2
  have HGC := Lib.hid hgc
  clear hm hq hW hm4 hg hw2 hgc hfl hcl
  go_wp2
  refine wp_at (w' := w1.alloc (.cells (h0.map u32v).toArray 58)) rfl ?_
  rw [HW2.out, HG.out]
  clear c0 c1 c2 c3 c4 c5 c6 c7 g1 HF1
  go_loopw [6] (fun i wr => ∃ (k A : Nat), A = 64 * k ∧ k ≤ q ∧ i = .int .i64 A ∧ Blk wr g 58 ((stN s h0 k).map u32v) ∧ w.grownBy wr none) (fun i _ => W - (intOf i).toNat)
  case atStart => exact ⟨0, 0, rfl, Nat.zero_le _, rfl, b0, G0⟩
  case round =>
    clear b0 G0
    obtain ⟨k, A, hA, hk, rfl, bk, hgw⟩ := hrel
    have ck := HCK.out.kept hgw (by simp)
    have hWq := HWQ.out
    by_cases hlt : k < q
    · have i1 : (A : Int) < W := by omega
      have i2 : (A : Int) + 64 ≤ s.size := by omega
      have i3 : ((A : Int) + 64).toNat = A + 64 := by omega
      have i4 : (0 : Int) ≤ (A : Int) + 64 := by omega
      have i5 : (A : Int) ≤ (A : Int) + 64 := by omega
      have i6 : (A : Int) ≤ 100000000 := by omega
      have hx : (s.extract A (A + 64)).size = 64 := by rw [ByteArray.size_extract]; omega
      obtain ⟨x, hxe⟩ : ∃ x, s.extract A (A + 64) = x := ⟨_, rfl⟩
      rw [hxe] at hx
      have HST : Hid (takeW x (stN s h0 k) = stN s h0 (k + 1)) := by show _ = _; rw [stN, ← hA, hxe]
      have HX := Lib.hid hx
      have HA := Lib.hid hA
      clear hx hA hWq
      go_wp2_with fail
      refine (take_any g (stN s h0 k) x _ HX.out (stN_len s rfl k) bk ck HGC.out).mono ?_
      rintro e w3 ⟨rfl, b3, g3⟩
      rw [HST.out] at b3
      go_wp2
      go_roundw
      case rel => exact ⟨k + 1, A + 64, by have := HA.out; omega, by omega, by go_num, b3, grow_new hgw hg0 g3⟩
      case measure => simp [intOf]; omega
    · have i1 : (W : Int) ≤ A := by omega
      have i2 : ((W : Int)).toNat = W := by omega
      have bq : Blk wr g 58 ((stN s h0 q).map u32v) := by
        have e : k = q := by omega
        rw [← e]; exact bk
      have hx : (s.extract W s.size).size = m := by rw [ByteArray.size_extract]; have := HM.out; omega
      obtain ⟨x, hxe⟩ : ∃ x, s.extract W s.size = x := ⟨_, rfl⟩
      rw [hxe] at hx
      have hx64 : x.size < 64 := by omega
      obtain ⟨y, hy⟩ : ∃ y, y = endS x s.size := ⟨_, rfl⟩
      have hys : y.size = 64 * (y.size / 64) ∧ y.size ≤ 128 := by
        have h1 := endS_size x s.size hx64
        rw [hy, h1]
        unfold endLen; split <;> omega
      obtain ⟨hys1, hys2⟩ := hys
      have hyi : (y.size : Int) ≤ 128 := by omega
      have HY := Lib.hid hy
      have HYS := Lib.hid hys1
      have HFIN : Hid (digB (stN y (stN s h0 q) (y.size / 64)) = shaS s) := by
        show _ = _
        unfold shaS lastS
        rw [← HQ.out, ← HWQ.out, hxe, ← hy]
      obtain ⟨H, hH⟩ : ∃ H, H = stN s h0 q := ⟨_, rfl⟩
      have hH8 : H.length = 8 := by rw [hH]; exact stN_len s rfl q
      rw [← hH] at bq HFIN
      have HH8 := Lib.hid hH8
      clear hx hA bk hWq hy hys1 hH hH8
      go_wp2_with fail
      refine (ending_any x s.size _ hx64 (by omega)).mono ?_
      rintro e w3 ⟨rfl, g3⟩
      rw [← HY.out]
      have bq3 := bq.keep g3
      have G3 := grow_none hgw g3
      clear bq ck hgw g3 hxe
      go_wp2
      go_loopw [8] (fun i wr => ∃ (k A : Nat), A = 64 * k ∧ k ≤ y.size / 64 ∧ i = .int .i64 A ∧ Blk wr g 58 ((stN y H k).map u32v) ∧ w.grownBy wr none) (fun i _ => y.size - (intOf i).toNat)
      case atStart => exact ⟨0, 0, rfl, Nat.zero_le _, rfl, bq3, G3⟩
      case round =>
        clear bq3 G3
        rename_i A0 _ _ _
        obtain ⟨k2, A2, hA2, hk2, rfl, bk2, hgw2⟩ := hrel
        have ck2 := HCK.out.kept hgw2 (by simp)
        have hys0 := HYS.out
        by_cases hlt2 : k2 < y.size / 64
        · have i1 : (A2 : Int) < y.size := by omega
          have i2 : (A2 : Int) + 64 ≤ y.size := by omega
          have i3 : ((A2 : Int) + 64).toNat = A2 + 64 := by omega
          have i4 : (0 : Int) ≤ (A2 : Int) + 64 := by omega
          have i5 : (A2 : Int) ≤ (A2 : Int) + 64 := by omega
          have i6 : (A2 : Int) ≤ 128 := by omega
          have hz : (y.extract A2 (A2 + 64)).size = 64 := by rw [ByteArray.size_extract]; omega
          obtain ⟨z, hze⟩ : ∃ z, y.extract A2 (A2 + 64) = z := ⟨_, rfl⟩
          rw [hze] at hz
          have HST : Hid (takeW z (stN y H k2) = stN y H (k2 + 1)) := by show _ = _; rw [stN, ← hA2, hze]
          have HZ := Lib.hid hz
          have HA := Lib.hid hA2
          clear hz hA2 hys0
          go_wp2_with fail
          refine (take_any g (stN y H k2) z _ HZ.out (stN_len y HH8.out k2) bk2 ck2 HGC.out).mono ?_
          rintro e w4 ⟨rfl, b4, g4⟩
          rw [HST.out] at b4
          go_wp2
          go_roundw
          case rel => exact ⟨k2 + 1, A2 + 64, by have := HA.out; omega, by omega, by go_num, b4, grow_new hgw2 hg0 g4⟩
          case measure => simp [intOf]; omega
        · have i1 : (y.size : Int) ≤ A2 := by omega
          have bF : Blk wr g 58 ((stN y H (y.size / 64)).map u32v) := by
            have e : k2 = y.size / 64 := by omega
            rw [← e]; exact bk2
          clear hA2 hys0 bk2
          go_wp2_with fail
          refine (digest_any g (stN y H (y.size / 64)) _ (stN_len y HH8.out _) bF).mono ?_
          rintro e w5 ⟨rfl, g5⟩
          rw [HFIN.out]
          go_wp2
          go_ret
          exact ⟨by rw [← HS.out]; rfl, grow_none hgw2 g5⟩
end Go.Proofs.YtgcdfoadegojcaaDoor
