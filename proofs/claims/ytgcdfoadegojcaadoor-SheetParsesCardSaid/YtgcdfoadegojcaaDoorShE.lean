/- Stage 3: the state's 32 bytes. -/
import Derived.Test.YtgcdfoadegojcaaDoorShD
namespace Go.Proofs.YtgcdfoadegojcaaDoor
open Go.RowKit
set_option linter.unusedVariables false
def lowB (y : BitVec 32) : UInt8 := UInt8.ofNat y.toNat
def lowI (y : BitVec 32) : Int := ((lowB y).toNat : Int)
@[go_sem] theorem un_low (y : BitVec 32) : IntKind.u8.wrap (un y) = lowI y := by
  unfold lowI lowB un
  rw [IntKind.wrap_u8, UInt8.toNat_ofNat']
  omega
theorem c8_low (y : BitVec 32) : Value.int .u8 (lowI y) = c8 (lowB y) := rfl
def wB (x : BitVec 32) : List UInt8 := [lowB (x >>> 24), lowB (x >>> 16), lowB (x >>> 8), lowB x]
def digB (h : List (BitVec 32)) : List UInt8 := h.flatMap wB
theorem digB_len : ∀ h : List (BitVec 32), (digB h).length = 4 * h.length
  | [] => rfl
  | x :: h => by
    have e : digB (x :: h) = wB x ++ digB h := by unfold digB; simp only [List.flatMap_cons]
    rw [e, List.length_append, digB_len h, List.length_cons]
    show 4 + _ = _
    omega
/-- The bytes when the first k words are there. -/
def digC (h : List (BitVec 32)) (k : Nat) : List UInt8 := digB (h.take k) ++ List.replicate (32 - 4 * k) 0
theorem digC_len {h : List (BitVec 32)} (h8 : h.length = 8) (k : Nat) (hk : k ≤ 8) : (digC h k).length = 32 := by
  unfold digC
  rw [List.length_append, digB_len, List.length_take, List.length_replicate]; omega
theorem digC_set {h : List (BitVec 32)} (h8 : h.length = 8) (k : Nat) (hk : k < 8) (x : BitVec 32) (hx : x = h.getD k 0) :
    ((((digC h k).set (4 * k) (lowB (x >>> 24))).set (4 * k + 1) (lowB (x >>> 16))).set (4 * k + 2) (lowB (x >>> 8))).set (4 * k + 3) (lowB x) = digC h (k + 1) := by
  unfold digC
  have hl : (digB (h.take k)).length = 4 * k := by rw [digB_len, List.length_take]; omega
  have hlt : k < h.length := by omega
  have e : digB (h.take (k + 1)) = digB (h.take k) ++ wB x := by
    unfold digB
    rw [List.take_succ_eq_append_getElem hlt, List.flatMap_append, hx, List.getD, List.getElem?_eq_getElem hlt]
    simp only [List.flatMap_cons, List.flatMap_nil, List.append_nil, Option.getD_some]
  rw [e, List.set_append_right _ _ (by omega), List.set_append_right _ _ (by omega), List.set_append_right _ _ (by omega), List.set_append_right _ _ (by omega), hl,
    Nat.sub_self, Nat.add_sub_cancel_left, Nat.add_sub_cancel_left, Nat.add_sub_cancel_left, List.append_assoc]
  congr 1
  rw [show 32 - 4 * k = (32 - 4 * (k + 1)) + 4 by omega]
  rfl
theorem digC_all {h : List (BitVec 32)} (h8 : h.length = 8) : digC h 8 = digB h := by
  unfold digC
  rw [List.take_of_length_le (by omega)]
  simp
theorem blk_str {P : Program} {w : World} {g : Nat} {T t : TypeId} {l : List UInt8} (h : Blk w g T (l.map c8)) (src dst : TypeId) (cap : Nat) (hs : P.underlying src = some (.slice t)) (he : P.underlying t = some (.int .u8)) (hd : P.underlying dst = some .string) (n : Nat) (hn : l.length = n) :
    (convert src dst (.slice (some ⟨g, 0, none⟩) n cap)).run P w = .ok (.string ⟨l.toArray⟩) w := by
  subst hn
  refine run_convert_bytes_back w src dst t ⟨g, 0, none⟩ cap l hs he hd fun j hj => ?_
  have e : (⟨g, 0, none⟩ : Addr).add j = ⟨g, j, none⟩ := by unfold Addr.add; split <;> simp_all
  rw [e, h.cell j (by rw [List.length_map]; exact hj), getD_c8 l j hj]
  rw [List.getD, List.getElem?_eq_getElem hj]; rfl
def z32 : List UInt8 := List.replicate 32 0
theorem alloc32 (w : World) : w.alloc (.cells (z32.map c8).toArray 92) = w.alloc (.cells #[.int .u8 0, .int .u8 0, .int .u8 0, .int .u8 0, .int .u8 0, .int .u8 0, .int .u8 0, .int .u8 0, .int .u8 0, .int .u8 0, .int .u8 0, .int .u8 0, .int .u8 0, .int .u8 0, .int .u8 0, .int .u8 0, .int .u8 0, .int .u8 0, .int .u8 0, .int .u8 0, .int .u8 0, .int .u8 0, .int .u8 0, .int .u8 0, .int .u8 0, .int .u8 0, .int .u8 0, .int .u8 0, .int .u8 0, .int .u8 0, .int .u8 0, .int .u8 0] 92) := rfl
set_option maxRecDepth 100000 in
set_option maxHeartbeats 2000000 in
theorem digest_any (b : Nat) (h : List (BitVec 32)) (w : World) (h8 : h.length = 8) (hb : Blk w b 58 (h.map u32v)) :
    Calls Tryd.prog 34 #[.pointer (some ⟨b, 0, none⟩)] w fun e w' => e = .returned (.string ⟨(digB h).toArray⟩) ∧ w.grownBy w' none := by
  have hbl := hb.lt
  obtain ⟨L, hL⟩ : ∃ L, L = h.map u32v := ⟨_, rfl⟩
  have hsz : L.length = 8 := by rw [hL, List.length_map, h8]
  have hin : (Tryd.prog.info? 58).map (·.size) = some L.toArray.size := by
    rw [List.size_toArray, hsz]; kernel_rfl
  have hidx := fun k hk W => idx8 h h8 k hk W
  rw [← hL] at hidx
  have bA := hb.keep (World.grownBy_alloc w (.cells (z32.map c8).toArray 92) none)
  rw [← hL] at bA
  have BA0 := Lib.hid bA
  have bN := Blk.new w 92 (z32.map c8)
  have gA := World.grownBy_alloc w (.cells (z32.map c8).toArray 92) none
  obtain ⟨w1, hw1⟩ : ∃ w1, w.alloc (.cells (z32.map c8).toArray 92) = w1 := ⟨_, rfl⟩
  rw [hw1] at bA bN gA
  obtain ⟨g, hg⟩ : ∃ g, w.heap.size = g := ⟨_, rfl⟩
  rw [hg] at bN
  have hg0 : w.heap.size ≤ g := by omega
  have HIDX := Lib.hid hidx
  have HIN := Lib.hid hin
  have HL := Lib.hid hL
  have H8 := Lib.hid h8
  have HW := Lib.hid hw1
  have HG := Lib.hid hg
  clear hidx hin hL hsz h8 hw1 hg
  go_enter Tryd.func34, Tryd.ntmps34
  go_wp2_with (refine wpList_load_row rfl 58 (.tmp 7) (by with_reducible rfl) b rfl 58 L.toArray (0, 0) _ BA0.out Tryd.underlying58 rfl HIN.out ?_)
  refine wp_at (w' := w1) HW.out ?_
  rw [HG.out]
  go_loopw [9] (fun i wr => ∃ k : Nat, k ≤ 8 ∧ i = .int .i64 k ∧ Blk wr g 92 ((digC h k).map c8) ∧ w.grownBy wr none) (fun i _ => 8 - (intOf i).toNat)
  case atStart => exact ⟨0, Nat.zero_le _, rfl, bN, gA⟩
  case round =>
    clear bA bN gA BA0
    obtain ⟨k, hk, rfl, c1, hgw⟩ := hrel
    by_cases hlt : k < 8
    · have hki : (k : Int) < 8 := by omega
      have ix := fun W => HIDX.out k hlt W
      have hl := digC_len H8.out k (by omega)
      obtain ⟨x, hx⟩ : ∃ x, x = h.getD k 0 := ⟨_, rfl⟩
      rw [← hx] at ix
      have HSET := Lib.hid (digC_set H8.out k hlt x hx)
      have set1 : ∀ (W : World) (l : List UInt8) (i : Nat) (y : BitVec 32), Blk W g 92 (l.map c8) → Blk (W.setCell ⟨g, i, none⟩ (.int .u8 (lowI y))) g 92 ((l.set i (lowB y)).map c8) := by
        intro W l i y hB
        have := hB.set_ i (.int .u8 (lowI y))
        rw [set_c8 l i (lowB y) (lowI y) rfl] at this
        exact this
      have e1 := set1 _ _ (4 * k) (x >>> 24) c1
      have e2 := set1 _ _ (4 * k + 1) (x >>> 16) e1
      have e3 := set1 _ _ (4 * k + 2) (x >>> 8) e2
      have e4 := set1 _ _ (4 * k + 3) x e3
      rw [HSET.out] at e4
      have f0 := c1.frozen (4 * k)
      have f1 := e1.frozen (4 * k + 1)
      have f2 := e2.frozen (4 * k + 2)
      have f3 := e3.frozen (4 * k + 3)
      have k0 := c1.cell (4 * k) (by rw [List.length_map, hl]; omega)
      have k1 := e1.cell (4 * k + 1) (by rw [List.length_map, List.length_set, hl]; omega)
      have k2 := e2.cell (4 * k + 2) (by rw [List.length_map, List.length_set, List.length_set, hl]; omega)
      have k3 := e3.cell (4 * k + 3) (by rw [List.length_map, List.length_set, List.length_set, List.length_set, hl]; omega)
      have q0 : (4 * (k : Int)).toNat = 4 * k := by omega
      have q1 : (4 * (k : Int) + 1).toNat = 4 * k + 1 := by omega
      have q2 : (4 * (k : Int) + 2).toNat = 4 * k + 2 := by omega
      have q3 : (4 * (k : Int) + 3).toNat = 4 * k + 3 := by omega
      have i0 : (0 : Int) ≤ 4 * (k : Int) := by omega
      have i1 : (0 : Int) ≤ 4 * (k : Int) + 1 := by omega
      have i2 : (0 : Int) ≤ 4 * (k : Int) + 2 := by omega
      have i3 : (0 : Int) ≤ 4 * (k : Int) + 3 := by omega
      have j0 : 4 * (k : Int) < 32 := by omega
      have j1 : 4 * (k : Int) + 1 < 32 := by omega
      have j2 : 4 * (k : Int) + 2 < 32 := by omega
      have j3 : 4 * (k : Int) + 3 < 32 := by omega
      have E4 := Lib.hid e4
      clear hx set1 e1 e2 e3 e4 hl
      go_wp2
      go_roundw
      case rel => exact ⟨k + 1, by omega, by go_num, E4.out, grow_setnew (a := ⟨g, 4 * k + 3, none⟩) (grow_setnew (a := ⟨g, 4 * k + 2, none⟩) (grow_setnew (a := ⟨g, 4 * k + 1, none⟩) (grow_setnew (a := ⟨g, 4 * k, none⟩) hgw hg0 _) hg0 _) hg0 _) hg0 _⟩
      case measure => simp [intOf]; omega
    · have hki : (8 : Int) ≤ (k : Int) := by omega
      have c2 : Blk wr g 92 ((digB h).map c8) := by
        have e : k = 8 := by omega
        rw [e, digC_all H8.out] at c1; exact c1
      have hcv := blk_str c2 52 9 32 Tryd.underlying52 Tryd.underlying5 Tryd.underlying9 32 (by rw [digB_len, H8.out])
      clear c1
      go_wp2
      go_ret
      exact ⟨rfl, hgw⟩
end Go.Proofs.YtgcdfoadegojcaaDoor
