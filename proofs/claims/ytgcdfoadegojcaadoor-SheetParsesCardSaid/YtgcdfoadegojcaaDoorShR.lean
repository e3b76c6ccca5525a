/- Stage 3: the document's less. -/
import Derived.Test.YtgcdfoadegojcaaDoorShP
import Derived.Test.YtgcdfoadegojcaaDoorShO
import Derived.Test.YtgcdfoadegojcaaDoorShB
namespace Go.Proofs.YtgcdfoadegojcaaDoor
open Go.RowKit
set_option linter.unusedVariables false
def u64v (n : Nat) : Value := .int .u64 (n : Int)
theorem and16 (x : Nat) (hx : x < 18446744073709551616) : bits .and .u64 (x : Int) 65535 = ((x % 65536 : Nat) : Int) := by
  have h := u64_and_nat x 65535 hx (by omega)
  rw [show ((65535 : Nat) : Int) = (65535 : Int) from rfl] at h
  rw [h]
  congr 1
  exact Nat.and_two_pow_sub_one_eq_mod x 16
theorem wrapU {z : Int} (h1 : 0 ≤ z) (h2 : z < 18446744073709551616) : IntKind.u64.wrap z = z := by rw [IntKind.wrap_u64]; omega
def oL (x : Nat) : List Nat := [oP x 0, oP x 1, oP x 2]
structure LsI (w wr : World) (x : Nat) (a : List Nat) (V c : Nat) : Prop where
  blk : Blk wr w.heap.size 100 (a.map u64v)
  one : Blk wr (w.heap.size + 1) 101 ((oL x).map u64v)
  len : a.length = 12
  val : dv a = V
  bd : ∀ q, a.getD q 0 ≤ 65535 * c
  gr : w.grownBy wr none
theorem u64_get (a : List Nat) (k : Nat) (hk : k < a.length) : (a.map u64v).getD k undef = .int .u64 ((a.getD k 0 : Nat) : Int) := by
  simp [List.getD, List.getElem?_eq_getElem hk, u64v]
theorem LsI.at_ {w wr : World} {x : Nat} {a : List Nat} {V c : Nat} (h : LsI w wr x a V c) (k : Nat) (hk : k < 12) : wr.cell? ⟨w.heap.size, k, none⟩ = some (.int .u64 ((a.getD k 0 : Nat) : Int)) := by
  rw [← u64_get a k (by rw [h.len]; exact hk)]
  exact h.blk.cell k (by rw [List.length_map, h.len]; exact hk)
theorem LsI.part {w wr : World} {x : Nat} {a : List Nat} {V c : Nat} (h : LsI w wr x a V c) (k : Nat) (hk : k < 3) : wr.cell? ⟨w.heap.size + 1, k, none⟩ = some (.int .u64 ((oP x k : Nat) : Int)) := by
  have h1 := h.one.cell k (by simp [oL]; exact hk)
  rw [h1]
  have : k = 0 ∨ k = 1 ∨ k = 2 := by omega
  rcases this with rfl | rfl | rfl <;> rfl
theorem LsI.keep {w wr w2 : World} {x : Nat} {a : List Nat} {V c : Nat} (h : LsI w wr x a V c) (g : wr.grownBy w2 none) : LsI w w2 x a V c :=
  { h with blk := h.blk.keep g, one := h.one.keep g, gr := grow_none h.gr g }
/-- The rounds that lay a product's digits. -/
structure LsY (w wr : World) (x : Nat) (a b : List Nat) (V c n0 Y m y : Nat) : Prop where
  blk : Blk wr w.heap.size 100 (b.map u64v)
  one : Blk wr (w.heap.size + 1) 101 ((oL x).map u64v)
  len : b.length = 12
  m3 : m ≤ 3
  val : dv b + y * 65536 ^ (n0 + m) = V + Y * 65536 ^ n0
  ylt : y < 65536 ^ (3 - m)
  hi : ∀ q, n0 + m ≤ q → b.getD q 0 = a.getD q 0
  bd : ∀ q, b.getD q 0 ≤ 65535 * (c + 1)
  gr : w.grownBy wr none
theorem getD_set (l : List Nat) (k q v : Nat) (hk : k < l.length) : (l.set k v).getD q 0 = if k = q then v else l.getD q 0 := by
  rw [List.getD, List.getElem?_set, List.getD]
  split
  · rename_i e
    subst e
    simp
  · rfl
theorem set_same (l : List Nat) (k : Nat) (h : k < l.length) : l.set k (l.getD k 0) = l := by
  rw [List.getD, List.getElem?_eq_getElem h]
  exact List.set_getElem_self h
theorem LsY.step {w wr : World} {x : Nat} {a b : List Nat} {V c n0 Y m y : Nat} (h : LsY w wr x a b V c n0 Y m y) (ha : ∀ q, a.getD q 0 ≤ 65535 * c) (hm : m < 3) (hn : n0 + m < 12) (s : Nat) (hs : s = b.getD (n0 + m) 0 + y % 65536) :
    LsY w (wr.setCell ⟨w.heap.size, n0 + m, none⟩ (.int .u64 (s : Int))) x a (b.set (n0 + m) s) V c n0 Y (m + 1) (y / 65536) := by
  subst hs
  have hl := h.len
  refine ⟨?_, h.one.far (p := ⟨w.heap.size, n0 + m, none⟩) (by show w.heap.size + 1 ≠ w.heap.size; omega) _, by rw [List.length_set]; exact hl, by omega, ?_, ?_, ?_, ?_, grow_setnew h.gr (a := ⟨w.heap.size, n0 + m, none⟩) (Nat.le_refl _) _⟩
  · have := h.blk.set_ (n0 + m) (.int .u64 ((b.getD (n0 + m) 0 + y % 65536 : Nat) : Int))
    rwa [show (b.map u64v).set (n0 + m) (.int .u64 ((b.getD (n0 + m) 0 + y % 65536 : Nat) : Int)) = (b.set (n0 + m) (b.getD (n0 + m) 0 + y % 65536)).map u64v by rw [List.map_set]; rfl] at this
  · rw [dv_set _ _ _ (by omega), ← h.val, show n0 + (m + 1) = (n0 + m) + 1 by omega, Nat.pow_succ]
    obtain ⟨P, hP⟩ : ∃ P, P = 65536 ^ (n0 + m) := ⟨_, rfl⟩
    rw [← hP]
    have e : y = 65536 * (y / 65536) + y % 65536 := by omega
    obtain ⟨q, hq⟩ : ∃ q, q = y / 65536 := ⟨_, rfl⟩
    obtain ⟨r, hr⟩ : ∃ r, r = y % 65536 := ⟨_, rfl⟩
    rw [← hq, ← hr] at e
    rw [← hq, ← hr, e, Nat.add_mul, Nat.mul_comm P 65536, ← Nat.mul_assoc, Nat.mul_comm q 65536]
    omega
  · have h1 := h.ylt
    rw [show 3 - m = (3 - (m + 1)) + 1 by omega, Nat.pow_succ] at h1
    exact Nat.div_lt_of_lt_mul (by rw [Nat.mul_comm]; exact h1)
  · intro q hq
    rw [getD_set _ _ _ _ (by omega), if_neg (by omega)]
    exact h.hi q (by omega)
  · intro q
    rw [getD_set _ _ _ _ (by omega)]
    split
    · rw [h.hi (n0 + m) (Nat.le_refl _)]
      have := ha (n0 + m)
      rw [Nat.mul_succ]
      omega
    · exact h.bd q
/-- The rounds that carry. -/
structure LsC (w wr : World) (x : Nat) (a : List Nat) (V n : Nat) : Prop where
  blk : Blk wr w.heap.size 100 (a.map u64v)
  len : a.length = 12
  val : dv a = V
  lo : ∀ q, q < n → a.getD q 0 < 65536
  bd : ∀ q, a.getD q 0 ≤ 1769472
  hi : ∀ q, n < q → a.getD q 0 ≤ 1769445
  gr : w.grownBy wr none
theorem LsC.at_ {w wr : World} {x : Nat} {a : List Nat} {V n : Nat} (h : LsC w wr x a V n) (k : Nat) (hk : k < 12) : wr.cell? ⟨w.heap.size, k, none⟩ = some (.int .u64 ((a.getD k 0 : Nat) : Int)) := by
  rw [← u64_get a k (by rw [h.len]; exact hk)]
  exact h.blk.cell k (by rw [List.length_map, h.len]; exact hk)
theorem map_set64 (a : List Nat) (k v : Nat) : (a.map u64v).set k (.int .u64 (v : Int)) = (a.set k v).map u64v := by rw [List.map_set]; rfl
theorem LsC.step {w wr : World} {x : Nat} {a : List Nat} {V n : Nat} (h : LsC w wr x a V n) (hn : n < 11) (s r : Nat) (hs : s = a.getD (n + 1) 0 + a.getD n 0 / 65536) (hr : r = a.getD n 0 % 65536) :
    Blk (wr.setCell ⟨w.heap.size, n + 1, none⟩ (.int .u64 (s : Int))).drew w.heap.size 100 ((a.set (n + 1) s).map u64v) ∧
    LsC w ((wr.setCell ⟨w.heap.size, n + 1, none⟩ (.int .u64 (s : Int))).drew.setCell ⟨w.heap.size, n, none⟩ (.int .u64 (r : Int))) x ((a.set (n + 1) s).set n r) V (n + 1) := by
  have hl := h.len
  have b1 : Blk (wr.setCell ⟨w.heap.size, n + 1, none⟩ (.int .u64 (s : Int))).drew w.heap.size 100 ((a.set (n + 1) s).map u64v) := by
    have := h.blk.set_ (n + 1) (.int .u64 (s : Int))
    rw [map_set64] at this
    exact this.drew
  have hg : ∀ q, ((a.set (n + 1) s).set n r).getD q 0 = if n = q then r else if n + 1 = q then s else a.getD q 0 := by
    intro q
    rw [getD_set _ _ _ _ (by rw [List.length_set]; omega), getD_set _ _ _ _ (by omega)]
  have hbn := h.bd n
  have hb1 := h.hi (n + 1) (by omega)
  refine ⟨b1, ?_, by rw [List.length_set, List.length_set]; exact hl, ?_, ?_, ?_, ?_, grow_setnew (grow_drawn (grow_setnew h.gr (a := ⟨w.heap.size, n + 1, none⟩) (Nat.le_refl _) _)) (a := ⟨w.heap.size, n, none⟩) (Nat.le_refl _) _⟩
  · have := b1.set_ n (.int .u64 (r : Int))
    rwa [map_set64] at this
  · have e1 : dv (a.set (n + 1) s) = dv a + a.getD n 0 / 65536 * 65536 ^ (n + 1) := by rw [hs]; exact dv_set _ _ _ (by omega)
    have e2 : a.set (n + 1) s = ((a.set (n + 1) s).set n r).set n (((a.set (n + 1) s).set n r).getD n 0 + 65536 * (a.getD n 0 / 65536)) := by
      rw [hg n, if_pos rfl, List.set_set]
      have : r + 65536 * (a.getD n 0 / 65536) = a.getD n 0 := by omega
      rw [this]
      have hx : (a.set (n + 1) s).getD n 0 = a.getD n 0 := by rw [getD_set _ _ _ _ (by omega), if_neg (by omega)]
      rw [← hx, set_same _ _ (by rw [List.length_set]; omega)]
    have e3 := dv_set (65536 * (a.getD n 0 / 65536)) ((a.set (n + 1) s).set n r) n (by rw [List.length_set, List.length_set]; omega)
    rw [← e2, e1, h.val] at e3
    have e4 : 65536 * (a.getD n 0 / 65536) * 65536 ^ n = a.getD n 0 / 65536 * 65536 ^ (n + 1) := by rw [Nat.pow_succ, Nat.mul_comm 65536, Nat.mul_assoc, Nat.mul_comm 65536]
    rw [e4] at e3
    omega
  · intro q hq
    rw [hg q]
    split
    · omega
    · rw [if_neg (by omega)]; exact h.lo q (by omega)
  · intro q
    rw [hg q]
    split
    · omega
    · split
      · omega
      · exact h.bd q
  · intro q hq
    rw [hg q, if_neg (by omega), if_neg (by omega)]
    exact h.hi q (by omega)
theorem dv_drop (a : List Nat) (n : Nat) (hn : n < a.length) : dv (a.drop n) = a.getD n 0 + 65536 * dv (a.drop (n + 1)) := by
  rw [List.drop_eq_getElem_cons hn, List.getD, List.getElem?_eq_getElem hn]; rfl
theorem dv_drop_lt {a : List Nat} {V : Nat} (hl : a.length = 12) (hv : dv a = V) (hV : V < 65536 ^ 9) (n : Nat) (h6 : 6 ≤ n) (hn : n ≤ 12) : dv (a.drop n) < 281474976710656 := by
  have hs := dv_split a n (by omega)
  have h1 : 65536 ^ 6 * dv (a.drop n) ≤ 65536 ^ n * dv (a.drop n) := Nat.mul_le_mul_right _ (Nat.pow_le_pow_right (by omega) h6)
  have e6 : (65536 ^ 6 : Nat) = 79228162514264337593543950336 := by decide
  have e9 : (65536 ^ 9 : Nat) = 79228162514264337593543950336 * 281474976710656 := by decide
  rw [e6] at h1
  rw [e9] at hV
  omega
theorem sum6 (a : List Nat) (hl : a.length = 12) : (a.take 6).sum = a.getD 0 0 + a.getD 1 0 + a.getD 2 0 + a.getD 3 0 + a.getD 4 0 + a.getD 5 0 := by
  match a, hl with
  | [x0, x1, x2, x3, x4, x5, _, _, _, _, _, _], _ =>
    show x0 + (x1 + (x2 + (x3 + (x4 + (x5 + 0))))) = x0 + x1 + x2 + x3 + x4 + x5
    omega
set_option maxRecDepth 100000 in
set_option maxHeartbeats 4000000 in
theorem less_any (x p : Nat) (w : World) (hx : x < 68719476736) (hp : p ≤ 1000) :
    Calls Tryd.prog 64 #[.int .u64 x, .int .u64 p] w fun e w' => e = .returned (.bool (lessB x p)) ∧ w.grownBy w' none := by
  have hxi : (x : Int) < 68719476736 := by omega
  have hpi : (p : Int) ≤ 1000 := by omega
  have HXX := Lib.hid hx
  have f0 : bits .and .u64 (x : Int) 65535 = ((oP x 0 : Nat) : Int) := and16 x (by omega)
  have f1 : (x : Int) / 65536 = ((x / 65536 : Nat) : Int) := by omega
  have f2 : bits .and .u64 ((x / 65536 : Nat) : Int) 65535 = ((oP x 1 : Nat) : Int) := and16 (x / 65536) (by omega)
  have f3 : (x : Int) / 4294967296 = ((oP x 2 : Nat) : Int) := by show _ = ((x / 4294967296 : Nat) : Int); omega
  obtain ⟨x1, hx1⟩ : ∃ x1, x1 = x / 65536 := ⟨_, rfl⟩
  rw [← hx1] at f1 f2
  have hS : LsI w ((w.alloc (.cells #[.int .u64 0, .int .u64 0, .int .u64 0, .int .u64 0, .int .u64 0, .int .u64 0, .int .u64 0, .int .u64 0, .int .u64 0, .int .u64 0, .int .u64 0, .int .u64 0] 100)).alloc (.cells #[.int .u64 ((oP x 0 : Nat) : Int), .int .u64 ((oP x 1 : Nat) : Int), .int .u64 ((oP x 2 : Nat) : Int)] 101)) x (List.replicate 12 0) 0 0 := by
    refine ⟨?_, ?_, rfl, by decide, ?_, grow_none (World.grownBy_alloc _ _ _) (World.grownBy_alloc _ _ _)⟩
    · exact (Blk.new w 100 ((List.replicate 12 0).map u64v)).alloc _
    · have := Blk.new (w.alloc (.cells #[.int .u64 0, .int .u64 0, .int .u64 0, .int .u64 0, .int .u64 0, .int .u64 0, .int .u64 0, .int .u64 0, .int .u64 0, .int .u64 0, .int .u64 0, .int .u64 0] 100)) 101 ((oL x).map u64v)
      rw [show (w.alloc (.cells #[.int .u64 0, .int .u64 0, .int .u64 0, .int .u64 0, .int .u64 0, .int .u64 0, .int .u64 0, .int .u64 0, .int .u64 0, .int .u64 0, .int .u64 0, .int .u64 0] 100)).heap.size = w.heap.size + 1 by simp] at this
      exact this
    · intro q
      rw [List.getD, List.getElem?_replicate]
      split <;> simp
  have HS := Lib.hid hS
  clear hS hx1 hx hp hxi hpi
  go_enter Tryd.func64, Tryd.ntmps64
  go_wp2
  go_loopw [7] (fun i wr => ∃ (a : List Nat) (k1 : Nat), k1 ≤ 3 ∧ i = .int .i64 k1 ∧ LsI w wr x a (t1 x k1) (9 * k1)) (fun i _ => 3 - (intOf i).toNat)
  case atStart => exact ⟨_, 0, by omega, rfl, HS.out⟩
  case round =>
    obtain ⟨a1, k1, hk1, rfl, h1⟩ := hrel
    have H1 := Lib.hid h1
    clear h1 f0 f1 f2 f3 HS
    by_cases hlt1 : k1 < 3
    · have l1 : (k1 : Int) < 3 := by omega
      go_wp2
      go_loopw [8] (fun i wr => ∃ (a : List Nat) (k2 : Nat), k2 ≤ 3 ∧ i = .int .i64 k2 ∧ LsI w wr x a (t1 x k1 + t2 x k1 k2) (9 * k1 + 3 * k2)) (fun i _ => 3 - (intOf i).toNat)
      case atStart => exact ⟨a1, 0, by omega, rfl, H1.out⟩
      case round =>
        obtain ⟨a2, k2, hk2, rfl, h2⟩ := hrel
        have H2 := Lib.hid h2
        clear h2 H1
        by_cases hlt2 : k2 < 3
        · have l2 : (k2 : Int) < 3 := by omega
          go_wp2
          go_loopw [9] (fun i wr => ∃ (a : List Nat) (k3 : Nat), k3 ≤ 3 ∧ i = .int .i64 k3 ∧ LsI w wr x a (t1 x k1 + t2 x k1 k2 + t3 x k1 k2 k3) (9 * k1 + 3 * k2 + k3)) (fun i _ => 3 - (intOf i).toNat)
          case atStart => exact ⟨a2, 0, by omega, rfl, H2.out⟩
          case round =>
            obtain ⟨a3, k3, hk3, rfl, h3⟩ := hrel
            have H3 := Lib.hid h3
            clear h3 H2
            by_cases hlt3 : k3 < 3
            · have l3 : (k3 : Int) < 3 := by omega
              have p1 := H3.out.part k1 hlt1
              have p2 := H3.out.part k2 hlt2
              have p3 := H3.out.part k3 hlt3
              have b1 := oP_lt HXX.out k1
              have b2 := oP_lt HXX.out k2
              have b3 := oP_lt HXX.out k3
              obtain ⟨A, hA⟩ : ∃ A, A = oP x k1 := ⟨_, rfl⟩
              obtain ⟨B, hB⟩ : ∃ B, B = oP x k2 := ⟨_, rfl⟩
              obtain ⟨C, hC⟩ : ∃ C, C = oP x k3 := ⟨_, rfl⟩
              obtain ⟨D, hD⟩ : ∃ D, D = A * B := ⟨_, rfl⟩
              obtain ⟨Y, hY⟩ : ∃ Y, Y = D * C := ⟨_, rfl⟩
              have HYY : Hid (tP x k1 k2 k3 = Y * 65536 ^ (k1 + k2 + k3)) := by show _ = _; unfold tP; rw [hY, hD, hA, hB, hC]
              rw [← hA] at p1 b1
              rw [← hB] at p2 b2
              rw [← hC] at p3 b3
              have bD : D ≤ 4294836225 := by rw [hD]; exact Nat.mul_le_mul b1 b2
              have bY : Y ≤ 281462092005375 := by rw [hY]; exact Nat.mul_le_mul bD b3
              have g1 : IntKind.u64.wrap ((A : Int) * (B : Int)) = (D : Int) := by
                have e : (A : Int) * (B : Int) = (D : Int) := by rw [hD]; push_cast; rfl
                rw [e]; exact wrapU (by omega) (by omega)
              have g2 : IntKind.u64.wrap ((D : Int) * (C : Int)) = (Y : Int) := by
                have e : (D : Int) * (C : Int) = (Y : Int) := by rw [hY]; push_cast; rfl
                rw [e]; exact wrapU (by omega) (by omega)
              have HBY := Lib.hid bY
              have HL1 := Lib.hid (show _ ∧ _ ∧ _ from ⟨hlt1, hlt2, hlt3⟩)
              clear hA hB hC hD hY b1 b2 b3 bD bY
              go_wp2
              go_quiet (fail)
              clear p1 p2 p3 g1 g2
              go_wp2
              go_loopw [10, 11] (fun yy nn wr => ∃ (b : List Nat) (m y : Nat), yy = .int .u64 y ∧ nn = .int .i64 ((k1 + k2 + k3 + m : Nat) : Int) ∧ LsY w wr x a3 b (t1 x k1 + t2 x k1 k2 + t3 x k1 k2 k3) (9 * k1 + 3 * k2 + k3) (k1 + k2 + k3) Y m y) (fun yy _ _ => (intOf yy).toNat)
              case atStart => exact ⟨a3, 0, Y, rfl, by go_num, (H3.out.keep (grow_drawnN _ (grow_refl _ _))).blk, (H3.out.keep (grow_drawnN _ (grow_refl _ _))).one, H3.out.len, by omega, by rw [H3.out.val]; rfl, by have := HBY.out; show Y < 65536 ^ 3; omega, fun q _ => rfl, fun q => Nat.le_trans (H3.out.bd q) (by omega), (H3.out.keep (grow_drawnN _ (grow_refl _ _))).gr⟩
              case round =>
                obtain ⟨b, m, y, rfl, rfl, h4⟩ := hrel
                have H4 := Lib.hid h4
                have hm3 := h4.m3
                clear h4
                by_cases hy : 0 < y
                · have hm : m < 3 := by
                    rcases Nat.lt_or_ge m 3 with z | z
                    · exact z
                    · have := H4.out.ylt
                      rw [show 3 - m = 0 by omega] at this
                      simp at this; omega
                  have hy48 : y < 281474976710656 := Nat.lt_of_lt_of_le H4.out.ylt (Nat.le_trans (Nat.pow_le_pow_right (by omega) (show 3 - m ≤ 3 by omega)) (by decide))
                  have hyi : (0 : Int) < y := by omega
                  obtain ⟨n, hn⟩ : ∃ n, n = k1 + k2 + k3 + m := ⟨_, rfl⟩
                  have hn12 : n < 12 := by have := HL1.out; omega
                  have hb := H4.out.bd n
                  have hcell : wr.cell? ⟨w.heap.size, n, none⟩ = some (.int .u64 ((b.getD n 0 : Nat) : Int)) := by
                    rw [← u64_get b n (by rw [H4.out.len]; exact hn12)]
                    exact H4.out.blk.cell n (by rw [List.length_map, H4.out.len]; exact hn12)
                  have hfr := H4.out.blk.frozen n
                  obtain ⟨u, hu⟩ : ∃ u, u = b.getD n 0 := ⟨_, rfl⟩
                  rw [← hu] at hcell hb
                  obtain ⟨lo, hlo⟩ : ∃ lo, lo = y % 65536 := ⟨_, rfl⟩
                  obtain ⟨s, hs⟩ : ∃ s, s = u + lo := ⟨_, rfl⟩
                  obtain ⟨y2, hy2⟩ : ∃ y2, y2 = y / 65536 := ⟨_, rfl⟩
                  have g1 : bits .and .u64 (y : Int) 65535 = (lo : Int) := by rw [hlo]; exact and16 y (by omega)
                  have g2 : IntKind.u64.wrap ((u : Int) + (lo : Int)) = (s : Int) := by rw [wrapU (by omega) (by have := HL1.out; omega)]; omega
                  have g3 : (y : Int) / 65536 = (y2 : Int) := by omega
                  have HST := Lib.hid (H4.out.step H3.out.bd hm (by rw [← hn]; exact hn12) s (by rw [hs, hu, hlo, hn]))
                  rw [← hy2, ← hn] at HST
                  have hmz : y2 < y := by omega
                  have HMZ := Lib.hid hmz
                  have HN := Lib.hid hn
                  have n0 : (0 : Int) ≤ n := by omega
                  have n12 : (n : Int) < 12 := by omega
                  rw [← hn]
                  clear hs hlo hy2 hu hb hmz hn hy48 hy
                  go_wp2
                  go_roundw
                  case rel => exact ⟨_, m + 1, y2, rfl, by have := HN.out; go_num, HST.out⟩
                  case measure => have := HMZ.out; simp [intOf]; omega
                · obtain rfl : y = 0 := by omega
                  have hval := H4.out.val
                  rw [Nat.zero_mul, Nat.add_zero, ← HYY.out] at hval
                  go_wp2
                  go_roundw
                  case rel => exact ⟨b, k3 + 1, by omega, by go_num, H4.out.blk, H4.out.one, H4.out.len, by rw [hval]; show _ = t1 x k1 + t2 x k1 k2 + (t3 x k1 k2 k3 + tP x k1 k2 k3); omega, H4.out.bd, H4.out.gr⟩
                  case measure => simp [intOf]; omega
            · obtain rfl : k3 = 3 := by omega
              go_wp2
              go_roundw
              case rel => exact ⟨a3, k2 + 1, by omega, by go_num, H3.out.blk, H3.out.one, H3.out.len, by rw [H3.out.val]; show _ = t1 x k1 + (t2 x k1 k2 + t3 x k1 k2 3); omega, fun q => Nat.le_trans (H3.out.bd q) (by omega), H3.out.gr⟩
              case measure => simp [intOf]; omega
        · obtain rfl : k2 = 3 := by omega
          go_wp2
          go_roundw
          case rel => exact ⟨a2, k1 + 1, by omega, by go_num, H2.out.blk, H2.out.one, H2.out.len, by rw [H2.out.val]; rfl, fun q => Nat.le_trans (H2.out.bd q) (by omega), H2.out.gr⟩
          case measure => simp [intOf]; omega
    · obtain rfl : k1 = 3 := by omega
      obtain ⟨V, hV⟩ : ∃ V, V = cubeV x := ⟨_, rfl⟩
      have hVlt : V < 65536 ^ 9 := by rw [hV]; exact cubeV_lt HXX.out
      have HC0 : Hid (LsC w wr x a1 V 0) := ⟨H1.out.blk, H1.out.len, by rw [H1.out.val, hV]; rfl, fun q hq => by omega, fun q => Nat.le_trans (H1.out.bd q) (by omega), fun q _ => Nat.le_trans (H1.out.bd q) (by omega), H1.out.gr⟩
      have HV := Lib.hid hV
      have HVL := Lib.hid hVlt
      clear hV hVlt H1 hlt1 hk1
      go_wp2
      go_loopw [12] (fun i wr => ∃ (a : List Nat) (n : Nat), n ≤ 11 ∧ i = .int .i64 n ∧ LsC w wr x a V n) (fun i _ => 11 - (intOf i).toNat)
      case atStart => exact ⟨a1, 0, by omega, rfl, HC0.out⟩
      case round =>
        clear HC0
        obtain ⟨a, n, hn, rfl, h⟩ := hrel
        have HC := Lib.hid h
        clear h
        by_cases hlt : n < 11
        · have c0 := HC.out.at_ n (by omega)
          have c1 := HC.out.at_ (n + 1) (by omega)
          have fr1 := HC.out.blk.frozen (n + 1)
          have b0 := HC.out.bd n
          have b1 := HC.out.bd (n + 1)
          obtain ⟨u, hu⟩ : ∃ u, u = a.getD n 0 := ⟨_, rfl⟩
          obtain ⟨v, hv⟩ : ∃ v, v = a.getD (n + 1) 0 := ⟨_, rfl⟩
          rw [← hu] at c0 b0
          rw [← hv] at c1 b1
          obtain ⟨q, hq⟩ : ∃ q, q = u / 65536 := ⟨_, rfl⟩
          obtain ⟨r, hr⟩ : ∃ r, r = u % 65536 := ⟨_, rfl⟩
          obtain ⟨s, hs⟩ : ∃ s, s = v + q := ⟨_, rfl⟩
          have g1 : (u : Int) / 65536 = (q : Int) := by omega
          have g2 : IntKind.u64.wrap ((v : Int) + (q : Int)) = (s : Int) := by rw [wrapU (by omega) (by omega)]; omega
          have g3 : bits .and .u64 (u : Int) 65535 = (r : Int) := by rw [hr]; exact and16 u (by omega)
          have g4 : IntKind.i64.wrap ((n : Int) + 1) = (n : Int) + 1 := wrapI (by omega) (by omega)
          have g5 : ((n : Int) + 1).toNat = n + 1 := by omega
          have i0 : (0 : Int) ≤ n := by omega
          have i1 : (n : Int) < 11 := by omega
          have i2 : (0 : Int) ≤ (n : Int) + 1 := by omega
          have i3 : (n : Int) + 1 < 12 := by omega
          have i4 : (n : Int) < 12 := by omega
          obtain ⟨bz, hst⟩ := HC.out.step hlt s r (by rw [hs, hq, hu, hv]) (by rw [hr, hu])
          have cz := bz.cell n (by rw [List.length_map, List.length_set, HC.out.len]; omega)
          rw [u64_get _ _ (by rw [List.length_set, HC.out.len]; omega), getD_set _ _ _ _ (by rw [HC.out.len]; omega), if_neg (by omega), ← hu] at cz
          have fz := bz.frozen n
          have HST := Lib.hid hst
          have HN := Lib.hid hlt
          obtain ⟨wz, hwz⟩ : ∃ wz, wz = (wr.setCell ⟨w.heap.size, n + 1, none⟩ (.int .u64 (s : Int))).drew := ⟨_, rfl⟩
          rw [← hwz] at cz fz HST
          have HWZ := Lib.hid hwz
          clear hu hv hq hr hs b0 b1 bz hst hwz hlt hn
          go_wp2
          go_region
          rw [← HWZ.out]
          clear c0 c1 fr1 HC
          go_wp2
          go_roundw
          case rel => exact ⟨_, n + 1, by have := HN.out; omega, by go_num, HST.out⟩
          case measure => have := HN.out; simp [intOf]; omega
        · obtain rfl : n = 11 := by omega
          clear hlt hn
          go_wp2
          go_loopw [13, 14] (fun tt nn w2 => ∃ k : Nat, k ≤ 6 ∧ tt = .int .u64 ((dv (a.drop (12 - k)) : Nat) : Int) ∧ nn = .int .i64 (11 - (k : Int)) ∧ w2 = wr) (fun _ nn _ => (intOf nn).toNat)
          case atStart => exact ⟨0, by omega, by rw [List.drop_of_length_le (by rw [HC.out.len]; omega)]; rfl, rfl, rfl⟩
          case round =>
            obtain ⟨k, hk, rfl, rfl, rfl⟩ := hrel
            by_cases hlt : k < 6
            · obtain ⟨n, hn⟩ : ∃ n, n = 11 - k := ⟨_, rfl⟩
              have c0 := HC.out.at_ n (by omega)
              have hdn := dv_drop a n (by rw [HC.out.len]; omega)
              have hlt2 := dv_drop_lt HC.out.len HC.out.val HVL.out n (by omega) (by omega)
              rw [show n + 1 = 12 - k by omega] at hdn
              obtain ⟨T, hT⟩ : ∃ T, T = dv (a.drop (12 - k)) := ⟨_, rfl⟩
              obtain ⟨u, hu⟩ : ∃ u, u = a.getD n 0 := ⟨_, rfl⟩
              obtain ⟨T2, hT2⟩ : ∃ T2, T2 = dv (a.drop n) := ⟨_, rfl⟩
              obtain ⟨T1, hT1⟩ : ∃ T1, T1 = 65536 * T := ⟨_, rfl⟩
              rw [← hT, ← hu, ← hT2] at hdn
              rw [← hT2] at hlt2
              rw [← hu] at c0
              rw [← hT]
              have g1 : IntKind.u64.wrap ((T : Int) * 65536) = (T1 : Int) := by rw [wrapU (by omega) (by omega)]; omega
              have g2 : IntKind.u64.wrap ((T1 : Int) + (u : Int)) = (T2 : Int) := by rw [wrapU (by omega) (by omega)]; omega
              have e1 : (11 : Int) - (k : Int) = (n : Int) := by omega
              have i0 : (0 : Int) ≤ n := by omega
              have i1 : (n : Int) < 12 := by omega
              have i2 : (6 : Int) ≤ n := by omega
              have HT2 : Hid (T2 = dv (a.drop (12 - (k + 1)))) := by show _ = _; rw [hT2]; congr 2; omega
              have HLT := Lib.hid (show _ ∧ _ from ⟨hlt, hn⟩)
              rw [e1]
              clear hT hu hT2 hT1 hdn hlt2 hlt hk hn e1
              go_wp2
              go_roundw
              case rel => exact ⟨k + 1, by have := HLT.out; omega, by rw [← HT2.out], by congr 1; have := HLT.out; omega, trivial⟩
              case measure => have := HLT.out; simp [intOf]; omega
            · obtain rfl : k = 6 := by omega
              obtain ⟨hp1, hp2⟩ := dv_parts HC.out.len HC.out.val HC.out.lo
              obtain ⟨T, hT⟩ : ∃ T, T = dv (a.drop 6) := ⟨_, rfl⟩
              rw [sum6 a HC.out.len] at hp2
              have c0 := HC.out.at_ 0 (by omega)
              have c1 := HC.out.at_ 1 (by omega)
              have c2 := HC.out.at_ 2 (by omega)
              have c3 := HC.out.at_ 3 (by omega)
              have c4 := HC.out.at_ 4 (by omega)
              have c5 := HC.out.at_ 5 (by omega)
              have b0 := HC.out.lo 0 (by omega)
              have b1 := HC.out.lo 1 (by omega)
              have b2 := HC.out.lo 2 (by omega)
              have b3 := HC.out.lo 3 (by omega)
              have b4 := HC.out.lo 4 (by omega)
              have b5 := HC.out.lo 5 (by omega)
              obtain ⟨x0, hx0⟩ : ∃ y, y = a.getD 0 0 := ⟨_, rfl⟩
              obtain ⟨x1, hx1⟩ : ∃ y, y = a.getD 1 0 := ⟨_, rfl⟩
              obtain ⟨x2, hx2⟩ : ∃ y, y = a.getD 2 0 := ⟨_, rfl⟩
              obtain ⟨x3, hx3⟩ : ∃ y, y = a.getD 3 0 := ⟨_, rfl⟩
              obtain ⟨x4, hx4⟩ : ∃ y, y = a.getD 4 0 := ⟨_, rfl⟩
              obtain ⟨x5, hx5⟩ : ∃ y, y = a.getD 5 0 := ⟨_, rfl⟩
              rw [← hx0] at c0 b0 hp2
              rw [← hx1] at c1 b1 hp2
              rw [← hx2] at c2 b2 hp2
              rw [← hx3] at c3 b3 hp2
              rw [← hx4] at c4 b4 hp2
              rw [← hx5] at c5 b5 hp2
              obtain ⟨s1, hs1⟩ : ∃ y, y = x0 + x1 := ⟨_, rfl⟩
              obtain ⟨s2, hs2⟩ : ∃ y, y = s1 + x2 := ⟨_, rfl⟩
              obtain ⟨s3, hs3⟩ : ∃ y, y = s2 + x3 := ⟨_, rfl⟩
              obtain ⟨s4, hs4⟩ : ∃ y, y = s3 + x4 := ⟨_, rfl⟩
              obtain ⟨s5, hs5⟩ : ∃ y, y = s4 + x5 := ⟨_, rfl⟩
              have g1 : IntKind.u64.wrap ((x0 : Int) + (x1 : Int)) = (s1 : Int) := by rw [wrapU (by omega) (by omega)]; omega
              have g2 : IntKind.u64.wrap ((s1 : Int) + (x2 : Int)) = (s2 : Int) := by rw [wrapU (by omega) (by omega)]; omega
              have g3 : IntKind.u64.wrap ((s2 : Int) + (x3 : Int)) = (s3 : Int) := by rw [wrapU (by omega) (by omega)]; omega
              have g4 : IntKind.u64.wrap ((s3 : Int) + (x4 : Int)) = (s4 : Int) := by rw [wrapU (by omega) (by omega)]; omega
              have g5 : IntKind.u64.wrap ((s4 : Int) + (x5 : Int)) = (s5 : Int) := by rw [wrapU (by omega) (by omega)]; omega
              have hs0 : s5 = 0 ↔ V % 65536 ^ 6 = 0 := by rw [← hp2]; omega
              rw [show 12 - 6 = 6 from rfl, ← hT]
              rw [← hT] at hp1
              have HB : Hid (lessB x p = (decide (T < p) || (decide (T = p) && decide (s5 = 0)))) := by
                show _ = _
                unfold lessB
                rw [← HV.out, ← hp1]
                congr 2
                exact (decide_eq_decide.2 hs0).symm
              have HG := Lib.hid HC.out.gr
              clear hx0 hx1 hx2 hx3 hx4 hx5 hs1 hs2 hs3 hs4 hs5 hs0 hp1 hp2 hT b0 b1 b2 b3 b4 b5 HC
              by_cases k1 : T < p
              · have d1 : decide ((T : Int) < (p : Int)) = true := decide_eq_true (by omega)
                have HR : Hid (lessB x p = true) := by show _ = _; rw [HB.out, decide_eq_true k1]; rfl
                have m1 : ¬ T = p := by omega
                go_wp2
                go_ret
                exact ⟨by rw [HR.out]; rfl, HG.out⟩
              · have d1 : decide ((T : Int) < (p : Int)) = false := decide_eq_false (by omega)
                by_cases k2 : T = p
                · have d2 : ((T : Int) == (p : Int)) = true := by simp; omega
                  by_cases k3 : s5 = 0
                  · have d3 : ((s5 : Int) == 0) = true := by simp; omega
                    have HR : Hid (lessB x p = true) := by show _ = _; rw [HB.out, decide_eq_true k2, decide_eq_true k3, Bool.and_self, Bool.or_true]
                    have m1 : ¬ T < p := k1
                    go_wp2
                    go_ret
                    exact ⟨by rw [HR.out]; rfl, HG.out⟩
                  · have d3 : ((s5 : Int) == 0) = false := by simp; omega
                    have HR : Hid (lessB x p = false) := by show _ = _; rw [HB.out, decide_eq_false k1, decide_eq_false k3, Bool.and_false, Bool.or_false]
                    have m1 : ¬ T < p := k1
                    go_wp2
                    go_ret
                    exact ⟨by rw [HR.out]; rfl, HG.out⟩
                · have d2 : ((T : Int) == (p : Int)) = false := by simp; omega
                  have HR : Hid (lessB x p = false) := by show _ = _; rw [HB.out, decide_eq_false k1, decide_eq_false k2]; rfl
                  have m1 : ¬ T < p := k1
                  go_wp2
                  go_ret
                  exact ⟨by rw [HR.out]; rfl, HG.out⟩
end Go.Proofs.YtgcdfoadegojcaaDoor
