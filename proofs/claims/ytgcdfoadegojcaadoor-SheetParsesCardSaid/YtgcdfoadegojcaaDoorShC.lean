/- Stage 3: the state: how it is added to, and its 32 bytes. -/
import Derived.Test.YtgcdfoadegojcaaDoorShB
namespace Go.Proofs.YtgcdfoadegojcaaDoor
open Go.RowKit
set_option linter.unusedVariables false
def addW (h v : List (BitVec 32)) : List (BitVec 32) := List.zipWith (· + ·) h v
/-- The state's cells when the first k words are added. -/
def addC (h v : List (BitVec 32)) (k : Nat) : List (BitVec 32) := (addW h v).take k ++ h.drop k
theorem addW_len {h v : List (BitVec 32)} (h8 : h.length = 8) (v8 : v.length = 8) : (addW h v).length = 8 := by unfold addW; rw [List.length_zipWith, h8, v8]; rfl
theorem addC_len {h v : List (BitVec 32)} (h8 : h.length = 8) (v8 : v.length = 8) (k : Nat) (hk : k ≤ 8) : (addC h v k).length = 8 := by
  unfold addC; rw [List.length_append, List.length_take, List.length_drop, addW_len h8 v8]; omega
theorem addC_zero (h v : List (BitVec 32)) : addC h v 0 = h := by unfold addC; simp
theorem addC_all {h v : List (BitVec 32)} (h8 : h.length = 8) (v8 : v.length = 8) : addC h v 8 = addW h v := by
  unfold addC
  rw [List.drop_of_length_le (by omega), List.take_of_length_le (by rw [addW_len h8 v8]; exact Nat.le_refl _), List.append_nil]
theorem addC_at {h v : List (BitVec 32)} (h8 : h.length = 8) (v8 : v.length = 8) (k : Nat) (hk : k < 8) : (addC h v k).getD k 0 = h.getD k 0 := by
  unfold addC
  have hl : ((addW h v).take k).length = k := by rw [List.length_take, addW_len h8 v8]; omega
  rw [List.getD, List.getElem?_append_right (by omega), hl, Nat.sub_self, List.getElem?_drop, Nat.add_zero]; rfl
theorem addW_get {h v : List (BitVec 32)} (h8 : h.length = 8) (v8 : v.length = 8) (k : Nat) (hk : k < 8) (hw : k < (addW h v).length) : (addW h v)[k] = h.getD k 0 + v.getD k 0 := by
  have e : (addW h v)[k]? = some (h.getD k 0 + v.getD k 0) := by
    unfold addW
    rw [List.getElem?_zipWith, List.getD, List.getD, List.getElem?_eq_getElem (show k < h.length by omega), List.getElem?_eq_getElem (show k < v.length by omega)]
    rfl
  rw [List.getElem?_eq_getElem hw] at e
  exact Option.some.inj e
theorem addC_set {h v : List (BitVec 32)} (h8 : h.length = 8) (v8 : v.length = 8) (k : Nat) (hk : k < 8) : (addC h v k).set k (h.getD k 0 + v.getD k 0) = addC h v (k + 1) := by
  unfold addC
  have hl : ((addW h v).take k).length = k := by rw [List.length_take, addW_len h8 v8]; omega
  have hw : k < (addW h v).length := by rw [addW_len h8 v8]; exact hk
  rw [List.set_append_right _ _ (by omega), hl, Nat.sub_self, List.take_succ_eq_append_getElem hw, List.append_assoc]
  congr 1
  rw [List.drop_eq_getElem_cons (show k < h.length by omega), List.set_cons_zero, List.singleton_append]
  congr 1
  exact (addW_get h8 v8 k hk hw).symm
theorem map_getD (l : List (BitVec 32)) (k : Nat) (hk : k < l.length) : (l.map u32v).getD k undef = .int .u32 (un (l.getD k 0)) := by
  rw [List.getD, List.getElem?_map, List.getElem?_eq_getElem hk, List.getD, List.getElem?_eq_getElem hk]; rfl
theorem idx8c (v0 v1 v2 v3 v4 v5 v6 v7 : BitVec 32) (k : Int) (W : World) (x : BitVec 32)
    (h : (Instr.index 58 (.agg #[u32v v0, u32v v1, u32v v2, u32v v3, u32v v4, u32v v5, u32v v6, u32v v7]) (.int .i64 k)).run Tryd.prog W = .ok (.int .u32 (un x)) W) :
    (Instr.index 58 (.agg ([v0, v1, v2, v3, v4, v5, v6, v7].map u32v).toArray) (.int .i64 k)).run Tryd.prog W = .ok (.int .u32 (un x)) W := h
theorem idx8 (v : List (BitVec 32)) (v8 : v.length = 8) (k : Nat) (hk : k < 8) (W : World) :
    (Instr.index 58 (.agg (v.map u32v).toArray) (.int .i64 (k : Int))).run Tryd.prog W = .ok (.int .u32 (un (v.getD k 0))) W := by
  match v, v8 with
  | [v0, v1, v2, v3, v4, v5, v6, v7], _ =>
    match k, hk with
    | 0, _ => exact idx8c _ _ _ _ _ _ _ _ 0 W _ (by kernel_rfl)
    | 1, _ => exact idx8c _ _ _ _ _ _ _ _ 1 W _ (by kernel_rfl)
    | 2, _ => exact idx8c _ _ _ _ _ _ _ _ 2 W _ (by kernel_rfl)
    | 3, _ => exact idx8c _ _ _ _ _ _ _ _ 3 W _ (by kernel_rfl)
    | 4, _ => exact idx8c _ _ _ _ _ _ _ _ 4 W _ (by kernel_rfl)
    | 5, _ => exact idx8c _ _ _ _ _ _ _ _ 5 W _ (by kernel_rfl)
    | 6, _ => exact idx8c _ _ _ _ _ _ _ _ 6 W _ (by kernel_rfl)
    | 7, _ => exact idx8c _ _ _ _ _ _ _ _ 7 W _ (by kernel_rfl)
set_option maxRecDepth 100000 in
set_option maxHeartbeats 1000000 in
theorem add_any (b : Nat) (h v : List (BitVec 32)) (w : World) (h8 : h.length = 8) (v8 : v.length = 8) (hb : Blk w b 58 (h.map u32v)) :
    Calls Tryd.prog 63 #[.pointer (some ⟨b, 0, none⟩), .agg (v.map u32v).toArray] w fun e w' => e = .returned (.tuple #[]) ∧ Blk w' b 58 ((addW h v).map u32v) ∧ w.grownBy w' (some b) := by
  have hbl := hb.lt
  obtain ⟨L, hL⟩ : ∃ L, L = v.map u32v := ⟨_, rfl⟩
  have hsz : L.length = 8 := by rw [hL, List.length_map, v8]
  have hin : (Tryd.prog.info? 58).map (·.size) = some L.toArray.size := by
    rw [List.size_toArray, hsz]; kernel_rfl
  have hidx := fun k hk W => idx8 v v8 k hk W
  rw [← hL] at hidx ⊢
  have HIDX := Lib.hid hidx
  have HIN := Lib.hid hin
  have HL := Lib.hid hL
  have H8 := Lib.hid h8
  have V8 := Lib.hid v8
  have bA := hb.alloc (.cells L.toArray 58)
  have bN := Blk.new w 58 L
  have gA := World.grownBy_alloc w (.cells L.toArray 58) (some b)
  clear hidx hin hL hsz h8 v8
  go_enter Tryd.func63, Tryd.ntmps63
  go_wp2_with (refine wpList_load_row rfl 58 (.tmp 3) (by with_reducible rfl) w.heap.size rfl 58 L.toArray (0, 0) _ bN Tryd.underlying58 rfl HIN.out ?_)
  go_loopw [7] (fun i wr => ∃ k : Nat, k ≤ 8 ∧ i = .int .i64 k ∧ Blk wr b 58 ((addC h v k).map u32v) ∧ w.grownBy wr (some b)) (fun i _ => 8 - (intOf i).toNat)
  case atStart => exact ⟨0, Nat.zero_le _, rfl, by rw [addC_zero]; exact bA, gA⟩
  case round =>
    clear bA bN gA
    obtain ⟨k, hk, rfl, c1, hgw⟩ := hrel
    by_cases hlt : k < 8
    · have hki : (k : Int) < 8 := by omega
      have ix := fun W => HIDX.out k hlt W
      have hl := addC_len H8.out V8.out k (by omega)
      have HSET : Hid (((addC h v k).map u32v).set k (u32v (h.getD k 0 + v.getD k 0)) = (addC h v (k + 1)).map u32v) := by
        show _ = _
        rw [← List.map_set, addC_set H8.out V8.out k hlt]
      have cc := c1.cell k (by rw [List.length_map]; omega)
      rw [map_getD _ _ (by omega), addC_at H8.out V8.out k hlt] at cc
      obtain ⟨x, hx⟩ : ∃ x, x = h.getD k 0 := ⟨_, rfl⟩
      obtain ⟨y, hy⟩ : ∃ y, y = v.getD k 0 := ⟨_, rfl⟩
      rw [← hx] at cc HSET
      rw [← hy] at HSET ix
      clear hx hy hl
      have d1 := c1.frozen k
      have c3 := (c1.set_ k (u32v (x + y))).drew
      rw [HSET.out] at c3
      go_wp2
      go_region
      all_goals
        go_wp2
        go_roundw
        case rel => exact ⟨k + 1, by omega, by go_num, c3, grow_drawn (grow_same hgw (grow_set _ _ _))⟩
        case measure => simp [intOf]; omega
    · have hki : (8 : Int) ≤ (k : Int) := by omega
      have c2 : Blk wr b 58 ((addW h v).map u32v) := by
        have e : k = 8 := by omega
        rw [e, addC_all H8.out V8.out] at c1; exact c1
      clear c1
      go_wp2
      go_end0
      exact ⟨rfl, c2, hgw⟩
end Go.Proofs.YtgcdfoadegojcaaDoor
