/- Several texts in one: SvA SvC SvD SvE SvF SeA SeC SeD SeE SeF SeB SeG SeP SeH SeI. -/
import Derived.Test.YtgcdfoadegojcaaDoorShG
import Derived.Test.YtgcdfoadegojcaaDoorShL
import Derived.Test.YtgcdfoadegojcaaDoorB2
import Derived.Test.YtgcdfoadegojcaaDoorRel
import Derived.Test.YtgcdfoadegojcaaDoorStep
import Derived.Test.YtgcdfoadegojcaaDoorShelf
import Derived.Test.YtgcdfoadegojcaaDoorRelT
import Derived.Test.YtgcdfoadegojcaaDoorRelU
import Derived.Test.YtgcdfoadegojcaaDoorShSums
import Derived.Test.YtgcdfoadegojcaaDoorRfC
import Derived.Test.YtgcdfoadegojcaaDoorPkLa
import Derived.Test.YtgcdfoadegojcaaDoorPkK
import Derived.Test.YtgcdfoadegojcaaDoorPkI
import Derived.Test.YtgcdfoadegojcaaDoorRfEa
import Derived.Test.YtgcdfoadegojcaaDoorRelC
namespace Go.Proofs.YtgcdfoadegojcaaDoor
open Go.RowKit
set_option linter.unusedVariables false
def cntI (n : Int) : Int := if n ≤ 0 then 0 else (n - 1) / 64 + 1
set_option maxRecDepth 100000 in
theorem CountC_any (n : Int) (w : World) (hn : -9223372036854775808 ≤ n ∧ n ≤ 9223372036854775807) :
    Calls Tryd.prog 44 #[.int .i64 n] w fun e w' => e = .returned (.int .i64 (cntI n)) ∧ w = w' := by
  obtain ⟨h1, h2⟩ := hn
  by_cases h0 : n ≤ 0
  · have HE : Hid (cntI n = 0) := by show _ = _; unfold cntI; rw [if_pos h0]
    go_enter Tryd.func44, Tryd.ntmps44
    go_wp2
    go_ret
    exact ⟨by rw [HE.out]; rfl, rfl⟩
  · have HE : Hid (cntI n = (n - 1) / 64 + 1) := by show _ = _; unfold cntI; rw [if_neg h0]
    have h3 : 1 ≤ n := by omega
    have h4 : 0 < n := by omega
    go_enter Tryd.func44, Tryd.ntmps44
    go_wp2
    go_ret
    exact ⟨by rw [HE.out]; rfl, rfl⟩
set_option maxRecDepth 100000 in
theorem refCountC_any (n : Int) (w : World) (hn : -9223372036854775808 ≤ n ∧ n ≤ 9223372036854775807) :
    Calls Tryd.prog 45 #[.int .i64 n] w fun e w' => e = .returned (.int .i64 (cntI n)) ∧ w = w' := by
  obtain ⟨h1, h2⟩ := hn
  by_cases h0 : n < 0
  · have HE : Hid (cntI n = 0) := by show _ = _; unfold cntI; rw [if_pos (by omega)]
    go_enter Tryd.func45, Tryd.ntmps45
    go_wp2
    go_ret
    exact ⟨by rw [HE.out]; rfl, rfl⟩
  · have h3 : 0 ≤ n := by omega
    by_cases h4 : n / 64 * 64 < n
    · have HE : Hid (cntI n = n / 64 + 1) := by
        show _ = _
        unfold cntI
        rw [if_neg (by omega)]; omega
      go_enter Tryd.func45, Tryd.ntmps45
      go_wp2
      go_ret
      exact ⟨by rw [HE.out]; rfl, rfl⟩
    · have h4' : n ≤ n / 64 * 64 := by omega
      have HE : Hid (cntI n = n / 64) := by
        show _ = _
        unfold cntI
        split <;> omega
      go_enter Tryd.func45, Tryd.ntmps45
      go_wp2
      go_ret
      exact ⟨by rw [HE.out]; rfl, rfl⟩
/-- Of how many the two lists are alike. -/
def SameTo (a b : List ByteArray) (k : Nat) : Prop := ∀ j, j < k → a.getD j ⟨#[]⟩ = b.getD j ⟨#[]⟩
theorem same_all {a b : List ByteArray} (hl : a.length = b.length) (h : SameTo a b a.length) : a = b := by
  apply List.ext_getElem hl
  intro i h1 h2
  have := h i h1
  simpa [List.getD, List.getElem?_eq_getElem h1, List.getElem?_eq_getElem h2] using this
theorem bytes_ne {s t : ByteArray} (h : s ≠ t) : (!(s.toList == t.toList)) = true := by
  rw [Bool.not_eq_true', beq_eq_false_iff_ne]
  intro e
  apply h
  have : s.data.toList = t.data.toList := by rw [← ByteArray.toList_eq, ← ByteArray.toList_eq]; exact e
  exact ByteArray.ext (Array.ext' this)
set_option maxRecDepth 100000 in
set_option maxHeartbeats 1000000 in
theorem Same_any (va vb : Value) (a b : List ByteArray) (w : World) (hra : RowAt w va (a.map Value.string)) (hrb : RowAt w vb (b.map Value.string)) (ha : a.length ≤ maxLen) (hb : b.length ≤ maxLen) :
    Calls Tryd.prog 41 #[va, vb] w fun e w' => e = .returned (.bool (decide (a = b))) ∧ w.grownBy w' none := by
  obtain ⟨pa, ca, rfl⟩ := row_form hra
  obtain ⟨pb, cb, rfl⟩ := row_form hrb
  have ia : (a.length : Int) ≤ 9223372036854775807 := by unfold maxLen at ha; omega
  have ib : (b.length : Int) ≤ 9223372036854775807 := by unfold maxLen at hb; omega
  clear ha hb
  by_cases hl : a.length = b.length
  · have hq : ((a.length : Int) != (b.length : Int)) = false := by rw [hl]; simp
    have HL := Lib.hid hl
    clear hl
    go_enter Tryd.func41, Tryd.ntmps41
    go_wp2
    go_loopw [5] (fun i wr => ∃ k : Nat, i = .int .i64 k ∧ k ≤ a.length ∧ SameTo a b k ∧ w.grownBy wr none) (fun i _ => a.length - (intOf i).toNat)
    case atStart => exact ⟨0, rfl, Nat.zero_le _, fun j hj => by omega, grow_refl _ _⟩
    case round =>
      obtain ⟨k, rfl, hk, hs, hg⟩ := hrel
      have HS := Lib.hid hs
      clear hs
      by_cases hlt : k < a.length
      · obtain ⟨b1, o1, rfl, c1, _⟩ := row_string (hra.kept hg) rfl hlt
        obtain ⟨b2, o2, rfl, c2, _⟩ := row_string (hrb.kept hg) rfl (show k < b.length by rw [← HL.out]; exact hlt)
        obtain ⟨x, hx⟩ : ∃ x, x = a.getD k ⟨#[]⟩ := ⟨_, rfl⟩
        obtain ⟨y, hy⟩ : ∃ y, y = b.getD k ⟨#[]⟩ := ⟨_, rfl⟩
        rw [← hx] at c1
        rw [← hy] at c2
        have i1 : (k : Int) < a.length := by omega
        have i2 : (k : Int) < b.length := by have := HL.out; omega
        have i0 : (0 : Int) ≤ k := by omega
        have HX := Lib.hid hx
        have HY := Lib.hid hy
        clear hx hy
        by_cases he : x = y
        · have HH : Hid (a.getD k ⟨#[]⟩ = b.getD k ⟨#[]⟩) := by show _ = _; rw [← HX.out, ← HY.out]; exact he
          subst he
          go_wp2
          go_quiet (fail)
          go_wp2
          go_roundw
          case rel => exact ⟨k + 1, by go_num, by omega, fun j hj => by
            by_cases e : j = k
            · subst e; exact HH.out
            · exact HS.out j (by omega), grow_drawnN _ hg⟩
          case measure => simp [intOf]; omega
        · have hq2 : (!(x.toList == y.toList)) = true := bytes_ne he
          have HF : Hid (decide (a = b) = false) := by
            show _ = _
            rw [decide_eq_false_iff_not]
            intro e
            exact he (by rw [HX.out, HY.out, e])
          clear he
          go_wp2
          go_quiet (fail)
          go_wp2
          go_ret
          exact ⟨by rw [HF.out]; rfl, grow_drawnN _ hg⟩
      · obtain rfl : k = a.length := by omega
        have HF : Hid (decide (a = b) = true) := by
          show _ = _
          rw [decide_eq_true_eq]
          exact same_all HL.out HS.out
        go_wp2
        refine bodyPost_ret (v := .bool true) ?_ ?_ ?_
        · simp [results, go_sem]
        · rfl
        · exact ⟨by rw [HF.out], hg⟩
  · have hq : ((a.length : Int) != (b.length : Int)) = true := by rw [bne_iff_ne]; omega
    have HF : Hid (decide (a = b) = false) := by
      show _ = _
      rw [decide_eq_false_iff_not]
      intro e
      exact hl (by rw [e])
    clear hl
    go_enter Tryd.func41, Tryd.ntmps41
    go_wp2
    go_ret
    exact ⟨by rw [HF.out]; rfl, grow_refl _ _⟩
theorem Tryd.info07_string : (Tryd.prog.info? 9).map (fun i => (i.zero, i.size, i.bytes)) = some (some (.string ⟨#[]⟩), 1, 16) := by kernel_rfl
def cntN (n : Nat) : Nat := (n + 63) / 64
def chS (l : List UInt8) (i : Nat) : ByteArray := ⟨((l.drop (64 * i)).take 64).toArray⟩
def chunks (l : List UInt8) : List ByteArray := (List.range (cntN l.length)).map (chS l)
def restC (l : List UInt8) (k : Nat) : ByteArray := ⟨(l.drop (64 * k)).toArray⟩
theorem restC_zero (s : ByteArray) : restC s.data.toList 0 = s := by unfold restC; simp
theorem restC_size (l : List UInt8) (k : Nat) : (restC l k).size = l.length - 64 * k := by
  unfold restC
  show (l.drop (64 * k)).toArray.size = _
  simp
theorem restC_take (l : List UInt8) (k n : Nat) (hn : n = min 64 (l.length - 64 * k)) : (restC l k).extract 0 n = chS l k := by
  apply ByteArray.ext
  apply Array.ext'
  unfold restC chS
  simp
  omega
theorem restC_drop (l : List UInt8) (k n : Nat) (hn : n = min 64 (l.length - 64 * k)) : (restC l k).extract n (l.length - 64 * k) = restC l (k + 1) := by
  apply ByteArray.ext
  apply Array.ext'
  unfold restC
  simp
  by_cases h : 64 ≤ l.length - 64 * k
  · rw [show n = 64 by omega, show 64 * k + 64 = 64 * (k + 1) by omega, List.take_of_length_le (by simp; omega)]
  · rw [show n = l.length - 64 * k by omega, List.drop_of_length_le (by omega), List.drop_of_length_le (by omega)]; simp
theorem empty_size {s : ByteArray} (h : s.size = 0) : s = ⟨#[]⟩ := by
  apply ByteArray.ext
  apply Array.eq_empty_of_size_eq_zero
  exact h
theorem isEmpty_no {s : ByteArray} (h : 1 ≤ s.size) : s.toList.isEmpty = false := by
  rw [ByteArray.toList_eq]
  cases hs : s.data.toList with
  | nil =>
    have : s.data.toList.length = 0 := by rw [hs]; rfl
    rw [Array.length_toList] at this
    have e : s.data.size = s.size := rfl
    omega
  | cons a l => rfl
theorem own_made (w : World) (t : TypeId) (z : Value) (c : Nat) (hc : c ≤ maxLen) : (w.alloc (.cells (List.replicate c z).toArray t)).ownsRow 0 t 1 (.slice (some ⟨w.heap.size, 0, none⟩) 0 c) 0 [] :=
  ⟨by simp, .inr ⟨w.heap.size, c, (List.replicate c z).toArray, rfl, Nat.zero_le _, heap_alloc_new w _, Nat.zero_le _, hc, by simp, by simp⟩⟩
theorem cnt_step (l : List UInt8) (k : Nat) : ((List.range (k + 1)).map (chS l)).map Value.string = ((List.range k).map (chS l)).map Value.string ++ [Value.string (chS l k)] := by
  rw [List.range_succ]; simp
theorem own_cap {w : World} {e : TypeId} {n : Nat} {v : Value} {xs : List Value} (h : w.ownsRow 0 e 1 v n xs) : CapOk v := by
  rcases h.2 with ⟨rfl, rfl⟩ | ⟨g, cap, cur, rfl, _, _, h1, _⟩
  · intro p n c e; injection e with _ e2 e3; omega
  · intro p n' c e; injection e with _ e2 e3; omega
/-- A list of the call's own that reads as these texts. -/
def TextsAt (w0 : World) (l : List ByteArray) (e : Ending) (w' : World) : Prop := ∃ v, e = .returned v ∧ RowAt w' v (l.map Value.string) ∧ NewBlk w0 v ∧ w0.grownBy w' none ∧ CapOk v
def CutAt (l : List UInt8) (w0 : World) (d v : Value) (w : World) : Prop :=
  ∃ k : Nat, d = .string (restC l k) ∧ k ≤ cntN l.length ∧ w.ownsRow 0 9 1 v k (((List.range k).map (chS l)).map Value.string) ∧ NewBlk w0 v ∧ w0.grownBy w none
def sizeV : Value → Nat
  | .string t => t.size
  | _ => 0
set_option maxRecDepth 100000 in
set_option maxHeartbeats 1000000 in
theorem Cut_any (s : ByteArray) (w : World) (hs : s.size ≤ 1000000) :
    Calls Tryd.prog 28 #[.string s] w (TextsAt w (chunks s.data.toList)) := by
  obtain ⟨i0, hi, hz0, hz1, hz2⟩ := info_parts Tryd.info07_string
  have hsi : (s.size : Int) ≤ 1000000 := by omega
  obtain ⟨l, hl⟩ : ∃ l, l = s.data.toList := ⟨_, rfl⟩
  have hln : l.length = s.size := by rw [hl, Array.length_toList]; rfl
  have hc : cntI (s.size : Int) = ((cntN l.length : Nat) : Int) := by
    unfold cntI cntN
    rw [hln]
    split <;> omega
  have hcb : cntN l.length ≤ 20000 := by unfold cntN; omega
  obtain ⟨c, hcc⟩ : ∃ c, c = cntN l.length := ⟨_, rfl⟩
  rw [← hcc] at hc hcb
  have hmk : ∀ W : World, (Instr.makeSlice 22 (.int .i64 0) (.int .i64 (c : Int))).run Tryd.prog W = .ok (.slice (some ⟨W.heap.size, 0, none⟩) 0 c) (W.alloc (.cells (List.replicate c (Value.string ⟨#[]⟩)).toArray 9)) :=
    fun W => run_make_one (P := Tryd.prog) 22 9 i0 (.string ⟨#[]⟩) 16 Tryd.underlying22 hi hz0 rfl hz1 hz2 .i64 .i64 0 c (Nat.zero_le _) (by omega) (by omega) W
  have t0 : CutAt l w (.string s) (.slice (some ⟨w.heap.size, 0, none⟩) 0 c) (w.alloc (.cells (List.replicate c (Value.string ⟨#[]⟩)).toArray 9)) :=
    ⟨0, by rw [hl, restC_zero], Nat.zero_le _, own_made w _ _ c (by show _ ≤ 2^63-1; omega), newblk_at w w.heap.size 0 c (Nat.le_refl _) 0, World.grownBy_alloc _ _ _⟩
  have HC := Lib.hid hc
  have HCC := Lib.hid hcc
  have HLN := Lib.hid hln
  rw [← hl]
  have HLL := Lib.hid hl
  clear hc hcc hln hl
  go_enter Tryd.func28, Tryd.ntmps28
  go_wp2_with fail
  refine (CountC_any _ _ (by omega)).mono ?_
  rintro e w1 ⟨rfl, rfl⟩
  rw [HC.out]
  go_wp2
  go_loopw [0, 3] (fun d v wr => CutAt l w d v wr) (fun d _ _ => sizeV d)
  case atStart => exact t0
  case round =>
    clear t0 hmk
    obtain ⟨k, rfl, hk, ho, hn, hg⟩ := hrel
    have hrs := restC_size l k
    obtain ⟨t, ht⟩ : ∃ t, t = restC l k := ⟨_, rfl⟩
    rw [← ht] at hrs ⊢
    have HT := Lib.hid ht
    clear ht
    have hti : (t.size : Int) ≤ 1000000 := by have := HLN.out; omega
    by_cases h0 : l.length ≤ 64 * k
    · have hz : t = ⟨#[]⟩ := empty_size (by omega)
      have hkk : k = cntN l.length := by
        unfold cntN at hk ⊢
        omega
      subst hz
      have HF : Hid (((List.range k).map (chS l)) = chunks l) := by show _ = _; unfold chunks; rw [hkk]
      have HR := Lib.hid (RowAt.of_own ho)
      have HCAP := Lib.hid (own_cap ho)
      clear hkk ho
      go_wp2
      go_ret
      exact ⟨_, rfl, by rw [← HF.out]; exact HR.out, hn, hg, HCAP.out⟩
    · have h1 : 1 ≤ t.size := by omega
      have he := isEmpty_no h1
      have hkn : k < cntN l.length := by unfold cntN; omega
      have hkb : k ≤ 20000 := by have := HCC.out; omega
      have HRS := Lib.hid hrs
      have HGT : Hid (64 * k < l.length) := by show _ < _; omega
      by_cases h64 : 64 ≤ t.size
      · have h64i : (64 : Int) ≤ t.size := by omega
        have hx1 : t.extract 0 64 = chS l k := by rw [HT.out]; exact restC_take l k 64 (by rw [← hrs]; omega)
        have hx2 : t.extract 64 t.size = restC l (k + 1) := by rw [hrs, HT.out]; exact restC_drop l k 64 (by rw [← hrs]; omega)
        have hmin : min (64 : Int) t.size = 64 := by omega
        clear h0 h64 hrs
        go_wp2_with (at_builtin; refine wpList_append_row _ rfl _ _ 22 rfl 9 i0 (.string ⟨#[]⟩) 16 Tryd.underlying22 hi hz0 hz1 hz2 rfl _ _ _ rfl (ho.alloc _) _ [Value.string (chS l k)] rfl (RowAt.lit wr [Value.string (chS l k)] _ _ _ rfl) (ones_str [chS l k]) (by show k + 1 ≤ 2^63-1; omega) (by show (k + 1) * 16 ≤ _; omega) ?_)
        intro v3 w3 o3 g3 mv3
        have X3 := grow_newblk (grow_none hg (World.grownBy_alloc wr (.cells #[Value.string (chS l k)] 9) none)) hn g3
        have N3 := hn.moved (grow_none hg (World.grownBy_alloc wr (.cells #[Value.string (chS l k)] 9) none)).size mv3
        go_wp2
        go_roundw
        case rel => exact ⟨k + 1, rfl, by omega, by rw [cnt_step, List.map_map]; exact o3, N3, X3⟩
        case measure => simp only [sizeV]; rw [restC_size, HRS.out]; have := HGT.out; omega
      · have h64i : (t.size : Int) < 64 := by omega
        have hx1 : t.extract 0 t.size = chS l k := by rw [hrs, HT.out]; exact restC_take l k _ (by omega)
        have HRE : Hid (restC l (k + 1) = ByteArray.empty) := by show _ = _; unfold restC; rw [List.drop_of_length_le (by omega)]; rfl
        have hmin : min (64 : Int) t.size = t.size := by omega
        clear h0 h64 hrs
        go_wp2_with (at_builtin; refine wpList_append_row _ rfl _ _ 22 rfl 9 i0 (.string ⟨#[]⟩) 16 Tryd.underlying22 hi hz0 hz1 hz2 rfl _ _ _ rfl (ho.alloc _) _ [Value.string (chS l k)] rfl (RowAt.lit wr [Value.string (chS l k)] _ _ _ rfl) (ones_str [chS l k]) (by show k + 1 ≤ 2^63-1; omega) (by show (k + 1) * 16 ≤ _; omega) ?_)
        intro v3 w3 o3 g3 mv3
        have X3 := grow_newblk (grow_none hg (World.grownBy_alloc wr (.cells #[Value.string (chS l k)] 9) none)) hn g3
        have N3 := hn.moved (grow_none hg (World.grownBy_alloc wr (.cells #[Value.string (chS l k)] 9) none)).size mv3
        go_wp2
        go_roundw
        case rel => exact ⟨k + 1, by rw [HRE.out], by omega, by rw [cnt_step, List.map_map]; exact o3, N3, X3⟩
        case measure => show 0 < t.size; omega
set_option maxRecDepth 100000 in
theorem JoinC_any (v : Value) (l : List ByteArray) (w : World) (hr : RowAt w v (l.map Value.string)) (hc : CapOk v) (hl : l.length ≤ 1000000) (hb : (allB l).length ≤ 100000000) :
    Calls Tryd.prog 42 #[v] w fun e w' => e = .returned (.string ⟨(allB l).toArray⟩) ∧ w.grownBy w' none := by
  obtain ⟨p, c, rfl⟩ := row_form hr
  have hcap := hc _ _ _ rfl
  have HJ : Calls Tryd.prog 31 #[.slice p l.length c, .string ⟨#[]⟩] w fun e w' => e = .returned (.string ⟨(allB l).toArray⟩) ∧ w.grownBy w' none := by
    cases hll : l with
    | nil =>
      refine (Tryd.strings_Join_none p c ⟨#[]⟩ w).mono ?_
      rintro e w' ⟨rfl, rfl⟩
      exact ⟨rfl, grow_refl _ _⟩
    | cons x xs =>
      rw [← hll]
      have hpos : 0 < l.length := by rw [hll]; simp
      obtain ⟨bb, off, rfl, _, hbb⟩ := row_string hr rfl hpos
      refine (Tryd.strings_Join bb off c l ⟨#[]⟩ w (fun j x hj => ?_) hbb (by omega) hcap (by rw [join_all]; omega)).mono ?_
      · have hjl : j < l.length := (List.getElem?_eq_some_iff.1 hj).1
        obtain ⟨b2, o2, e2, hc2, _⟩ := row_string hr rfl hjl
        injection e2 with e2
        injection e2 with e3 e4
        subst e3 e4
        rw [hc2, List.getD, hj]; rfl
      · rintro e w' ⟨rfl, hbel⟩
        exact ⟨by rw [join_all], none_of_below hbel⟩
  have H := Lib.hid HJ
  clear HJ
  go_enter Tryd.func42, Tryd.ntmps42
  go_wp2_with fail
  refine H.out.mono ?_
  rintro e w' ⟨rfl, g⟩
  go_wp2
  go_ret
  exact ⟨rfl, g⟩
def chT (l : List UInt8) (j m : Nat) : ByteArray := ⟨((l.drop (64 * j)).take m).toArray⟩
/-- The chunks of the first i bytes. -/
def chP (l : List UInt8) (i : Nat) : List ByteArray := (List.range (cntN i)).map fun j => chT l j (min 64 (i - 64 * j))
theorem chP_len (l : List UInt8) (i : Nat) : (chP l i).length = cntN i := by unfold chP; simp
theorem chP_get (l : List UInt8) (i j : Nat) (hj : j < cntN i) : (chP l i).getD j ⟨#[]⟩ = chT l j (min 64 (i - 64 * j)) := by
  unfold chP
  simp [List.getD, hj]
theorem chP_all (l : List UInt8) : chP l l.length = chunks l := by
  unfold chP chunks
  refine List.map_congr_left fun j hj => ?_
  unfold chT chS
  congr 1
  rw [List.mem_range] at hj
  congr 1
  apply List.take_eq_take_iff.2
  rw [List.length_drop]; omega
theorem take_one (l : List UInt8) (i : Nat) (hi : i < l.length) : (l.drop i).take 1 = [l.getD i 0] := by
  have h := List.drop_eq_getElem_cons hi
  obtain ⟨m, hm⟩ : ∃ m, m = l.drop i := ⟨_, rfl⟩
  rw [← hm] at h ⊢
  rw [h, List.getD, List.getElem?_eq_getElem hi]
  rfl
theorem chP_new (l : List UInt8) (i : Nat) (hi : i < l.length) (h : i % 64 = 0) : chP l (i + 1) = chP l i ++ [⟨#[l.getD i 0]⟩] := by
  unfold chP
  have e1 : cntN (i + 1) = cntN i + 1 := by unfold cntN; omega
  rw [e1, List.range_succ, List.map_append]
  congr 1
  · refine List.map_congr_left fun j hj => ?_
    rw [List.mem_range] at hj
    unfold cntN at hj
    rw [show min 64 (i + 1 - 64 * j) = min 64 (i - 64 * j) by omega]
  · simp only [List.map_cons, List.map_nil]
    congr 1
    have e2 : cntN i * 64 = i := by unfold cntN; omega
    unfold chT
    congr 1
    rw [show 64 * cntN i = i by omega, show min 64 (i + 1 - i) = 1 by omega, take_one l i hi]
theorem chT_size (l : List UInt8) (j m : Nat) : (chT l j m).size ≤ m := by
  unfold chT
  show (List.take m (List.drop (64 * j) l)).toArray.size ≤ m
  rw [List.size_toArray]
  exact List.length_take_le _ _
theorem chT_more (l : List UInt8) (i : Nat) (hi : i < l.length) :
    chT l (i / 64) (min 64 (i - 64 * (i / 64)) + 1) = ⟨(chT l (i / 64) (min 64 (i - 64 * (i / 64)))).data ++ #[l.getD i 0]⟩ := by
  apply ByteArray.ext
  apply Array.ext'
  unfold chT
  have hlt : min 64 (i - 64 * (i / 64)) < (l.drop (64 * (i / 64))).length := by rw [List.length_drop]; omega
  rw [Array.toList_append]
  simp only []
  rw [List.take_succ_eq_append_getElem hlt, List.getElem_drop]
  have e2 : 64 * (i / 64) + min 64 (i - 64 * (i / 64)) = i := by omega
  congr 1
  rw [List.getD, List.getElem?_eq_getElem hi]
  simp only [e2, Option.getD_some]
theorem chP_at (l : List UInt8) (i j : Nat) : (chP l i)[j]? = if j < cntN i then some (chT l j (min 64 (i - 64 * j))) else none := by
  unfold chP
  rw [List.getElem?_map]
  split
  · rename_i h; rw [List.getElem?_range h]; rfl
  · rename_i h; rw [List.getElem?_eq_none (by simpa using h)]; rfl
theorem chP_more (l : List UInt8) (i : Nat) (hi : i < l.length) (h : i % 64 ≠ 0) :
    chP l (i + 1) = (chP l i).set (i / 64) ⟨((chP l i).getD (i / 64) ⟨#[]⟩).data ++ #[l.getD i 0]⟩ := by
  have hm : i / 64 < cntN i := by unfold cntN; omega
  have e1 : cntN (i + 1) = cntN i := by unfold cntN; omega
  apply List.ext_getElem?
  intro j
  rw [List.getElem?_set, chP_at, chP_at, e1]
  by_cases e : i / 64 = j
  · subst e
    rw [if_pos rfl, if_pos hm, if_pos (by rw [chP_len]; exact hm), chP_get l i _ hm, ← chT_more l i hi]
    rw [show min 64 (i + 1 - 64 * (i / 64)) = min 64 (i - 64 * (i / 64)) + 1 by omega]
  · rw [if_neg e]
    split
    · rename_i h1
      unfold cntN at h1
      rw [show min 64 (i + 1 - 64 * j) = min 64 (i - 64 * j) by omega]
    · rfl
theorem own_at {w : World} {e : TypeId} {n : Nat} {v : Value} {xs : List Value} (h : w.ownsRow 0 e 1 v n xs) {j : Nat} (hj : j < n) :
    ∃ g cap, v = .slice (some ⟨g, 0, none⟩) n cap ∧ w.cell? ⟨g, j, none⟩ = some (xs.getD j undef) ∧ w.frozen? ⟨g, j, none⟩ = false ∧ n ≤ cap := by
  have hl := h.1
  rcases h.2 with ⟨rfl, hn⟩ | ⟨g, cap, cur, rfl, _, hh, h1, h2, h3, h4⟩
  · omega
  · refine ⟨g, cap, rfl, ?_, by simp [World.frozen?, hh], h1⟩
    have := h.cells (g := g) rfl j (xs.getD j undef) (by rw [List.getD, List.getElem?_eq_getElem (by omega)]; rfl)
    have e : (⟨g, 0, none⟩ : Addr).add j = ⟨g, j, none⟩ := by unfold Addr.add; split <;> simp_all
    rw [e] at this; exact this
theorem one_byte (s : ByteArray) (i : Nat) (hi : i < s.size) : s.extract i (i + 1) = ⟨#[s.data.toList.getD i 0]⟩ := by
  apply ByteArray.ext
  apply Array.ext'
  have hl : i < s.data.toList.length := by rw [Array.length_toList]; exact hi
  simp
  have := take_one s.data.toList i hl
  rw [List.getD] at this
  simpa [List.take_drop, Nat.add_comm] using this
theorem set_lastC (l : List ByteArray) (M : Nat) (h : l.length = M) (a b : Value) : (l.map Value.string ++ [a]).set M b = l.map Value.string ++ [b] := by
  have h2 : (l.map Value.string).length = M := by rw [List.length_map, h]
  generalize l.map Value.string = m at h2
  subst h2
  simp
def refCutAt (s : ByteArray) (w0 : World) (i : Nat) (v : Value) (w : World) : Prop :=
  w.ownsRow 0 9 1 v (cntN i) ((chP s.data.toList i).map Value.string) ∧ NewBlk w0 v ∧ w0.grownBy w none
set_option maxRecDepth 100000 in
set_option maxHeartbeats 1000000 in
theorem refCut_any (s : ByteArray) (w : World) (hs : s.size ≤ 1000000) :
    Calls Tryd.prog 40 #[.string s] w (TextsAt w (chunks s.data.toList)) := by
  obtain ⟨i0, hi, hz0, hz1, hz2⟩ := info_parts Tryd.info07_string
  have hsi : (s.size : Int) ≤ 1000000 := by omega
  have hln : s.data.toList.length = s.size := by rw [Array.length_toList]; rfl
  have HLN := Lib.hid hln
  have t0 : refCutAt s w 0 (.slice none 0 0) w := ⟨World.ownsRow_nil _ _ _ _, newblk_nil _, grow_refl _ _⟩
  clear hln
  go_enter Tryd.func40, Tryd.ntmps40
  go_wp2
  go_loopw [4, 3] (fun q v wr => ∃ i : Nat, q = .int .i64 i ∧ i ≤ s.size ∧ refCutAt s w i v wr) (fun q _ _ => s.size - (intOf q).toNat)
  case atStart => exact ⟨0, rfl, Nat.zero_le _, t0⟩
  case round =>
    obtain ⟨i, rfl, hi2, ho, hn, hg⟩ := hrel
    clear t0
    by_cases hlt : i < s.size
    · have hii : (i : Int) < s.size := by omega
      have hi0 : (0 : Int) ≤ i := by omega
      have hb1 := one_byte s i hlt
      obtain ⟨x, hx⟩ : ∃ x, x = s.data.toList.getD i 0 := ⟨_, rfl⟩
      rw [← hx] at hb1
      have HX := Lib.hid hx
      clear hx
      have hcn : cntN i ≤ 20000 := by unfold cntN; omega
      by_cases hm : i % 64 = 0
      · have hmi : ((i : Int) % 64 == 0) = true := by rw [beq_iff_eq]; omega
        have HP := Lib.hid (chP_new s.data.toList i (by rw [HLN.out]; exact hlt) hm)
        go_wp2_with (at_builtin; refine wpList_append_row _ rfl _ _ 22 rfl 9 i0 (.string ⟨#[]⟩) 16 Tryd.underlying22 hi hz0 hz1 hz2 rfl _ _ _ rfl (ho.alloc _) _ [Value.string ⟨#[]⟩] rfl (RowAt.lit wr [Value.string ⟨#[]⟩] _ _ _ rfl) (ones_str [⟨#[]⟩]) (by show cntN i + 1 ≤ 2^63-1; omega) (by show (cntN i + 1) * 16 ≤ _; omega) ?_)
        intro v3 w3 o3 g3 mv3
        have X3 := grow_newblk (grow_none hg (World.grownBy_alloc wr (.cells #[Value.string ⟨#[]⟩] 9) none)) hn g3
        have N3 := hn.moved (grow_none hg (World.grownBy_alloc wr (.cells #[Value.string ⟨#[]⟩] 9) none)).size mv3
        obtain ⟨M, hM⟩ : ∃ M, M = cntN i := ⟨_, rfl⟩
        have hM2 : cntN (i + 1) = M + 1 := by rw [hM]; unfold cntN; omega
        have hM3 : (M : Int) ≤ 20000 := by omega
        have hw1 : IntKind.i64.wrap (M : Int) = M := wrapI (by omega) (by omega)
        have hw2 : IntKind.i64.wrap ((i : Int) + 1) = (i : Int) + 1 := wrapI (by omega) (by omega)
        have hw3 : ((i : Int) + 1).toNat = i + 1 := by omega
        have hw4 : (i : Int) + 1 ≤ s.size := by omega
        have hw6 : (M : Int) < (M : Int) + 1 := by omega
        have hw7 : (0 : Int) ≤ M := by omega
        have hw8 : (M : Int) < ((M + 1 : Nat) : Int) := by omega
        have hw5 : (i : Int) ≤ (i : Int) + 1 := by omega
        clear hm
        rw [← hM] at o3
        have hlen : (chP s.data.toList i).length = M := by rw [chP_len, hM]
        obtain ⟨g, cap, rfl, hc0, hf0, hcap⟩ := own_at o3 (show M < M + 1 by omega)
        have hc1 : w3.cell? ⟨g, M, none⟩ = some (.string ⟨#[]⟩) := by
          rw [hc0, List.getD, List.getElem?_append_right (by rw [List.length_map, hlen]; exact Nat.le_refl _), List.length_map, hlen]; simp
        have hcell : ∀ W, w3.grownBy W none → W.cell? ⟨g, M, none⟩ = some (.string ⟨#[]⟩) := fun W hW => by
          exact hW.cell hc1 (by simp)
        have hfro : ∀ W, w3.grownBy W none → W.frozen? ⟨g, M, none⟩ = false := fun W hW => by
          have := hW.block g (World.block_lt_of_cell? _ _ hc1) (by simp)
          unfold World.frozen? at hf0 ⊢
          rw [this]; exact hf0
        have HO := Lib.hid o3
        have HM := Lib.hid hM
        clear hM o3 hc0 ho mv3 g3
        go_wp2
        go_upto_region 7 with (fail)
        refine wp_region_tail _ (fun W => w3.grownBy W none) (fun W W' => W.grownBy W' none) rfl (by kernel_rfl) (by kernel_rfl) (by kernel_rfl) (fun W => grow_refl W none) (grow_drawn (grow_refl _ _)) ?_
        repeat (refine wpRel_det ?_; apply Exists.intro; refine ⟨fun W hI => ?_, ?_⟩; focus (have hcW := hcell W hI; go_simp; first | exact ⟨rfl, grow_refl _ _⟩))
        refine wpRel_nil ?_
        intro w' hI
        have hcW := hcell w' hI
        have hfW := hfro w' hI
        have hst := ((HO.out.kept hI (Classical.em _)).stored M (.string ⟨#[x]⟩)).1
        rw [show ((chP s.data.toList i).map Value.string ++ [Value.string ⟨#[]⟩]).set M (.string ⟨#[x]⟩) = (chP s.data.toList (i + 1)).map Value.string by
          rw [HP.out, ← HX.out, set_lastC _ M hlen, List.map_append]; rfl] at hst
        go_simp
        go_wp2
        go_roundw
        case rel =>
          exact ⟨i + 1, by go_num, by omega, by rw [hM2]; exact hst, N3, grow_setnew (grow_none X3 hI) (N3 g rfl) _⟩
        case measure => simp [intOf]; omega
      · have hmi : ((i : Int) % 64 == 0) = false := by rw [beq_eq_false_iff_ne]; omega
        obtain ⟨M, hM⟩ : ∃ M, M = i / 64 := ⟨_, rfl⟩
        have hM1 : cntN i = M + 1 := by rw [hM]; unfold cntN; omega
        have hM2 : cntN (i + 1) = M + 1 := by rw [hM]; unfold cntN; omega
        have hM3 : (M : Int) ≤ 20000 := by omega
        have hw1 : IntKind.i64.wrap (M : Int) = M := wrapI (by omega) (by omega)
        have hw2 : IntKind.i64.wrap ((i : Int) + 1) = (i : Int) + 1 := wrapI (by omega) (by omega)
        have hw3 : ((i : Int) + 1).toNat = i + 1 := by omega
        have hw4 : (i : Int) + 1 ≤ s.size := by omega
        have hw6 : (M : Int) < (M : Int) + 1 := by omega
        have hw7 : (0 : Int) ≤ M := by omega
        have hw8 : (M : Int) < ((M + 1 : Nat) : Int) := by omega
        have hw5 : (i : Int) ≤ (i : Int) + 1 := by omega
        rw [hM1] at ho
        have hlen : (chP s.data.toList i).length = M + 1 := by rw [chP_len, hM1]
        obtain ⟨g, cap, rfl, hc0, hf0, hcap⟩ := own_at ho (show M < M + 1 by omega)
        obtain ⟨y, hy⟩ : ∃ y, y = (chP s.data.toList i).getD (i / 64) ⟨#[]⟩ := ⟨_, rfl⟩
        have hc1 : wr.cell? ⟨g, M, none⟩ = some (.string y) := by
          rw [hc0, List.getD, List.getElem?_map, hy, ← hM]
          have hlt : M < (chP s.data.toList i).length := by omega
          simp [List.getD, List.getElem?_eq_getElem hlt]
        have hcell : ∀ W, wr.grownBy W none → W.cell? ⟨g, M, none⟩ = some (.string y) := fun W hW => by
          exact hW.cell hc1 (by simp)
        have hfro : ∀ W, wr.grownBy W none → W.frozen? ⟨g, M, none⟩ = false := fun W hW => by
          have := hW.block g (World.block_lt_of_cell? _ _ hc1) (by simp)
          unfold World.frozen? at hf0 ⊢
          rw [this]; exact hf0
        have hyb : (y.size : Int) ≤ 8388608 := by
          rw [hy, chP_get _ _ _ (by rw [hM1, ← hM]; exact Nat.lt_succ_self _)]
          have := chT_size s.data.toList (i / 64) (min 64 (i - 64 * (i / 64)))
          omega
        have hxb : (((⟨#[x]⟩ : ByteArray).size : Nat) : Int) ≤ 8388608 := by show (((1 : Nat) : Int)) ≤ _; omega
        have hyx : ¬ (9223372036854775807 < y.size + (⟨#[x]⟩ : ByteArray).size) := by omega
        have hyx1 : ¬ (9223372036854775807 < y.size + 1) := by omega
        have hyx2 : y.size + 1 ≤ 9223372036854775807 := by omega
        have hyx3 : y.size + (⟨#[x]⟩ : ByteArray).size ≤ 9223372036854775807 := by omega
        have hys : (⟨#[x]⟩ : ByteArray).size = 1 := rfl
        have HP := Lib.hid (chP_more s.data.toList i (by rw [HLN.out]; exact hlt) hm)
        have HO := Lib.hid ho
        have HY := Lib.hid hy
        have HM := Lib.hid hM
        clear ho hc0 hm hy hM
        go_wp2
        go_upto_region 7 with (fail)
        refine wp_region_tail _ (fun W => wr.grownBy W none) (fun W W' => W.grownBy W' none) rfl (by kernel_rfl) (by kernel_rfl) (by kernel_rfl) (fun W => grow_refl W none) (grow_drawn (grow_refl _ _)) ?_
        repeat (refine wpRel_det ?_; apply Exists.intro; refine ⟨fun W hI => ?_, ?_⟩; focus (have hcW := hcell W hI; go_simp; first | exact ⟨rfl, grow_refl _ _⟩))
        refine wpRel_nil ?_
        intro w' hI
        have hcW := hcell w' hI
        have hfW := hfro w' hI
        have hst := ((HO.out.kept hI (Classical.em _)).stored M (.string (y ++ ⟨#[x]⟩))).1
        rw [show ((chP s.data.toList i).map Value.string).set M (.string (y ++ ⟨#[x]⟩)) = (chP s.data.toList (i + 1)).map Value.string by
          rw [HP.out, ← HX.out, ← HY.out, ← HM.out, List.map_set]
          congr 2
          apply ByteArray.ext
          apply Array.ext'
          simp] at hst
        go_simp
        go_wp2
        go_roundw
        case rel =>
          exact ⟨i + 1, by go_num, by omega, by rw [hM2]; exact hst, hn, grow_setnew (grow_none hg hI) (hn g rfl) _⟩
        case measure => simp [intOf]; omega
    · obtain rfl : i = s.size := by omega
      have HR := Lib.hid (RowAt.of_own ho)
      have HCAP := Lib.hid (own_cap ho)
      have HF : Hid (chP s.data.toList s.size = chunks s.data.toList) := by show _ = _; rw [← HLN.out, chP_all]
      clear ho
      go_wp2
      go_ret
      exact ⟨_, rfl, by rw [← HF.out]; exact HR.out, hn, hg, HCAP.out⟩
theorem Tryd.info07_uint8 : (Tryd.prog.info? 5).map (fun i => (i.zero, i.size, i.bytes)) = some (some (.int .u8 0), 1, 1) := by kernel_rfl
theorem allB_snocC (l : List ByteArray) (k : Nat) (hk : k < l.length) : allB (l.take (k + 1)) = allB (l.take k) ++ (l.getD k ⟨#[]⟩).data.toList := by
  unfold allB
  rw [List.take_succ_eq_append_getElem hk, List.flatMap_append, List.getD, List.getElem?_eq_getElem hk]
  simp only [List.flatMap_cons, List.flatMap_nil, List.append_nil, Option.getD_some]
theorem allB_take_le (l : List ByteArray) (k : Nat) : (allB (l.take k)).length ≤ (allB l).length := by
  have h : allB l = allB (l.take k) ++ allB (l.drop k) := by
    unfold allB
    rw [← List.flatMap_append, List.take_append_drop]
  rw [h, List.length_append]; omega
set_option maxRecDepth 100000 in
set_option maxHeartbeats 400000 in
theorem refJoin_any (v : Value) (l : List ByteArray) (w : World) (hr : RowAt w v (l.map Value.string)) (hl : l.length ≤ 1000000) (hb : (allB l).length ≤ 100000000) :
    Calls Tryd.prog 43 #[v] w fun e w' => e = .returned (.string ⟨(allB l).toArray⟩) ∧ w.grownBy w' none := by
  obtain ⟨i0, hi, hz0, hz1, hz2⟩ := info_parts Tryd.info07_uint8
  obtain ⟨p, c, rfl⟩ := row_form hr
  have hli : (l.length : Int) ≤ 1000000 := by omega
  have hnil : allB ([] : List ByteArray) = [] := rfl
  go_enter Tryd.func43, Tryd.ntmps43
  go_wp2
  go_loopw [3, 4] (fun out i wr => ∃ k : Nat, k ≤ l.length ∧ i = .int .i64 k ∧ wr.ownsRow 0 5 1 out (allB (l.take k)).length ((allB (l.take k)).map c8) ∧ w.grownBy wr none ∧ NewBlk w out) (fun _ i _ => l.length - (intOf i).toNat)
  case atStart => exact ⟨0, Nat.zero_le _, rfl, by simpa [hnil] using own_empty w 5 1, World.grownBy_alloc _ _ _, newblk_at _ _ _ _ (Nat.le_refl _) _⟩
  case round =>
    obtain ⟨k, hk, rfl, ho, hg, hn⟩ := hrel
    by_cases hlt : k < l.length
    · obtain ⟨b1, o1, rfl, c1, _⟩ := row_string (hr.kept hg) rfl hlt
      have HS := Lib.hid (allB_snocC l k hlt)
      have hle := allB_take_le l (k + 1)
      rw [HS.out, List.length_append] at hle
      obtain ⟨x, hx⟩ : ∃ x, x = l.getD k ⟨#[]⟩ := ⟨_, rfl⟩
      rw [← hx] at c1 hle
      have HX := Lib.hid hx
      have hki : (k : Int) < l.length := by omega
      have hxs : x.data.toList.length = x.size := by rw [Array.length_toList]; rfl
      clear hx
      go_wp2_with (at_builtin; refine wpList_append_str _ rfl _ _ 52 9 rfl 5 i0 Tryd.underlying52 Tryd.underlying9 hi hz0 hz1 hz2 _ _ _ rfl ho _ rfl (by show _ ≤ 2^63-1; omega) (by omega) ?_)
      intro v3 w3 ho3 hg3 hm3
      go_wp2
      go_roundw
      case rel =>
        refine ⟨k + 1, by omega, by go_num, ?_, grow_newblk hg hn hg3, hn.moved hg.size hm3⟩
        rw [HS.out, ← HX.out, List.length_append, hxs]
        rw [List.map_append]
        exact ho3
      case measure => simp [intOf]; omega
    · obtain rfl : k = l.length := by omega
      have hT : l.take l.length = l := List.take_length
      rw [hT] at ho
      have hconv := run_str_buf (P := Tryd.prog) wr Tryd.underlying52 Tryd.underlying5 Tryd.underlying9 ho
      go_wp2
      go_ret
      exact ⟨rfl, hg⟩
/-- May it be a sheet? -/
def okS (n : Int) (l : List ByteArray) : Bool := decide (0 ≤ n) && decide (n ≤ 512) && decide ((l.length : Int) = cntI n) && l.all (fun h => decide (h.size = 32))
def ckN (n : Int) (l : List ByteArray) : Int := if okS n l then 0 else 3
/-- Block b is a sheet. -/
def ShB (w : World) (b : Nat) (n : Int) (v : Value) : Prop := w.heap[b]? = some (.cells #[.int .i64 n, v] 30 (0, 0))
section
variable {w w' : World} {b : Nat} {n : Int} {v : Value}
theorem ShB.c0 (h : ShB w b n v) : w.cell? ⟨b, 0, none⟩ = some (.int .i64 n) := by unfold ShB at h; simp [World.cell?, h]
theorem ShB.c1 (h : ShB w b n v) : w.cell? ⟨b, 1, none⟩ = some v := by unfold ShB at h; simp [World.cell?, h]
theorem ShB.fr (h : ShB w b n v) (o : Nat) : w.frozen? ⟨b, o, none⟩ = false := by unfold ShB at h; simp [World.frozen?, h]
theorem ShB.lt (h : ShB w b n v) : b < w.heap.size := (Array.getElem?_eq_some_iff.1 h).1
theorem ShB.kept (h : ShB w b n v) {r : Option Nat} (g : w.grownBy w' r) (hr : r ≠ some b) : ShB w' b n v := by
  unfold ShB at h ⊢; rw [g.block b (Array.getElem?_eq_some_iff.1 h).1 (fun e => hr e.symm)]; exact h
theorem ShB.keep (h : ShB w b n v) (g : w.grownBy w' none) : ShB w' b n v := h.kept g (by simp)
theorem ShB.new (w : World) (n : Int) (v : Value) : ShB (w.alloc (.cells #[.int .i64 n, v] 30)) w.heap.size n v := heap_alloc_new w _
theorem ShB.set1 (h : ShB w b n v) (v' : Value) : ShB (w.setCell ⟨b, 1, none⟩ v') b n v' := by
  unfold ShB at h ⊢; simp [World.setCell, Array.getElem?_modify, h]
end
theorem rel_of {f : FuncId} {args : Array Value} {u : Value} {w0 w : World} (h : Calls Tryd.prog f args w fun e w' => e = .returned u ∧ w.grownBy w' none) (hI : w0.grownBy w none) :
    Calls Tryd.prog f args w fun e w' => ∃ x, e = .returned x ∧ x = u ∧ w0.grownBy w' none ∧ w.grownBy w' none :=
  h.mono fun e w' ⟨he, g⟩ => ⟨_, he, rfl, grow_none hI g, g⟩
theorem rel_eq {f : FuncId} {args : Array Value} {u : Value} {w0 w : World} (h : Calls Tryd.prog f args w fun e w' => e = .returned u ∧ w = w') (hI : w0.grownBy w none) :
    Calls Tryd.prog f args w fun e w' => ∃ x, e = .returned x ∧ x = u ∧ w0.grownBy w' none ∧ w.grownBy w' none :=
  h.mono fun e w' ⟨he, g⟩ => ⟨_, he, rfl, g ▸ hI, g ▸ grow_refl _ _⟩
theorem CountC_rel {w0 : World} (n : Int) (w : World) (hn : -9223372036854775808 ≤ n ∧ n ≤ 9223372036854775807) (hI : w0.grownBy w none) :
    Calls Tryd.prog 44 #[.int .i64 n] w fun e w' => ∃ x, e = .returned x ∧ x = .int .i64 (cntI n) ∧ w0.grownBy w' none ∧ w.grownBy w' none := rel_eq (CountC_any n w hn) hI
theorem refCountC_rel {w0 : World} (n : Int) (w : World) (hn : -9223372036854775808 ≤ n ∧ n ≤ 9223372036854775807) (hI : w0.grownBy w none) :
    Calls Tryd.prog 45 #[.int .i64 n] w fun e w' => ∃ x, e = .returned x ∧ x = .int .i64 (cntI n) ∧ w0.grownBy w' none ∧ w.grownBy w' none := rel_eq (refCountC_any n w hn) hI
/-- The first k names are as long as they are to be. -/
def okTo (l : List ByteArray) (k : Nat) : Bool := (l.take k).all (fun h => decide (h.size = 32))
theorem okTo_all (l : List ByteArray) : okTo l l.length = l.all (fun h => decide (h.size = 32)) := by unfold okTo; rw [List.take_length]
theorem okTo_step (l : List ByteArray) (k : Nat) (h : k < l.length) : okTo l (k + 1) = (okTo l k && decide ((l.getD k ⟨#[]⟩).size = 32)) := by
  unfold okTo
  rw [List.take_succ_eq_append_getElem h, List.all_append, List.getD, List.getElem?_eq_getElem h]
  simp
theorem not_ok {l : List ByteArray} {k : Nat} (h : k < l.length) (e : (l.getD k ⟨#[]⟩).size ≠ 32) : l.all (fun h => decide (h.size = 32)) = false := by
  rw [List.all_eq_false]
  refine ⟨l[k], List.getElem_mem h, ?_⟩
  rw [List.getD, List.getElem?_eq_getElem h] at e
  simpa using e
set_option maxRecDepth 100000 in
set_option maxHeartbeats 2000000 in
theorem Check_any (n : Int) (p : Option Addr) (c : Nat) (l : List ByteArray) (w : World) (hr : RowAt w (.slice p l.length c) (l.map Value.string)) (hn : -9223372036854775808 ≤ n ∧ n ≤ 9223372036854775807) (hl : l.length ≤ maxLen) :
    Calls Tryd.prog 22 #[.agg #[.int .i64 n, .slice p l.length c]] w fun e w' => e = .returned (.int .i64 (ckN n l)) ∧ w.grownBy w' none := by
  have HN := Lib.hid hn
  unfold maxLen at hl
  have hli : (l.length : Int) ≤ 9223372036854775807 := by omega
  obtain ⟨b, hb⟩ : ∃ b, b = w.heap.size := ⟨_, rfl⟩
  have gA := World.grownBy_alloc w (.cells #[.int .i64 n, .slice p l.length c] 30) none
  have sA := ShB.new w n (.slice p l.length c)
  rw [← hb] at sA
  have SA := Lib.hid sA
  have RA := Lib.hid (hr.kept gA)
  have GA := Lib.hid gA
  have HB := Lib.hid hb
  clear hn hl hb gA sA hr
  go_enter Tryd.func22, Tryd.ntmps22
  go_wp2
  rw [← HB.out]
  by_cases h0 : n < 0
  · have e0 : decide (n < 0) = true := decide_eq_true h0
    have HE : Hid (ckN n l = 3) := by show _ = _; unfold ckN okS; rw [decide_eq_false (by omega : ¬ 0 ≤ n)]; rfl
    refine wp_region_rel (fun W => World.grownBy (w.alloc (.cells #[.int .i64 n, .slice p l.length c] 30)) W none) (fun W W' => W.grownBy W' none) (by kernel_rfl) (by kernel_rfl) (fun W => grow_refl W none) (grow_drawn (grow_refl _ _)) ?_
    repeat (refine wpRel_det ?_; apply Exists.intro; refine ⟨fun W hI => ?_, ?_⟩; focus (have x0 := (SA.out.keep hI).c0; have x1 := (SA.out.keep hI).c1; go_simp; first | exact ⟨rfl, grow_refl _ _⟩ | exact ⟨rfl, hI, grow_refl _ _⟩ | exact rfl | exact CountC_rel n W HN.out hI))
    refine wpRel_nil ?_
    intro w' hI
    go_simp
    go_wp2
    go_ret
    exact ⟨by rw [HE.out]; rfl, grow_none GA.out hI⟩
  have e0 : decide (n < 0) = false := decide_eq_false h0
  by_cases h1 : 512 < n
  · have e1 : decide (512 < n) = true := decide_eq_true h1
    have HE : Hid (ckN n l = 3) := by show _ = _; unfold ckN okS; rw [decide_eq_false (by omega : ¬ n ≤ 512), Bool.and_false]; rfl
    refine wp_region_rel (fun W => World.grownBy (w.alloc (.cells #[.int .i64 n, .slice p l.length c] 30)) W none) (fun W W' => W.grownBy W' none) (by kernel_rfl) (by kernel_rfl) (fun W => grow_refl W none) (grow_drawn (grow_refl _ _)) ?_
    repeat (refine wpRel_det ?_; apply Exists.intro; refine ⟨fun W hI => ?_, ?_⟩; focus (have x0 := (SA.out.keep hI).c0; have x1 := (SA.out.keep hI).c1; go_simp; first | exact ⟨rfl, grow_refl _ _⟩ | exact ⟨rfl, hI, grow_refl _ _⟩ | exact rfl | exact CountC_rel n W HN.out hI))
    refine wpRel_nil ?_
    intro w' hI
    go_simp
    go_wp2
    go_ret
    exact ⟨by rw [HE.out]; rfl, grow_none GA.out hI⟩
  have e1 : decide (512 < n) = false := decide_eq_false h1
  by_cases h2 : (l.length : Int) = cntI n
  case neg =>
    have e2 : ((l.length : Int) == cntI n) = false := beq_eq_false_iff_ne.2 h2
    have HE : Hid (ckN n l = 3) := by show _ = _; unfold ckN okS; rw [decide_eq_false h2, Bool.and_false, Bool.false_and]; rfl
    refine wp_region_rel (fun W => World.grownBy (w.alloc (.cells #[.int .i64 n, .slice p l.length c] 30)) W none) (fun W W' => W.grownBy W' none) (by kernel_rfl) (by kernel_rfl) (fun W => grow_refl W none) (grow_drawn (grow_refl _ _)) ?_
    repeat (refine wpRel_det ?_; apply Exists.intro; refine ⟨fun W hI => ?_, ?_⟩; focus (have x0 := (SA.out.keep hI).c0; have x1 := (SA.out.keep hI).c1; go_simp; first | exact ⟨rfl, grow_refl _ _⟩ | exact ⟨rfl, hI, grow_refl _ _⟩ | exact rfl | exact CountC_rel n W HN.out hI))
    refine wpRel_nil ?_
    intro w' hI
    go_simp
    go_wp2
    go_ret
    exact ⟨by rw [HE.out]; rfl, grow_none GA.out hI⟩
  have e2 : ((l.length : Int) == cntI n) = true := beq_iff_eq.2 h2
  have HE : Hid (ckN n l = if l.all (fun h => decide (h.size = 32)) then 0 else 3) := by
    show _ = _
    unfold ckN okS
    rw [decide_eq_true h2, decide_eq_true (by omega : 0 ≤ n), decide_eq_true (by omega : n ≤ 512)]
    simp
  refine wp_region_rel (fun W => World.grownBy (w.alloc (.cells #[.int .i64 n, .slice p l.length c] 30)) W none) (fun W W' => W.grownBy W' none) (by kernel_rfl) (by kernel_rfl) (fun W => grow_refl W none) (grow_drawn (grow_refl _ _)) ?_
  repeat (refine wpRel_det ?_; apply Exists.intro; refine ⟨fun W hI => ?_, ?_⟩; focus (have x0 := (SA.out.keep hI).c0; have x1 := (SA.out.keep hI).c1; go_simp; first | exact ⟨rfl, grow_refl _ _⟩ | exact ⟨rfl, hI, grow_refl _ _⟩ | exact rfl | exact CountC_rel n W HN.out hI))
  refine wpRel_nil ?_
  intro w' hI
  have SB := Lib.hid (SA.out.keep hI)
  have RB := Lib.hid (RA.out.kept hI)
  have GB := Lib.hid (grow_none GA.out hI)
  have y1 := SB.out.c1
  clear h0 h1 h2 hI
  go_simp
  go_wp2
  go_loop [25, 4] (fun i h => ∃ k : Nat, k ≤ l.length ∧ i = .int .i64 k ∧ okTo l k = true) (fun i _ => l.length - (intOf i).toNat)
  case atStart => exact ⟨0, Nat.zero_le _, rfl, by unfold okTo; simp⟩
  case round =>
    obtain ⟨k, hk, rfl, ho⟩ := hrel
    by_cases hlt : k < l.length
    · obtain ⟨bb, off, rfl, hcell, hbb⟩ := row_string RB.out rfl hlt
      have HST := Lib.hid (okTo_step l k hlt)
      have HNO := Lib.hid (fun e => not_ok (l := l) hlt e)
      obtain ⟨x, hx⟩ : ∃ x, x = l.getD k ⟨#[]⟩ := ⟨_, rfl⟩
      rw [← hx] at hcell HST HNO
      have hki : (k : Int) < l.length := by omega
      by_cases h32 : x.size = 32
      · have e32 : ((x.size : Int) == 32) = true := by rw [beq_iff_eq]; omega
        have HO := Lib.hid ho
        clear hx ho
        go_wp2
        go_round
        case rel => exact ⟨k + 1, by omega, by go_num, by rw [HST.out, HO.out, decide_eq_true h32]; rfl⟩
        case measure => simp [intOf]; omega
      · have e32 : ((x.size : Int) == 32) = false := by rw [beq_eq_false_iff_ne]; omega
        have HF : Hid (ckN n l = 3) := by show _ = _; rw [HE.out, HNO.out h32]; rfl
        clear hx ho
        go_wp2
        go_ret
        exact ⟨by rw [HF.out]; rfl, GB.out⟩
    · have hki : (l.length : Int) ≤ (k : Int) := by omega
      have HF : Hid (ckN n l = 0) := by
        show _ = _
        have e : k = l.length := by omega
        rw [HE.out, ← okTo_all, ← e, ho]; rfl
      clear ho hlt
      go_wp2
      go_ret
      exact ⟨by rw [HF.out]; rfl, GB.out⟩
set_option maxRecDepth 100000 in
set_option maxHeartbeats 2000000 in
theorem refRight_any (n : Int) (p : Option Addr) (c : Nat) (l : List ByteArray) (w : World) (hr : RowAt w (.slice p l.length c) (l.map Value.string)) (hn : -9223372036854775808 ≤ n ∧ n ≤ 9223372036854775807) (hl : l.length ≤ maxLen) :
    Calls Tryd.prog 23 #[.agg #[.int .i64 n, .slice p l.length c]] w fun e w' => e = .returned (.bool (okS n l)) ∧ w.grownBy w' none := by
  have HN := Lib.hid hn
  unfold maxLen at hl
  have hli : (l.length : Int) ≤ 9223372036854775807 := by omega
  obtain ⟨b, hb⟩ : ∃ b, b = w.heap.size := ⟨_, rfl⟩
  have gA := World.grownBy_alloc w (.cells #[.int .i64 n, .slice p l.length c] 30) none
  have sA := ShB.new w n (.slice p l.length c)
  rw [← hb] at sA
  have SA := Lib.hid sA
  have RA := Lib.hid (hr.kept gA)
  have GA := Lib.hid gA
  have HB := Lib.hid hb
  clear hn hl hb gA sA hr
  go_enter Tryd.func23, Tryd.ntmps23
  go_wp2
  rw [← HB.out]
  by_cases h0 : n < 0
  · have e0 : decide (n < 0) = true := decide_eq_true h0
    have HE : Hid (okS n l = false) := by show _ = _; unfold okS; rw [decide_eq_false (by omega : ¬ 0 ≤ n)]; rfl
    refine wp_region_rel (fun W => World.grownBy (w.alloc (.cells #[.int .i64 n, .slice p l.length c] 30)) W none) (fun W W' => W.grownBy W' none) (by kernel_rfl) (by kernel_rfl) (fun W => grow_refl W none) (grow_drawn (grow_refl _ _)) ?_
    repeat (refine wpRel_det ?_; apply Exists.intro; refine ⟨fun W hI => ?_, ?_⟩; focus (have x0 := (SA.out.keep hI).c0; have x1 := (SA.out.keep hI).c1; go_simp; first | exact ⟨rfl, grow_refl _ _⟩ | exact ⟨rfl, hI, grow_refl _ _⟩ | exact rfl | exact refCountC_rel n W HN.out hI))
    refine wpRel_nil ?_
    intro w' hI
    go_simp
    go_wp2
    go_ret
    exact ⟨by rw [HE.out]; rfl, grow_none GA.out hI⟩
  have e0 : decide (n < 0) = false := decide_eq_false h0
  by_cases h1 : 512 < n
  · have e1 : decide (512 < n) = true := decide_eq_true h1
    have HE : Hid (okS n l = false) := by show _ = _; unfold okS; rw [decide_eq_false (by omega : ¬ n ≤ 512), Bool.and_false]; rfl
    refine wp_region_rel (fun W => World.grownBy (w.alloc (.cells #[.int .i64 n, .slice p l.length c] 30)) W none) (fun W W' => W.grownBy W' none) (by kernel_rfl) (by kernel_rfl) (fun W => grow_refl W none) (grow_drawn (grow_refl _ _)) ?_
    repeat (refine wpRel_det ?_; apply Exists.intro; refine ⟨fun W hI => ?_, ?_⟩; focus (have x0 := (SA.out.keep hI).c0; have x1 := (SA.out.keep hI).c1; go_simp; first | exact ⟨rfl, grow_refl _ _⟩ | exact ⟨rfl, hI, grow_refl _ _⟩ | exact rfl | exact refCountC_rel n W HN.out hI))
    refine wpRel_nil ?_
    intro w' hI
    go_simp
    go_wp2
    go_ret
    exact ⟨by rw [HE.out]; rfl, grow_none GA.out hI⟩
  have e1 : decide (512 < n) = false := decide_eq_false h1
  by_cases h2 : (l.length : Int) = cntI n
  case neg =>
    have e2 : ((l.length : Int) == cntI n) = false := beq_eq_false_iff_ne.2 h2
    have HE : Hid (okS n l = false) := by show _ = _; unfold okS; rw [decide_eq_false h2, Bool.and_false, Bool.false_and]
    refine wp_region_rel (fun W => World.grownBy (w.alloc (.cells #[.int .i64 n, .slice p l.length c] 30)) W none) (fun W W' => W.grownBy W' none) (by kernel_rfl) (by kernel_rfl) (fun W => grow_refl W none) (grow_drawn (grow_refl _ _)) ?_
    repeat (refine wpRel_det ?_; apply Exists.intro; refine ⟨fun W hI => ?_, ?_⟩; focus (have x0 := (SA.out.keep hI).c0; have x1 := (SA.out.keep hI).c1; go_simp; first | exact ⟨rfl, grow_refl _ _⟩ | exact ⟨rfl, hI, grow_refl _ _⟩ | exact rfl | exact refCountC_rel n W HN.out hI))
    refine wpRel_nil ?_
    intro w' hI
    go_simp
    go_wp2
    go_ret
    exact ⟨by rw [HE.out]; rfl, grow_none GA.out hI⟩
  have e2 : ((l.length : Int) == cntI n) = true := beq_iff_eq.2 h2
  have HE : Hid (okS n l = l.all (fun h => decide (h.size = 32))) := by
    show _ = _
    unfold okS
    rw [decide_eq_true h2, decide_eq_true (by omega : 0 ≤ n), decide_eq_true (by omega : n ≤ 512)]
    simp
  refine wp_region_rel (fun W => World.grownBy (w.alloc (.cells #[.int .i64 n, .slice p l.length c] 30)) W none) (fun W W' => W.grownBy W' none) (by kernel_rfl) (by kernel_rfl) (fun W => grow_refl W none) (grow_drawn (grow_refl _ _)) ?_
  repeat (refine wpRel_det ?_; apply Exists.intro; refine ⟨fun W hI => ?_, ?_⟩; focus (have x0 := (SA.out.keep hI).c0; have x1 := (SA.out.keep hI).c1; go_simp; first | exact ⟨rfl, grow_refl _ _⟩ | exact ⟨rfl, hI, grow_refl _ _⟩ | exact rfl | exact refCountC_rel n W HN.out hI))
  refine wpRel_nil ?_
  intro w' hI
  have SB := Lib.hid (SA.out.keep hI)
  have RB := Lib.hid (RA.out.kept hI)
  have GB := Lib.hid (grow_none GA.out hI)
  have y1 := SB.out.c1
  clear h0 h1 h2 hI
  go_simp
  go_wp2
  go_loop [3] (fun i => ∃ k : Nat, k ≤ l.length ∧ i = .int .i64 k ∧ okTo l k = true) (fun i => l.length - (intOf i).toNat)
  case atStart => exact ⟨0, Nat.zero_le _, rfl, by unfold okTo; simp⟩
  case round =>
    obtain ⟨k, hk, rfl, ho⟩ := hrel
    by_cases hlt : k < l.length
    · obtain ⟨bb, off, rfl, hcell, hbb⟩ := row_string RB.out rfl hlt
      have HST := Lib.hid (okTo_step l k hlt)
      have HNO := Lib.hid (fun e => not_ok (l := l) hlt e)
      obtain ⟨x, hx⟩ : ∃ x, x = l.getD k ⟨#[]⟩ := ⟨_, rfl⟩
      rw [← hx] at hcell HST HNO
      have hki : (k : Int) < l.length := by omega
      by_cases h32 : x.size = 32
      · have e32 : ((x.size : Int) == 32) = true := by rw [beq_iff_eq]; omega
        have HO := Lib.hid ho
        clear hx ho
        go_wp2
        go_round
        case rel => exact ⟨k + 1, by omega, by go_num, by rw [HST.out, HO.out, decide_eq_true h32]; rfl⟩
        case measure => simp [intOf]; omega
      · have e32 : ((x.size : Int) == 32) = false := by rw [beq_eq_false_iff_ne]; omega
        have HF : Hid (okS n l = false) := by show _ = _; rw [HE.out, HNO.out h32]
        clear hx ho
        go_wp2
        go_ret
        exact ⟨by rw [HF.out]; rfl, GB.out⟩
    · have hki : (l.length : Int) ≤ (k : Int) := by omega
      have HF : Hid (okS n l = true) := by
        show _ = _
        have e : k = l.length := by omega
        rw [HE.out, ← okTo_all, ← e, ho]
      clear ho hlt
      go_wp2
      go_ret
      exact ⟨by rw [HF.out]; rfl, GB.out⟩
def hashB (s : ByteArray) : ByteArray := ⟨(shaS s).toArray⟩
theorem hashB_one (s : ByteArray) : (⟨(shaS ⟨(allB [s]).toArray⟩).toArray⟩ : ByteArray) = hashB s := by
  have e : allB [s] = s.data.toList := by unfold allB; simp
  have e2 : (⟨s.data.toList.toArray⟩ : ByteArray) = s := by apply ByteArray.ext; simp
  rw [e, e2]; rfl
def hashes (l : List ByteArray) : List ByteArray := l.map hashB
/-- A sheet that was made of bytes. -/
def Made (n : Int) (l : List ByteArray) (er : Int) (e : Ending) (w w' : World) : Prop := ∃ p c, e = .returned (.tuple #[.agg #[.int .i64 n, .slice p l.length c], .int .i64 er]) ∧ RowAt w' (.slice p l.length c) (l.map Value.string) ∧ w.grownBy w' none ∧ CapOk (.slice p l.length c)
theorem sheet_pair (w : World) (n : Int) : ShB ((w.alloc (.cells #[.int .i64 0, .slice none 0 0] 30)).alloc (.cells #[.int .i64 n, .slice none 0 0] 30)) w.heap.size 0 (.slice none 0 0) ∧
    ShB ((w.alloc (.cells #[.int .i64 0, .slice none 0 0] 30)).alloc (.cells #[.int .i64 n, .slice none 0 0] 30)) (w.heap.size + 1) n (.slice none 0 0) ∧
    w.grownBy ((w.alloc (.cells #[.int .i64 0, .slice none 0 0] 30)).alloc (.cells #[.int .i64 n, .slice none 0 0] 30)) none ∧
    ((w.alloc (.cells #[.int .i64 0, .slice none 0 0] 30)).alloc (.cells #[.int .i64 n, .slice none 0 0] 30)).heap.size = w.heap.size + 2 := by
  refine ⟨(ShB.new w 0 _).keep (World.grownBy_alloc _ _ _), ?_, grow_none (World.grownBy_alloc _ _ _) (World.grownBy_alloc _ _ _), by rw [World.size_alloc, World.size_alloc]⟩
  have := ShB.new (w.alloc (.cells #[.int .i64 0, .slice none 0 0] 30)) n (.slice none 0 0)
  rw [World.size_alloc] at this
  exact this
/-- A slice that reads so, no longer than its capacity. -/
def VC (xs : List Value) (v : Value) (W : World) : Prop := CapOk v ∧ RowAt W v xs
theorem VC.kept {xs : List Value} {v : Value} {w w' : World} (h : VC xs v w) (g : w.grownBy w' none) : VC xs v w' := ⟨h.1, h.2.kept g⟩
theorem VC.lit (W : World) (x : Value) (t : TypeId) : VC [x] (.slice (some ⟨W.heap.size, 0, none⟩) 1 1) (W.alloc (.cells #[x] t)) := ⟨capok_lit _ _, RowAt.lit W [x] t 1 1 rfl⟩
theorem Sum1_rel {w0 : World} (x : ByteArray) (v : Value) (w : World) (hx : x.size ≤ 100000000) (hv : VC [.string x] v w) (hm : Tb w0) (hI : w0.grownBy w none) :
    Calls Tryd.prog 12 #[v] w fun e w' => ∃ u, e = .returned u ∧ u = .string (hashB x) ∧ w0.grownBy w' none ∧ w.grownBy w' none :=
  (Sum_any v [x] w hv.2 hv.1 (by simp) (by unfold allB; simp; exact hx) (hm.kept hI).1 (hm.kept hI).2).mono fun e w' ⟨he, g⟩ => ⟨_, he, by rw [hashB_one], grow_none hI g, g⟩
theorem hashes_snoc (l : List ByteArray) (k : Nat) (h : k < l.length) : (hashes (l.take (k + 1))).map Value.string = (hashes (l.take k)).map Value.string ++ [Value.string (hashB l[k])] := by
  unfold hashes
  rw [List.take_succ_eq_append_getElem h, List.map_append, List.map_append]; rfl
theorem chunk_size {s : ByteArray} {x : ByteArray} (h : x ∈ chunks s.data.toList) : x.size ≤ 64 := by
  obtain ⟨i, _, rfl⟩ := List.mem_map.1 h
  unfold chS
  show (List.take 64 (List.drop (64 * i) s.data.toList)).toArray.size ≤ 64
  rw [List.size_toArray, List.length_take]; omega
theorem grow_any {w w' : World} (g : w.grownBy w' none) (r : Option Nat) : w.grownBy w' r := ⟨g.os, g.tape, g.output, g.size, fun k hk _ => g.block k hk (by simp)⟩
theorem grow_newblkS {w w1 w2 : World} {r : Option Nat} {v : Value} (g : w.grownBy w1 r) (h : NewBlk w v) (k : w1.grownBy w2 v.ownBlock) : w.grownBy w2 r := by
  refine ⟨k.os.trans g.os, k.tape.trans g.tape, k.output.trans g.output, Nat.le_trans g.size k.size, fun i hi hn => ?_⟩
  rw [k.block i (Nat.lt_of_lt_of_le hi g.size) ?_, g.block i hi hn]
  intro e
  have := h i e.symm
  omega
theorem ShB.set01 {w : World} {b : Nat} {n : Int} {v : Value} (h : ShB w b n v) (n' : Int) (v' : Value) : ShB ((w.setCell ⟨b, 0, none⟩ (.int .i64 n')).setCell ⟨b, 1, none⟩ v') b n' v' := by
  unfold ShB at h ⊢; simp [World.setCell, Array.getElem?_modify, h]
theorem res_sheet {fn : Func} {p u : Tmp} (h : fn.results = #[.cell p 30, .tmp u]) (tmps : Array Value) (w : World) (b : Nat) (n : Int) (v : Value) (hp : tmps.getD p undef = .pointer (some ⟨b, 0, none⟩)) (hs : ShB w b n v) :
    (results fn tmps).run Tryd.prog w = .ok (.tuple #[.agg #[.int .i64 n, v], tmps.getD u undef]) w := by
  have x0 := hs.c0
  have x1 := hs.c1
  rw [results_cell_tmp h, hp]
  go_simp
theorem row_block {w : World} {bb off n c : Nat} (h : NewBlk w (.slice (some ⟨bb, off, none⟩) n c)) : w.heap.size ≤ bb := h bb rfl
set_option maxRecDepth 100000 in
set_option maxHeartbeats 4000000 in
theorem Make_any (s : ByteArray) (w : World) (hs : s.size ≤ 512) (hm : Tb w) :
    Calls Tryd.prog 15 #[.string s] w fun e w' => Made s.size (hashes (chunks s.data.toList)) 0 e w w' := by
  obtain ⟨i0, hi, hz0, hz1, hz2⟩ := info_parts Tryd.infoS_string
  have hsi : (s.size : Int) ≤ 512 := by omega
  have e0 : decide ((512 : Int) < s.size) = false := decide_eq_false (by omega)
  have hln : s.data.toList.length = s.size := by rw [Array.length_toList]; rfl
  have hC : (chunks s.data.toList).length ≤ 8 := by unfold chunks cntN; rw [List.length_map, List.length_range, hln]; omega
  obtain ⟨l, hl⟩ : ∃ l, l = chunks s.data.toList := ⟨_, rfl⟩
  rw [← hl] at hC ⊢
  have HL := Lib.hid hl
  have HC := Lib.hid hC
  clear hs hln hl hC
  go_enter Tryd.func15, Tryd.ntmps15
  go_wp2_with fail
  obtain ⟨sa, sb, gA, hsz⟩ := sheet_pair w s.size
  obtain ⟨wA, hwA⟩ : ∃ wA, wA = (w.alloc (Obj.cells #[Value.int IntKind.i64 0, Value.slice none 0 0] 30)).alloc (Obj.cells #[Value.int IntKind.i64 (s.size : Int), Value.slice none 0 0] 30) := ⟨_, rfl⟩
  obtain ⟨a, ha⟩ : ∃ a, a = w.heap.size := ⟨_, rfl⟩
  rw [← hwA] at sa sb gA hsz ⊢
  rw [← ha] at sa sb hsz ⊢
  have HA := Lib.hid ha
  have HWA := Lib.hid hwA
  have hmA := hm.kept gA
  clear ha hwA
  refine (Cut_any s wA (by omega)).mono ?_
  rintro e w1 ⟨v1, rfl, r1, n1, g1, c1⟩
  rw [← HL.out] at r1
  obtain ⟨p1, k1, rfl⟩ := row_form r1
  have R1 := Lib.hid r1
  have N1 := Lib.hid n1
  have SA := Lib.hid (sa.keep g1)
  have SB := Lib.hid (sb.keep g1)
  have HM := Lib.hid hm
  have hb1 : a + 1 < w1.heap.size := by have := g1.size; omega
  have G1 := Lib.hid (grow_none gA g1)
  have HSZ := Lib.hid hsz
  have HB1 := Lib.hid hb1
  have GA1 := Lib.hid g1
  clear r1 n1 c1 sa sb hmA g1 gA hm hsz hb1
  go_wp2
  go_loopw [6, 17] (fun h i wr => ∃ k v, k ≤ l.length ∧ i = .int .i64 (k : Nat) ∧ ShB wr (a + 1) s.size v ∧ wr.ownsRow 0 9 1 v k ((hashes (l.take k)).map Value.string) ∧ NewBlk w1 v ∧ w1.grownBy wr (some (a + 1))) (fun _ i _ => l.length - (intOf i).toNat)
  case atStart => exact ⟨0, _, Nat.zero_le _, rfl, SB.out, ⟨by simp [hashes], .inl ⟨rfl, rfl⟩⟩, fun k hk => by simp [Value.ownBlock] at hk, grow_refl _ _⟩
  case round =>
    clear hsi e0
    obtain ⟨k, v, hk, rfl, hs0, ho, hn, hg⟩ := hrel
    by_cases hlt : k < l.length
    · have hki : (k : Int) < l.length := by omega
      obtain ⟨bb, off, rfl, hcell, hbb⟩ := row_string R1.out rfl hlt
      have hne : bb ≠ a + 1 := by have := row_block N1.out; have := HSZ.out; omega
      have hcell : wr.cell? ⟨bb, off + k, none⟩ = some (.string (l.getD k ⟨#[]⟩)) := by
        rw [World.cell?_of_block (hg.block bb hbb (by simpa using hne))]; exact hcell
      have HSN := Lib.hid (hashes_snoc l k hlt)
      have hxs : (l[k]).size ≤ 64 := chunk_size (s := s) (by rw [← HL.out]; exact List.getElem_mem hlt)
      rw [List.getD, List.getElem?_eq_getElem hlt, Option.getD_some] at hcell
      obtain ⟨x, hx⟩ : ∃ x, x = l[k] := ⟨_, rfl⟩
      rw [← hx] at hcell hxs HSN
      have hx8 : x.size ≤ 100000000 := by omega
      have HX8 := Lib.hid hx8
      have HS := Lib.hid hs0
      have HO := Lib.hid ho
      have HN := Lib.hid hn
      have HG := Lib.hid hg
      have HK := Lib.hid hlt
      have MR : Hid (Tb wr) := HM.out.kept (grow_wrote G1.out (by have := HA.out; omega) HG.out)
      have hv1 : v.ownBlock = none ∨ v.ownBlock ≠ some (a + 1) := .inr fun e => by have := HN.out _ e; have := HB1.out; omega
      have HV1 := Lib.hid hv1
      have hk8 : (k : Int) < 8 := by have := HC.out; omega
      have hwk : IntKind.i64.wrap ((k : Int) + 1) = (k : Int) + 1 := wrapI (by omega) (by omega)
      clear hx hx8 hxs hne hs0 ho hn hg hlt hk hv1
      go_wp2
      refine wp_region_tails 6 _ _ (fun W => wr.grownBy W none) (fun W W' => W.grownBy W' none) (by simp only [List.take_succ_cons, List.take_zero]; exact rfl) (by simp only [List.drop_succ_cons, List.drop_zero]; exact rfl) (by kernel_rfl) (by kernel_rfl) (by kernel_rfl) (fun W => grow_refl W none) (grow_drawn (grow_refl _ _)) ?_
      iterate 3 (refine wpRel_det ?_; apply Exists.intro; refine ⟨fun W hI => ?_, ?_⟩; focus (have x1 := (HS.out.keep hI).c1; go_simp; first | exact ⟨rfl, grow_refl _ _⟩ | exact ⟨rfl, hI, grow_refl _ _⟩))
      refine wpRel_step (VC [.string x]) (fun v w w' g h => VC.kept h g) (fun W hI => ?_) ?_
      · go_simp
        exact ⟨VC.lit W (.string x) _, grow_none hI (World.grownBy_alloc _ _ _), World.grownBy_alloc _ _ _⟩
      refine wpRel_det ?_; apply Exists.intro; refine ⟨fun W hI => ?_, ?_⟩
      · go_simp
        intro vv hv
        exact Sum1_rel x vv W HX8.out hv MR.out hI
      refine wpRel_step (VC [.string (hashB x)]) (fun v w w' g h => VC.kept h g) (fun W hI => ?_) ?_
      · go_simp
        exact ⟨VC.lit W (.string (hashB x)) _, grow_none hI (World.grownBy_alloc _ _ _), World.grownBy_alloc _ _ _⟩
      refine wpRel_nil ?_
      intro w3 hI3
      go_simp
      intro va hva vr hv
      have oA : w3.ownsRow 0 9 1 v k ((hashes (l.take k)).map Value.string) := own_keep HO.out hI3
      have GB := Lib.hid (grow_same HG.out (grow_any hI3 _))
      refine wpList_append_row _ rfl (.tmp 22) (.tmp 26) 22 (by with_reducible rfl) 9 i0 (.string ⟨#[]⟩) 16 Tryd.underlying22 hi hz0 hz1 hz2 rfl _ _ _ rfl oA _ [.string (hashB x)] rfl hv.2 (onesS [hashB x]) (by have := HK.out; have := HC.out; show k + 1 ≤ 2^63-1; omega) (by have := HK.out; have := HC.out; show (k + 1) * 16 ≤ _; omega) ?_
      intro v4 w4 o4 g4 m4
      obtain ⟨pv4, cv4, rfl⟩ := own_form o4
      have X4 := Lib.hid (grow_newblkS GB.out HN.out g4)
      have N4 := Lib.hid (HN.out.moved GB.out.size m4)
      have hv1 : v.ownBlock ≠ some (a + 1) := fun e => by have := HN.out _ e; have := HB1.out; omega
      have hv4 : (Value.slice pv4 (k + 1) cv4).ownBlock ≠ some (a + 1) := fun e => by have := N4.out _ e; have := HB1.out; omega
      have s4 := (HS.out.keep hI3).kept g4 hv1
      have S4 := Lib.hid s4
      have O4 : Hid (w4.ownsRow 0 9 1 (.slice pv4 (k + 1) cv4) (k + 1) ((hashes (l.take (k + 1))).map Value.string)) := by
        show w4.ownsRow _ _ _ _ _ _
        rw [HSN.out]
        exact o4
      have HV4 := Lib.hid hv4
      have y1 := s4.c1
      have f1 := s4.fr 1
      clear o4 g4 m4 oA hv hI3 hva hv1 hv4 s4
      go_simp
      go_wp2
      go_roundw
      case rel => exact ⟨k + 1, _, by have := HK.out; omega, by go_num, S4.out.set1 _, O4.out.kept (grow_set _ _ _) (.inr HV4.out), N4.out, grow_same X4.out (grow_set w4 ⟨a + 1, 1, none⟩ _)⟩
      case measure => have := HK.out; simp [intOf]; omega
    · have hki : (l.length : Int) ≤ (k : Int) := by omega
      have e : k = l.length := by omega
      obtain ⟨pv, cv, rfl⟩ := own_form ho
      have sA := SA.out.kept hg (by simp)
      have SA2 := Lib.hid sA
      have x0 := sA.c0
      have x1 := sA.c1
      have f0 := sA.fr 0
      have f1 := sA.fr 1
      have y0 := hs0.c0
      have y1 := hs0.c1
      have HG := Lib.hid (grow_wrote G1.out (by have := HA.out; omega) hg)
      have HCP := Lib.hid (own_capS ho)
      have hva : (Value.slice pv k cv).ownBlock ≠ some a := fun e => by have := hn _ e; have := HB1.out; omega
      have OF : Hid (∀ z1 z2, RowAt ((wr.setCell ⟨a, 0, none⟩ z1).setCell ⟨a, 1, none⟩ z2) (.slice pv k cv) ((hashes l).map Value.string)) := by
        intro z1 z2
        have e2 : l.take k = l := List.take_of_length_le (by omega)
        rw [e2] at ho
        exact RowAt.of_own ((ho.kept (grow_set _ _ _) (.inr hva)).kept (grow_set _ _ _) (.inr hva))
      have HE := Lib.hid e
      clear ho hn hg hs0 sA hlt hk hva e
      go_wp2
      refine bodyPost_ret (res_sheet (fn := Tryd.f15) rfl _ _ a s.size (.slice pv k cv) rfl (SA2.out.set01 _ _)) rfl ?_
      have e9 : k = (hashes l).length := by unfold hashes; rw [List.length_map]; exact HE.out
      exact ⟨pv, cv, by rw [← e9]; rfl, by rw [← e9]; exact OF.out _ _, grow_setnew (a := ⟨a, 1, none⟩) (grow_setnew (a := ⟨a, 0, none⟩) HG.out (by rw [HA.out]; exact Nat.le_refl _) _) (by rw [HA.out]; exact Nat.le_refl _) _, by rw [← e9]; exact HCP.out⟩
set_option maxRecDepth 100000 in
set_option maxHeartbeats 4000000 in
theorem refMake_any (s : ByteArray) (w : World) (hs : s.size ≤ 512) (hm : Tb w) :
    Calls Tryd.prog 16 #[.string s] w fun e w' => Made s.size (hashes (chunks s.data.toList)) 0 e w w' := by
  obtain ⟨i0, hi, hz0, hz1, hz2⟩ := info_parts Tryd.infoS_string
  have hsi : (s.size : Int) ≤ 512 := by omega
  have e0 : decide ((512 : Int) < s.size) = false := decide_eq_false (by omega)
  have hln : s.data.toList.length = s.size := by rw [Array.length_toList]; rfl
  have hC : (chunks s.data.toList).length ≤ 8 := by unfold chunks cntN; rw [List.length_map, List.length_range, hln]; omega
  obtain ⟨l, hl⟩ : ∃ l, l = chunks s.data.toList := ⟨_, rfl⟩
  rw [← hl] at hC ⊢
  have HL := Lib.hid hl
  have HC := Lib.hid hC
  clear hs hln hl hC
  go_enter Tryd.func16, Tryd.ntmps16
  go_wp2_with fail
  obtain ⟨sa, sb, gA, hsz⟩ := sheet_pair w s.size
  obtain ⟨wA, hwA⟩ : ∃ wA, wA = (w.alloc (Obj.cells #[Value.int IntKind.i64 0, Value.slice none 0 0] 30)).alloc (Obj.cells #[Value.int IntKind.i64 (s.size : Int), Value.slice none 0 0] 30) := ⟨_, rfl⟩
  obtain ⟨a, ha⟩ : ∃ a, a = w.heap.size := ⟨_, rfl⟩
  rw [← hwA] at sa sb gA hsz ⊢
  rw [← ha] at sa sb hsz ⊢
  have HA := Lib.hid ha
  have HWA := Lib.hid hwA
  have hmA := hm.kept gA
  clear ha hwA
  refine (refCut_any s wA (by omega)).mono ?_
  rintro e w1 ⟨v1, rfl, r1, n1, g1, c1⟩
  rw [← HL.out] at r1
  obtain ⟨p1, k1, rfl⟩ := row_form r1
  have R1 := Lib.hid r1
  have N1 := Lib.hid n1
  have SA := Lib.hid (sa.keep g1)
  have SB := Lib.hid (sb.keep g1)
  have HM := Lib.hid hm
  have hb1 : a + 1 < w1.heap.size := by have := g1.size; omega
  have G1 := Lib.hid (grow_none gA g1)
  have HSZ := Lib.hid hsz
  have HB1 := Lib.hid hb1
  have GA1 := Lib.hid g1
  clear r1 n1 c1 sa sb hmA g1 gA hm hsz hb1
  go_wp2
  go_loopw [6] (fun i wr => ∃ k v, k ≤ l.length ∧ i = .int .i64 (k : Nat) ∧ ShB wr (a + 1) s.size v ∧ wr.ownsRow 0 9 1 v k ((hashes (l.take k)).map Value.string) ∧ NewBlk w1 v ∧ w1.grownBy wr (some (a + 1))) (fun i _ => l.length - (intOf i).toNat)
  case atStart => exact ⟨0, _, Nat.zero_le _, rfl, SB.out, ⟨by simp [hashes], .inl ⟨rfl, rfl⟩⟩, fun k hk => by simp [Value.ownBlock] at hk, grow_refl _ _⟩
  case round =>
    clear hsi e0
    obtain ⟨k, v, hk, rfl, hs0, ho, hn, hg⟩ := hrel
    by_cases hlt : k < l.length
    · have hki : (k : Int) < l.length := by omega
      obtain ⟨bb, off, rfl, hcell, hbb⟩ := row_string R1.out rfl hlt
      have hne : bb ≠ a + 1 := by have := row_block N1.out; have := HSZ.out; omega
      have hcell : wr.cell? ⟨bb, off + k, none⟩ = some (.string (l.getD k ⟨#[]⟩)) := by
        rw [World.cell?_of_block (hg.block bb hbb (by simpa using hne))]; exact hcell
      have HSN := Lib.hid (hashes_snoc l k hlt)
      have hxs : (l[k]).size ≤ 64 := chunk_size (s := s) (by rw [← HL.out]; exact List.getElem_mem hlt)
      rw [List.getD, List.getElem?_eq_getElem hlt, Option.getD_some] at hcell
      obtain ⟨x, hx⟩ : ∃ x, x = l[k] := ⟨_, rfl⟩
      rw [← hx] at hcell hxs HSN
      have hx8 : x.size ≤ 100000000 := by omega
      have HX8 := Lib.hid hx8
      have HS := Lib.hid hs0
      have HO := Lib.hid ho
      have HN := Lib.hid hn
      have HG := Lib.hid hg
      have HK := Lib.hid hlt
      have MR : Hid (Tb wr) := HM.out.kept (grow_wrote G1.out (by have := HA.out; omega) HG.out)
      have hv1 : v.ownBlock = none ∨ v.ownBlock ≠ some (a + 1) := .inr fun e => by have := HN.out _ e; have := HB1.out; omega
      have HV1 := Lib.hid hv1
      have hk8 : (k : Int) < 8 := by have := HC.out; omega
      have hwk : IntKind.i64.wrap ((k : Int) + 1) = (k : Int) + 1 := wrapI (by omega) (by omega)
      have HCL : Hid (∀ W, wr.grownBy W none → W.cell? ⟨bb, off + k, none⟩ = some (.string x)) := fun W hW => by
        rw [World.cell?_of_block (hW.block bb (World.block_lt_of_cell? _ _ hcell) (by simp))]; exact hcell
      clear hx hx8 hxs hne hs0 ho hn hg hlt hk hv1
      go_wp2
      refine wp_region_tails 8 _ _ (fun W => wr.grownBy W none) (fun W W' => W.grownBy W' none) (by simp only [List.take_succ_cons, List.take_zero]; exact rfl) (by simp only [List.drop_succ_cons, List.drop_zero]; exact rfl) (by kernel_rfl) (by kernel_rfl) (by kernel_rfl) (fun W => grow_refl W none) (grow_drawn (grow_refl _ _)) ?_
      iterate 6 (refine wpRel_det ?_; apply Exists.intro; refine ⟨fun W hI => ?_, ?_⟩; focus (have x1 := (HS.out.keep hI).c1; have x2 := HCL.out W hI; go_simp; first | exact ⟨rfl, grow_refl _ _⟩ | exact ⟨rfl, hI, grow_refl _ _⟩))
      refine wpRel_det ?_; apply Exists.intro; refine ⟨fun W hI => ?_, ?_⟩
      · go_simp
        exact rel_of (refSum_any x W HX8.out) hI
      refine wpRel_step (VC [.string (hashB x)]) (fun v w w' g h => VC.kept h g) (fun W hI => ?_) ?_
      · go_simp
        exact ⟨VC.lit W (.string (hashB x)) _, grow_none hI (World.grownBy_alloc _ _ _), World.grownBy_alloc _ _ _⟩
      refine wpRel_nil ?_
      intro w3 hI3
      go_simp
      intro vr hv
      have oA : w3.ownsRow 0 9 1 v k ((hashes (l.take k)).map Value.string) := own_keep HO.out hI3
      have GB := Lib.hid (grow_same HG.out (grow_any hI3 _))
      refine wpList_append_row _ rfl (.tmp 23) (.tmp 29) 22 (by with_reducible rfl) 9 i0 (.string ⟨#[]⟩) 16 Tryd.underlying22 hi hz0 hz1 hz2 rfl _ _ _ rfl oA _ [.string (hashB x)] rfl hv.2 (onesS [hashB x]) (by have := HK.out; have := HC.out; show k + 1 ≤ 2^63-1; omega) (by have := HK.out; have := HC.out; show (k + 1) * 16 ≤ _; omega) ?_
      intro v4 w4 o4 g4 m4
      obtain ⟨pv4, cv4, rfl⟩ := own_form o4
      have X4 := Lib.hid (grow_newblkS GB.out HN.out g4)
      have N4 := Lib.hid (HN.out.moved GB.out.size m4)
      have hv1 : v.ownBlock ≠ some (a + 1) := fun e => by have := HN.out _ e; have := HB1.out; omega
      have hv4 : (Value.slice pv4 (k + 1) cv4).ownBlock ≠ some (a + 1) := fun e => by have := N4.out _ e; have := HB1.out; omega
      have s4 := (HS.out.keep hI3).kept g4 hv1
      have S4 := Lib.hid s4
      have O4 : Hid (w4.ownsRow 0 9 1 (.slice pv4 (k + 1) cv4) (k + 1) ((hashes (l.take (k + 1))).map Value.string)) := by
        show w4.ownsRow _ _ _ _ _ _
        rw [HSN.out]
        exact o4
      have HV4 := Lib.hid hv4
      have y1 := s4.c1
      have f1 := s4.fr 1
      clear o4 g4 m4 oA hv hI3 hv1 hv4 s4
      go_simp
      go_wp2
      go_roundw
      case rel => exact ⟨k + 1, _, by have := HK.out; omega, by go_num, S4.out.set1 _, O4.out.kept (grow_set _ _ _) (.inr HV4.out), N4.out, grow_same X4.out (grow_set w4 ⟨a + 1, 1, none⟩ _)⟩
      case measure => have := HK.out; simp [intOf]; omega
    · have hki : (l.length : Int) ≤ (k : Int) := by omega
      have e : k = l.length := by omega
      obtain ⟨pv, cv, rfl⟩ := own_form ho
      have sA := SA.out.kept hg (by simp)
      have SA2 := Lib.hid sA
      have x0 := sA.c0
      have x1 := sA.c1
      have f0 := sA.fr 0
      have f1 := sA.fr 1
      have y0 := hs0.c0
      have y1 := hs0.c1
      have HG := Lib.hid (grow_wrote G1.out (by have := HA.out; omega) hg)
      have HCP := Lib.hid (own_capS ho)
      have hva : (Value.slice pv k cv).ownBlock ≠ some a := fun e => by have := hn _ e; have := HB1.out; omega
      have OF : Hid (∀ z1 z2, RowAt ((wr.setCell ⟨a, 0, none⟩ z1).setCell ⟨a, 1, none⟩ z2) (.slice pv k cv) ((hashes l).map Value.string)) := by
        intro z1 z2
        have e2 : l.take k = l := List.take_of_length_le (by omega)
        rw [e2] at ho
        exact RowAt.of_own ((ho.kept (grow_set _ _ _) (.inr hva)).kept (grow_set _ _ _) (.inr hva))
      have HE := Lib.hid e
      clear ho hn hg hs0 sA hlt hk hva e
      go_wp2
      refine bodyPost_ret (res_sheet (fn := Tryd.f16) rfl _ _ a s.size (.slice pv k cv) rfl (SA2.out.set01 _ _)) rfl ?_
      have e9 : k = (hashes l).length := by unfold hashes; rw [List.length_map]; exact HE.out
      exact ⟨pv, cv, by rw [← e9]; rfl, by rw [← e9]; exact OF.out _ _, grow_setnew (a := ⟨a, 1, none⟩) (grow_setnew (a := ⟨a, 0, none⟩) HG.out (by rw [HA.out]; exact Nat.le_refl _) _) (by rw [HA.out]; exact Nat.le_refl _) _, by rw [← e9]; exact HCP.out⟩
/-- The bytes, out of the chunks; the error. -/
def buildB (n : Int) (l m : List ByteArray) : ByteArray := if okS n l = true ∧ m.length = l.length ∧ hashes m = l ∧ ((allB m).length : Int) = n then ⟨(allB m).toArray⟩ else ⟨#[]⟩
def buildE (n : Int) (l m : List ByteArray) : Int := if okS n l = false then 3 else if m.length ≠ l.length then 1 else if hashes m ≠ l then 101 else if ((allB m).length : Int) ≠ n then 101 else 0
def buildV (n : Int) (l m : List ByteArray) : Value := .tuple #[.string (buildB n l m), .int .i64 (buildE n l m)]
theorem build_bad {n : Int} {l m : List ByteArray} (h : okS n l = false) : buildV n l m = .tuple #[.string ⟨#[]⟩, .int .i64 3] := by
  simp [h, buildV, buildB, buildE]
theorem build_len {n : Int} {l m : List ByteArray} (h : okS n l = true) (h1 : m.length ≠ l.length) : buildV n l m = .tuple #[.string ⟨#[]⟩, .int .i64 1] := by
  simp [h, h1, buildV, buildB, buildE]
theorem build_hash {n : Int} {l m : List ByteArray} (h : okS n l = true) (h1 : m.length = l.length) (h2 : hashes m ≠ l) : buildV n l m = .tuple #[.string ⟨#[]⟩, .int .i64 101] := by
  simp [h, h1, h2, buildV, buildB, buildE]
theorem build_size {n : Int} {l m : List ByteArray} (h : okS n l = true) (h1 : m.length = l.length) (h2 : hashes m = l) (h3 : ((allB m).length : Int) ≠ n) : buildV n l m = .tuple #[.string ⟨#[]⟩, .int .i64 101] := by
  simp [h, h1, h2, h3, buildV, buildB, buildE]
theorem build_good {n : Int} {l m : List ByteArray} (h : okS n l = true) (h1 : m.length = l.length) (h2 : hashes m = l) (h3 : ((allB m).length : Int) = n) : buildV n l m = .tuple #[.string ⟨(allB m).toArray⟩, .int .i64 0] := by
  simp [h, h1, h2, h3, buildV, buildB, buildE]
/-- The first k chunks have the digests that are asked for. -/
def HashTo (l m : List ByteArray) (k : Nat) : Prop := ∀ j, j < k → hashB (m.getD j ⟨#[]⟩) = l.getD j ⟨#[]⟩
theorem HashTo.step {l m : List ByteArray} {k : Nat} (h : HashTo l m k) (e : hashB (m.getD k ⟨#[]⟩) = l.getD k ⟨#[]⟩) : HashTo l m (k + 1) := by
  intro j hj
  rcases Nat.eq_or_lt_of_le (Nat.le_of_lt_succ hj) with rfl | hj
  · exact e
  · exact h j hj
theorem HashTo.all {l m : List ByteArray} (h : HashTo l m m.length) (hl : m.length = l.length) : hashes m = l := by
  unfold hashes
  apply List.ext_getElem (by rw [List.length_map]; exact hl)
  intro i h1 h2
  rw [List.length_map] at h1
  have := h i h1
  rw [List.getD, List.getD, List.getElem?_eq_getElem h1, List.getElem?_eq_getElem h2] at this
  simpa using this
theorem hash_ne {l m : List ByteArray} {k : Nat} (hk : k < m.length) (e : hashB (m.getD k ⟨#[]⟩) ≠ l.getD k ⟨#[]⟩) : hashes m ≠ l := by
  rintro rfl
  apply e
  unfold hashes
  rw [List.getD, List.getD, List.getElem?_map, List.getElem?_eq_getElem hk]; rfl
theorem size_mem {m : List ByteArray} {k : Nat} (hk : k < m.length) (hb : (allB m).length ≤ 100000000) : (m.getD k ⟨#[]⟩).size ≤ 100000000 := by
  have e : m = m.take k ++ m[k] :: m.drop (k + 1) := by rw [List.getElem_cons_drop]; exact (List.take_append_drop k m).symm
  have e2 : (m.getD k ⟨#[]⟩) = m[k] := by rw [List.getD, List.getElem?_eq_getElem hk]; rfl
  rw [e2]
  unfold allB at hb
  rw [e, List.flatMap_append, List.flatMap_cons, List.length_append, List.length_append] at hb
  have : m[k].data.toList.length = m[k].size := by rw [Array.length_toList]; rfl
  omega
set_option maxRecDepth 100000 in
set_option maxHeartbeats 4000000 in
theorem Build_any (n : Int) (p : Option Addr) (c : Nat) (l : List ByteArray) (v : Value) (m : List ByteArray) (w : World) (hr : RowAt w (.slice p l.length c) (l.map Value.string)) (hq : VC (m.map Value.string) v w) (hn : -9223372036854775808 ≤ n ∧ n ≤ 9223372036854775807) (hl : l.length ≤ maxLen)
    (hml : m.length ≤ 1000000) (hmb : (allB m).length ≤ 100000000) (hm : Tb w) :
    Calls Tryd.prog 19 #[.agg #[.int .i64 n, .slice p l.length c], v] w fun e w' => e = .returned (buildV n l m) ∧ w.grownBy w' none := by
  obtain ⟨q, cq, rfl⟩ := row_form hq.2
  have HN := Lib.hid hn
  have HLL := Lib.hid hl
  unfold maxLen at hl
  have hli : (l.length : Int) ≤ 9223372036854775807 := by omega
  have hmi : (m.length : Int) ≤ 1000000 := by omega
  have hmbi : ((allB m).length : Int) ≤ 100000000 := by omega
  obtain ⟨b, hb⟩ : ∃ b, b = w.heap.size := ⟨_, rfl⟩
  have gA := World.grownBy_alloc w (.cells #[.int .i64 n, .slice p l.length c] 30) none
  have sA := ShB.new w n (.slice p l.length c)
  rw [← hb] at sA
  obtain ⟨wA, hwA⟩ : ∃ wA, wA = w.alloc (.cells #[.int .i64 n, .slice p l.length c] 30) := ⟨_, rfl⟩
  have HQ := Lib.hid (hq.kept gA)
  have RA := Lib.hid (hr.kept gA)
  have MA := Lib.hid (hm.kept gA)
  rw [← hwA] at sA gA HQ RA MA
  have SA := Lib.hid sA
  have GA := Lib.hid gA
  have HB := Lib.hid hb
  have HWA := Lib.hid hwA
  have HMB := Lib.hid hmb
  have x0 := sA.c0
  have x1 := sA.c1
  clear hn hl hb gA sA hr hq hwA hmb hm
  go_enter Tryd.func19, Tryd.ntmps19
  go_wp2_with fail
  rw [← HB.out, ← HWA.out]
  refine (Check_any n p c l wA RA.out HN.out HLL.out).mono ?_
  rintro e w1 ⟨rfl, g1⟩
  have S1 := Lib.hid (SA.out.keep g1)
  have R1 := Lib.hid (RA.out.kept g1)
  have Q1 := Lib.hid (HQ.out.kept g1)
  have M1 := Lib.hid (MA.out.kept g1)
  have G1 := Lib.hid (grow_none GA.out g1)
  clear x0 x1 g1
  rcases hok : okS n l with _ | _
  · have HE := Lib.hid (build_bad (m := m) hok)
    have e3 : ckN n l = 3 := by unfold ckN; rw [hok]; rfl
    rw [e3]
    clear e3 hok
    go_wp2
    go_ret2
    exact ⟨by rw [HE.out]; rfl, G1.out⟩
  have e0 : ckN n l = 0 := by unfold ckN; rw [hok]; rfl
  rw [e0]
  have HOK := Lib.hid hok
  clear e0 hok
  have x1 := S1.out.c1
  by_cases hlen : m.length = l.length
  case neg =>
    have HE := Lib.hid (build_len (m := m) HOK.out hlen)
    have e3 : ((m.length : Int) == l.length) = false := by rw [beq_eq_false_iff_ne]; omega
    clear hlen
    go_wp2
    go_ret2
    exact ⟨by rw [HE.out]; rfl, G1.out⟩
  have e3 : ((m.length : Int) == l.length) = true := by rw [beq_iff_eq]; omega
  have HLEN := Lib.hid hlen
  clear hlen
  go_wp2
  have e4 : ((m.length : Int) != l.length) = false := by rw [bne_eq_false_iff_eq]; have := HLEN.out; omega
  simp only [e4]
  clear x1 e4
  go_loopw [23, 7, 8] (fun i _ _ wr => ∃ k : Nat, k ≤ m.length ∧ i = .int .i64 k ∧ HashTo l m k ∧ w1.grownBy wr none) (fun i _ _ _ => m.length - (intOf i).toNat)
  case atStart => exact ⟨0, Nat.zero_le _, rfl, fun j hj => by omega, grow_refl _ _⟩
  case round =>
    clear e3
    obtain ⟨k, hk, rfl, ht, hg⟩ := hrel
    by_cases hlt : k < m.length
    · have hki : (k : Int) < m.length := by omega
      have hkl : k < l.length := by have := HLEN.out; omega
      have hkli : (k : Int) < l.length := by omega
      obtain ⟨bm, om, rfl, hcm, hbm⟩ := row_string (Q1.out.2.kept hg) rfl hlt
      obtain ⟨bl, ol, rfl, hcl, hbl⟩ := row_string (R1.out.kept hg) rfl hkl
      have hx8 := size_mem hlt HMB.out
      have HST := Lib.hid (fun e => ht.step (k := k) e)
      have HNE := Lib.hid (fun e => hash_ne (l := l) hlt e)
      obtain ⟨x, hx⟩ : ∃ x, x = m.getD k ⟨#[]⟩ := ⟨_, rfl⟩
      obtain ⟨y, hy⟩ : ∃ y, y = l.getD k ⟨#[]⟩ := ⟨_, rfl⟩
      rw [← hx] at hcm hx8 HST HNE
      rw [← hy] at hcl HST HNE
      have HX8 := Lib.hid hx8
      have S2 := Lib.hid (S1.out.keep hg)
      have M2 := Lib.hid (M1.out.kept hg)
      have HG := Lib.hid hg
      have HK := Lib.hid hlt
      have HCL : Hid (∀ W, wr.grownBy W none → W.cell? ⟨bl, ol + k, none⟩ = some (.string y)) := fun W hW => by
        rw [World.cell?_of_block (hW.block bl hbl (by simp))]; exact hcl
      clear hx hy hx8 hg hlt hk hkl ht hbm hbl hcl
      by_cases heq : hashB x = y
      · have HEQ := Lib.hid heq
        clear heq
        go_wp2
        refine wp_region_rel (fun W => wr.grownBy W none) (fun W W' => W.grownBy W' none) (by kernel_rfl) (by kernel_rfl) (fun W => grow_refl W none) (grow_drawn (grow_refl _ _)) ?_
        refine wpRel_det ?_; apply Exists.intro; refine ⟨fun W hI => ?_, ?_⟩
        · go_simp; first | exact ⟨rfl, grow_refl _ _⟩ | exact ⟨rfl, hI, grow_refl _ _⟩
        refine wpRel_step (VC [.string x]) (fun v w w' g h => VC.kept h g) (fun W hI => ?_) ?_
        · go_simp
          exact ⟨VC.lit W (.string x) _, grow_none hI (World.grownBy_alloc _ _ _), World.grownBy_alloc _ _ _⟩
        refine wpRel_det ?_; apply Exists.intro; refine ⟨fun W hI => ?_, ?_⟩
        · go_simp
          intro vv hv
          have := Sum1_rel x vv W HX8.out hv M2.out hI
          rw [HEQ.out] at this
          exact this
        iterate 6 (refine wpRel_det ?_; apply Exists.intro; refine ⟨fun W hI => ?_, ?_⟩; focus (have x1 := (S2.out.keep hI).c1; have x2 := HCL.out W hI; go_simp; first | exact ⟨rfl, grow_refl _ _⟩ | exact ⟨rfl, hI, grow_refl _ _⟩))
        refine wpRel_nil ?_
        intro w3 hI3
        have G3 := Lib.hid (grow_none HG.out hI3)
        clear hI3
        go_simp
        intro vz hvz
        clear hvz
        go_wp2
        go_roundw
        case rel => exact ⟨k + 1, by have := HK.out; omega, by go_num, HST.out HEQ.out, G3.out⟩
        case measure => have := HK.out; simp [intOf]; omega
      · have HE := Lib.hid (build_hash HOK.out HLEN.out (HNE.out heq))
        have hbe := bytes_ne heq
        go_wp2
        refine wp_region_rel (fun W => wr.grownBy W none) (fun W W' => W.grownBy W' none) (by kernel_rfl) (by kernel_rfl) (fun W => grow_refl W none) (grow_drawn (grow_refl _ _)) ?_
        refine wpRel_det ?_; apply Exists.intro; refine ⟨fun W hI => ?_, ?_⟩
        · go_simp; first | exact ⟨rfl, grow_refl _ _⟩ | exact ⟨rfl, hI, grow_refl _ _⟩
        refine wpRel_step (VC [.string x]) (fun v w w' g h => VC.kept h g) (fun W hI => ?_) ?_
        · go_simp
          exact ⟨VC.lit W (.string x) _, grow_none hI (World.grownBy_alloc _ _ _), World.grownBy_alloc _ _ _⟩
        refine wpRel_det ?_; apply Exists.intro; refine ⟨fun W hI => ?_, ?_⟩
        · go_simp
          intro vv hv
          exact Sum1_rel x vv W HX8.out hv M2.out hI
        iterate 6 (refine wpRel_det ?_; apply Exists.intro; refine ⟨fun W hI => ?_, ?_⟩; focus (have x1 := (S2.out.keep hI).c1; have x2 := HCL.out W hI; go_simp; first | exact ⟨rfl, grow_refl _ _⟩ | exact ⟨rfl, hI, grow_refl _ _⟩))
        refine wpRel_nil ?_
        intro w3 hI3
        have G3 := Lib.hid (grow_none HG.out hI3)
        clear hI3
        go_simp
        intro vz hvz
        clear hvz
        go_wp2
        go_ret2
        exact ⟨by rw [HE.out]; rfl, grow_none G1.out G3.out⟩
    · have hki : (m.length : Int) ≤ (k : Int) := by omega
      have hH : hashes m = l := HashTo.all (by rw [show m.length = k by omega]; exact ht) HLEN.out
      have HH := Lib.hid hH
      have x0 := (S1.out.keep hg).c0
      have HG := Lib.hid hg
      have HQ2 := Lib.hid (Q1.out.kept hg)
      clear hg ht hlt hH hk
      go_wp2_with fail
      refine (JoinC_any _ m wr HQ2.out.2 HQ2.out.1 (by omega) HMB.out).mono ?_
      rintro e w2 ⟨rfl, g2⟩
      have x0 := (S1.out.keep (grow_none HG.out g2)).c0
      have GZ := Lib.hid (grow_none (grow_none G1.out HG.out) g2)
      have hsz : (ByteArray.size ⟨(allB m).toArray⟩) = (allB m).length := List.size_toArray
      obtain ⟨X, hX⟩ : ∃ X : ByteArray, X = ⟨(allB m).toArray⟩ := ⟨_, rfl⟩
      rw [← hX] at hsz ⊢
      have HX := Lib.hid hX
      clear g2 hX
      by_cases hn : ((allB m).length : Int) = n
      · have e5 : ((X.size : Int) == n) = true := by rw [beq_iff_eq, hsz]; exact hn
        have HE := Lib.hid (build_good HOK.out HLEN.out HH.out hn)
        clear hn hsz
        go_wp2
        go_ret2
        exact ⟨by rw [HE.out, HX.out]; rfl, GZ.out⟩
      · have e5 : ((X.size : Int) == n) = false := by rw [beq_eq_false_iff_ne, hsz]; exact hn
        have HE := Lib.hid (build_size HOK.out HLEN.out HH.out hn)
        clear hn hsz
        go_wp2
        go_ret2
        exact ⟨by rw [HE.out]; rfl, GZ.out⟩
set_option maxRecDepth 100000 in
set_option maxHeartbeats 4000000 in
theorem refBuild_any (n : Int) (p : Option Addr) (c : Nat) (l : List ByteArray) (v : Value) (m : List ByteArray) (w : World) (hr : RowAt w (.slice p l.length c) (l.map Value.string)) (hq : VC (m.map Value.string) v w) (hn : -9223372036854775808 ≤ n ∧ n ≤ 9223372036854775807) (hl : l.length ≤ maxLen)
    (hml : m.length ≤ 1000000) (hmb : (allB m).length ≤ 100000000) (hm : Tb w) :
    Calls Tryd.prog 21 #[.agg #[.int .i64 n, .slice p l.length c], v] w fun e w' => e = .returned (buildV n l m) ∧ w.grownBy w' none := by
  obtain ⟨q, cq, rfl⟩ := row_form hq.2
  have HN := Lib.hid hn
  have HLL := Lib.hid hl
  unfold maxLen at hl
  have hli : (l.length : Int) ≤ 9223372036854775807 := by omega
  have hmi : (m.length : Int) ≤ 1000000 := by omega
  have hmbi : ((allB m).length : Int) ≤ 100000000 := by omega
  obtain ⟨b, hb⟩ : ∃ b, b = w.heap.size := ⟨_, rfl⟩
  have gA := World.grownBy_alloc w (.cells #[.int .i64 n, .slice p l.length c] 30) none
  have sA := ShB.new w n (.slice p l.length c)
  rw [← hb] at sA
  obtain ⟨wA, hwA⟩ : ∃ wA, wA = w.alloc (.cells #[.int .i64 n, .slice p l.length c] 30) := ⟨_, rfl⟩
  have HQ := Lib.hid (hq.kept gA)
  have RA := Lib.hid (hr.kept gA)
  have MA := Lib.hid (hm.kept gA)
  rw [← hwA] at sA gA HQ RA MA
  have SA := Lib.hid sA
  have GA := Lib.hid gA
  have HB := Lib.hid hb
  have HWA := Lib.hid hwA
  have HMB := Lib.hid hmb
  have x0 := sA.c0
  have x1 := sA.c1
  clear hn hl hb gA sA hr hq hwA hmb hm
  go_enter Tryd.func21, Tryd.ntmps21
  go_wp2_with fail
  rw [← HB.out, ← HWA.out]
  refine (refRight_any n p c l wA RA.out HN.out HLL.out).mono ?_
  rintro e w1 ⟨rfl, g1⟩
  have S1 := Lib.hid (SA.out.keep g1)
  have R1 := Lib.hid (RA.out.kept g1)
  have Q1 := Lib.hid (HQ.out.kept g1)
  have M1 := Lib.hid (MA.out.kept g1)
  have G1 := Lib.hid (grow_none GA.out g1)
  clear x0 x1 g1
  rcases hok : okS n l with _ | _
  · have HE := Lib.hid (build_bad (m := m) hok)
    clear hok
    go_wp2
    go_ret2
    exact ⟨by rw [HE.out]; rfl, G1.out⟩
  have HOK := Lib.hid hok
  clear hok
  have x1 := S1.out.c1
  by_cases hlen : m.length = l.length
  case neg =>
    have HE := Lib.hid (build_len (m := m) HOK.out hlen)
    have e3 : ((m.length : Int) == l.length) = false := by rw [beq_eq_false_iff_ne]; omega
    clear hlen
    go_wp2
    go_ret2
    exact ⟨by rw [HE.out]; rfl, G1.out⟩
  have e3 : ((m.length : Int) == l.length) = true := by rw [beq_iff_eq]; omega
  have HLEN := Lib.hid hlen
  clear hlen
  go_wp2
  have e4 : ((m.length : Int) != l.length) = false := by rw [bne_eq_false_iff_eq]; have := HLEN.out; omega
  simp only [e4]
  clear x1 e4
  go_loopw [6] (fun i wr => ∃ k : Nat, k ≤ m.length ∧ i = .int .i64 k ∧ HashTo l m k ∧ w1.grownBy wr none) (fun i _ => m.length - (intOf i).toNat)
  case atStart => exact ⟨0, Nat.zero_le _, rfl, fun j hj => by omega, grow_refl _ _⟩
  case round =>
    clear e3
    obtain ⟨k, hk, rfl, ht, hg⟩ := hrel
    by_cases hlt : k < m.length
    · have hki : (k : Int) < m.length := by omega
      have hkl : k < l.length := by have := HLEN.out; omega
      have hkli : (k : Int) < l.length := by omega
      obtain ⟨bm, om, rfl, hcm, hbm⟩ := row_string (Q1.out.2.kept hg) rfl hlt
      obtain ⟨bl, ol, rfl, hcl, hbl⟩ := row_string (R1.out.kept hg) rfl hkl
      have hx8 := size_mem hlt HMB.out
      have HST := Lib.hid (fun e => ht.step (k := k) e)
      have HNE := Lib.hid (fun e => hash_ne (l := l) hlt e)
      obtain ⟨x, hx⟩ : ∃ x, x = m.getD k ⟨#[]⟩ := ⟨_, rfl⟩
      obtain ⟨y, hy⟩ : ∃ y, y = l.getD k ⟨#[]⟩ := ⟨_, rfl⟩
      rw [← hx] at hcm hx8 HST HNE
      rw [← hy] at hcl HST HNE
      have HX8 := Lib.hid hx8
      have S2 := Lib.hid (S1.out.keep hg)
      have M2 := Lib.hid (M1.out.kept hg)
      have HG := Lib.hid hg
      have HK := Lib.hid hlt
      have HCL : Hid (∀ W, wr.grownBy W none → W.cell? ⟨bl, ol + k, none⟩ = some (.string y)) := fun W hW => by
        rw [World.cell?_of_block (hW.block bl hbl (by simp))]; exact hcl
      have HCM : Hid (∀ W, wr.grownBy W none → W.cell? ⟨bm, om + k, none⟩ = some (.string x)) := fun W hW => by
        rw [World.cell?_of_block (hW.block bm hbm (by simp))]; exact hcm
      clear hx hy hx8 hg hlt hk hkl ht hbm hbl hcl hcm
      by_cases heq : hashB x = y
      · have HEQ := Lib.hid heq
        clear heq
        go_wp2
        refine wp_region_rel (fun W => wr.grownBy W none) (fun W W' => W.grownBy W' none) (by kernel_rfl) (by kernel_rfl) (fun W => grow_refl W none) (grow_drawn (grow_refl _ _)) ?_
        iterate 4 (refine wpRel_det ?_; apply Exists.intro; refine ⟨fun W hI => ?_, ?_⟩; focus (have x2 := HCM.out W hI; go_simp; first | exact ⟨rfl, grow_refl _ _⟩ | exact ⟨rfl, hI, grow_refl _ _⟩))
        refine wpRel_det ?_; apply Exists.intro; refine ⟨fun W hI => ?_, ?_⟩
        · go_simp
          have := rel_of (refSum_any x W HX8.out) hI
          rw [show (⟨(shaS x).toArray⟩ : ByteArray) = y from HEQ.out] at this
          exact this
        iterate 6 (refine wpRel_det ?_; apply Exists.intro; refine ⟨fun W hI => ?_, ?_⟩; focus (have x1 := (S2.out.keep hI).c1; have x2 := HCL.out W hI; go_simp; first | exact ⟨rfl, grow_refl _ _⟩ | exact ⟨rfl, hI, grow_refl _ _⟩))
        refine wpRel_nil ?_
        intro w3 hI3
        have G3 := Lib.hid (grow_none HG.out hI3)
        clear hI3
        go_simp
        go_wp2
        go_roundw
        case rel => exact ⟨k + 1, by have := HK.out; omega, by go_num, HST.out HEQ.out, G3.out⟩
        case measure => have := HK.out; simp [intOf]; omega
      · have HE := Lib.hid (build_hash HOK.out HLEN.out (HNE.out heq))
        have hbe := bytes_ne heq
        go_wp2
        refine wp_region_rel (fun W => wr.grownBy W none) (fun W W' => W.grownBy W' none) (by kernel_rfl) (by kernel_rfl) (fun W => grow_refl W none) (grow_drawn (grow_refl _ _)) ?_
        iterate 4 (refine wpRel_det ?_; apply Exists.intro; refine ⟨fun W hI => ?_, ?_⟩; focus (have x2 := HCM.out W hI; go_simp; first | exact ⟨rfl, grow_refl _ _⟩ | exact ⟨rfl, hI, grow_refl _ _⟩))
        refine wpRel_det ?_; apply Exists.intro; refine ⟨fun W hI => ?_, ?_⟩
        · go_simp
          have := rel_of (refSum_any x W HX8.out) hI
          rw [show (⟨(shaS x).toArray⟩ : ByteArray) = hashB x from rfl] at this
          exact this
        iterate 6 (refine wpRel_det ?_; apply Exists.intro; refine ⟨fun W hI => ?_, ?_⟩; focus (have x1 := (S2.out.keep hI).c1; have x2 := HCL.out W hI; go_simp; first | exact ⟨rfl, grow_refl _ _⟩ | exact ⟨rfl, hI, grow_refl _ _⟩))
        refine wpRel_nil ?_
        intro w3 hI3
        have G3 := Lib.hid (grow_none HG.out hI3)
        clear hI3
        go_simp
        go_wp2
        go_ret2
        exact ⟨by rw [HE.out]; rfl, grow_none G1.out G3.out⟩
    · have hki : (m.length : Int) ≤ (k : Int) := by omega
      have hH : hashes m = l := HashTo.all (by rw [show m.length = k by omega]; exact ht) HLEN.out
      have HH := Lib.hid hH
      have x0 := (S1.out.keep hg).c0
      have HG := Lib.hid hg
      have HQ2 := Lib.hid (Q1.out.kept hg)
      clear hg ht hlt hH hk
      go_wp2_with fail
      refine (refJoin_any _ m wr HQ2.out.2 (by omega) HMB.out).mono ?_
      rintro e w2 ⟨rfl, g2⟩
      have x0 := (S1.out.keep (grow_none HG.out g2)).c0
      have GZ := Lib.hid (grow_none (grow_none G1.out HG.out) g2)
      have hsz : (ByteArray.size ⟨(allB m).toArray⟩) = (allB m).length := List.size_toArray
      obtain ⟨X, hX⟩ : ∃ X : ByteArray, X = ⟨(allB m).toArray⟩ := ⟨_, rfl⟩
      rw [← hX] at hsz ⊢
      have HX := Lib.hid hX
      clear g2 hX
      by_cases hn : ((allB m).length : Int) = n
      · have e5 : ((X.size : Int) == n) = true := by rw [beq_iff_eq, hsz]; exact hn
        have HE := Lib.hid (build_good HOK.out HLEN.out HH.out hn)
        clear hn hsz
        go_wp2
        go_ret2
        exact ⟨by rw [HE.out, HX.out]; rfl, GZ.out⟩
      · have e5 : ((X.size : Int) == n) = false := by rw [beq_eq_false_iff_ne, hsz]; exact hn
        have HE := Lib.hid (build_size HOK.out HLEN.out HH.out hn)
        clear hn hsz
        go_wp2
        go_ret2
        exact ⟨by rw [HE.out]; rfl, GZ.out⟩
def sameS (n : Int) (l : List ByteArray) (n' : Int) (l' : List ByteArray) : Bool := decide (n = n') && decide (l = l')
set_option maxRecDepth 100000 in
set_option maxHeartbeats 4000000 in
theorem Same08_any (n n' : Int) (p p' : Option Addr) (c c' : Nat) (l l' : List ByteArray) (w : World) (hr : RowAt w (.slice p l.length c) (l.map Value.string)) (hr' : RowAt w (.slice p' l'.length c') (l'.map Value.string)) (hl : l.length ≤ maxLen) (hl' : l'.length ≤ maxLen) :
    Calls Tryd.prog 17 #[.agg #[.int .i64 n, .slice p l.length c], .agg #[.int .i64 n', .slice p' l'.length c']] w fun e w' => e = .returned (.bool (sameS n l n' l')) ∧ w.grownBy w' none := by
  have g1 := World.grownBy_alloc w (.cells #[.int .i64 n, .slice p l.length c] 30) none
  have s1 := ShB.new w n (.slice p l.length c)
  have g2 := World.grownBy_alloc (w.alloc (.cells #[.int .i64 n, .slice p l.length c] 30)) (.cells #[.int .i64 n', .slice p' l'.length c'] 30) none
  have s2 := ShB.new (w.alloc (.cells #[.int .i64 n, .slice p l.length c] 30)) n' (.slice p' l'.length c')
  rw [World.size_alloc] at s2
  have s1 := s1.keep g2
  have G2 := grow_none g1 g2
  have x0 := s1.c0
  have x1 := s1.c1
  have y0 := s2.c0
  have y1 := s2.c1
  have R1 := Lib.hid (hr.kept G2)
  have R2 := Lib.hid (hr'.kept G2)
  have GG := Lib.hid G2
  have HL := Lib.hid hl
  have HL' := Lib.hid hl'
  clear g1 g2 s1 s2 G2 hr hr' hl hl'
  by_cases hn : n = n'
  · have HE : Hid (sameS n l n' l' = decide (l = l')) := by show _ = _; unfold sameS; rw [decide_eq_true hn, Bool.true_and]
    have e1 : (n == n') = true := beq_iff_eq.2 hn
    clear hn
    go_enter Tryd.func17, Tryd.ntmps17
    go_wp2_with fail
    refine (Same_any _ _ l l' _ R1.out R2.out HL.out HL'.out).mono ?_
    rintro e w1 ⟨rfl, g⟩
    have GZ := Lib.hid (grow_none GG.out g)
    clear g x0 x1 y0 y1
    obtain ⟨B, hB⟩ : ∃ B, B = decide (l = l') := ⟨_, rfl⟩
    rw [← hB] at HE ⊢
    clear hB
    go_wp2
    go_ret
    exact ⟨by rw [HE.out]; rfl, GZ.out⟩
  · have HE : Hid (sameS n l n' l' = false) := by show _ = _; unfold sameS; rw [decide_eq_false hn, Bool.false_and]
    have e1 : (n == n') = false := beq_eq_false_iff_ne.2 hn
    clear hn
    go_enter Tryd.func17, Tryd.ntmps17
    go_wp2
    go_ret
    exact ⟨by rw [HE.out]; rfl, GG.out⟩
/-- A sheet's bytes. -/
def packB (n : Int) (l : List ByteArray) : List UInt8 := numsB [n, (l.length : Int)] ++ textsB l
theorem textsB_room (l : List ByteArray) (h : ∀ s ∈ l, s.size ≤ 1000000000000) : (textsB l).length ≤ roomB l := by
  induction l with
  | nil => simp [textsB, roomB]
  | cons s l ih =>
    have e1 : roomB (s :: l) = s.size + 10 + roomB l := by simp only [roomB, List.map_cons, List.sum_cons]
    have e2 : textsB (s :: l) = (numB s.size ++ s.data.toList) ++ textsB l := by simp only [textsB, List.flatMap_cons]
    have hb := h s (List.mem_cons_self ..)
    have h1 := numB_len (n := (s.size : Int)) ⟨by omega, by omega⟩
    have h2 : s.data.toList.length = s.size := by rw [Array.length_toList]; rfl
    rw [e1, e2, List.length_append, List.length_append, h2]
    have := ih (fun x hx => h x (List.mem_cons_of_mem _ hx))
    omega
def VN (xs : List Value) (v : Value) (W : World) : Prop := RowAt W v xs
theorem VN.kept {xs : List Value} {v : Value} {w w' : World} (h : VN xs v w) (g : w.grownBy w' none) : VN xs v w' := RowAt.kept h g
theorem mk_app (a b : List UInt8) : (⟨a.toArray⟩ : ByteArray) ++ ⟨b.toArray⟩ = ⟨(a ++ b).toArray⟩ := ByteArray.mk_append_mk _ _
theorem mk_size (a : List UInt8) : (ByteArray.size ⟨a.toArray⟩) = a.length := List.size_toArray
theorem room_size {l : List ByteArray} : ∀ s ∈ l, s.size ≤ roomB l := by
  induction l with
  | nil => intro s hs; cases hs
  | cons x l ih =>
    have e1 : roomB (x :: l) = x.size + 10 + roomB l := by simp only [roomB, List.map_cons, List.sum_cons]
    intro s hs
    rcases List.mem_cons.1 hs with rfl | hs
    · omega
    · have := ih s hs; omega
theorem room_len (l : List ByteArray) : 10 * l.length ≤ roomB l := by
  induction l with
  | nil => simp
  | cons x l ih =>
    have e1 : roomB (x :: l) = x.size + 10 + roomB l := by simp only [roomB, List.map_cons, List.sum_cons]
    rw [e1, List.length_cons]; omega
set_option maxRecDepth 100000 in
set_option maxHeartbeats 4000000 in
theorem Pack_any (n : Int) (p : Option Addr) (c : Nat) (l : List ByteArray) (w : World) (hr : RowAt w (.slice p l.length c) (l.map Value.string)) (hn : -9223372036854775808 ≤ n ∧ n ≤ 9223372036854775807) (hl : roomB l ≤ 1000000000000) :
    Calls Tryd.prog 26 #[.agg #[.int .i64 n, .slice p l.length c]] w fun e w' => e = .returned (.string ⟨(packB n l).toArray⟩) ∧ w.grownBy w' none := by
  have hll := room_len l
  have hw : ∀ x ∈ [n, (l.length : Int)], -9223372036854775808 ≤ x ∧ x ≤ 9223372036854775807 := by
    intro x hx
    rcases List.mem_cons.1 hx with rfl | hx
    · exact hn
    · rw [List.mem_singleton] at hx; subst hx; omega
  have hz1 := numsB_len _ hw
  have hz2 := textsB_room l (fun s hs => by have := room_size s hs; omega)
  obtain ⟨X, hX⟩ : ∃ X : ByteArray, X = ⟨(numsB [n, (l.length : Int)]).toArray⟩ := ⟨_, rfl⟩
  obtain ⟨Y, hY⟩ : ∃ Y : ByteArray, Y = ⟨(textsB l).toArray⟩ := ⟨_, rfl⟩
  have hXs : X.size ≤ 20 := by rw [hX, mk_size]; exact hz1
  have hYs : Y.size ≤ 1000000000000 := by rw [hY, mk_size]; omega
  have hno : ¬ (9223372036854775807 < X.size + Y.size) := by omega
  have HXY : Hid ((⟨(packB n l).toArray⟩ : ByteArray) = X ++ Y) := by show _ = _; rw [hX, hY, mk_app]; rfl
  have gA := World.grownBy_alloc w (.cells #[.int .i64 n, .slice p l.length c] 30) none
  have sA := ShB.new w n (.slice p l.length c)
  obtain ⟨b, hb⟩ : ∃ b, b = w.heap.size := ⟨_, rfl⟩
  obtain ⟨wA, hwA⟩ : ∃ wA, wA = w.alloc (.cells #[.int .i64 n, .slice p l.length c] 30) := ⟨_, rfl⟩
  have rA := hr.kept gA
  rw [← hwA] at sA gA rA
  rw [← hb] at sA
  have SA := Lib.hid sA
  have GA := Lib.hid gA
  have RA := Lib.hid rA
  have HB := Lib.hid hb
  have HWA := Lib.hid hwA
  have HX := Lib.hid hX
  have HY := Lib.hid hY
  have HW := Lib.hid hw
  have HL := Lib.hid hl
  clear hll hw hz1 hz2 hX hY hXs hYs gA sA hb hwA hr hn hl rA
  go_enter Tryd.func26, Tryd.ntmps26
  go_wp2
  rw [← HB.out, ← HWA.out]
  refine wp_region_rel (fun W => wA.grownBy W none) (fun W W' => W.grownBy W' none) (by kernel_rfl) (by kernel_rfl) (fun W => grow_refl W none) (grow_drawn (grow_refl _ _)) ?_
  iterate 5 (refine wpRel_det ?_; apply Exists.intro; refine ⟨fun W hI => ?_, ?_⟩; focus (have x0 := (SA.out.keep hI).c0; have x1 := (SA.out.keep hI).c1; go_simp; first | exact ⟨rfl, grow_refl _ _⟩ | exact ⟨rfl, hI, grow_refl _ _⟩))
  refine wpRel_step (VN [.int .i64 n, .int .i64 (l.length : Int)]) (fun v w w' g h => VN.kept h g) (fun W hI => ?_) ?_
  · go_simp
    exact ⟨RowAt.lit W [.int .i64 n, .int .i64 (l.length : Int)] 3 2 2 rfl, grow_none hI (World.grownBy_alloc _ _ _), World.grownBy_alloc _ _ _⟩
  refine wpRel_det ?_; apply Exists.intro; refine ⟨fun W hI => ?_, ?_⟩
  · go_simp
    intro vv hv
    have := rel_of (Nums_any vv [n, (l.length : Int)] W hv HW.out (by simp)) hI
    rw [← HX.out] at this
    exact this
  iterate 2 (refine wpRel_det ?_; apply Exists.intro; refine ⟨fun W hI => ?_, ?_⟩; focus (have x0 := (SA.out.keep hI).c0; have x1 := (SA.out.keep hI).c1; go_simp; first | exact ⟨rfl, grow_refl _ _⟩ | exact ⟨rfl, hI, grow_refl _ _⟩))
  refine wpRel_det ?_; apply Exists.intro; refine ⟨fun W hI => ?_, ?_⟩
  · go_simp
    have := rel_of (Text_any (.slice p l.length c) l W (RA.out.kept hI) HL.out) hI
    rw [← HY.out] at this
    exact this
  iterate 2 (refine wpRel_det ?_; apply Exists.intro; refine ⟨fun W hI => ?_, ?_⟩; focus (go_simp; first | exact ⟨rfl, grow_refl _ _⟩ | exact ⟨rfl, hI, grow_refl _ _⟩))
  refine wpRel_nil ?_
  intro w3 hI3
  have G3 := Lib.hid (grow_none GA.out hI3)
  clear hI3
  go_simp
  intro vz hvz
  clear hvz
  go_wp2
  go_ret
  exact ⟨by rw [HXY.out]; rfl, G3.out⟩
set_option maxRecDepth 100000 in
set_option maxHeartbeats 4000000 in
theorem refPack_any (n : Int) (p : Option Addr) (c : Nat) (l : List ByteArray) (w : World) (hr : RowAt w (.slice p l.length c) (l.map Value.string)) (hn : -9223372036854775808 ≤ n ∧ n ≤ 9223372036854775807) (hl : roomB l ≤ 1000000000000) :
    Calls Tryd.prog 27 #[.agg #[.int .i64 n, .slice p l.length c]] w fun e w' => e = .returned (.string ⟨(packB n l).toArray⟩) ∧ w.grownBy w' none := by
  have hll := room_len l
  have hw : ∀ x ∈ [n, (l.length : Int)], -9223372036854775808 ≤ x ∧ x ≤ 9223372036854775807 := by
    intro x hx
    rcases List.mem_cons.1 hx with rfl | hx
    · exact hn
    · rw [List.mem_singleton] at hx; subst hx; omega
  have hz1 := numsB_len _ hw
  have hz2 := textsB_room l (fun s hs => by have := room_size s hs; omega)
  obtain ⟨X1, hX1⟩ : ∃ X : ByteArray, X = ⟨(numB n).toArray⟩ := ⟨_, rfl⟩
  obtain ⟨X2, hX2⟩ : ∃ X : ByteArray, X = ⟨(numB (l.length : Int)).toArray⟩ := ⟨_, rfl⟩
  have hX : X1 ++ X2 = ⟨(numsB [n, (l.length : Int)]).toArray⟩ := by rw [hX1, hX2, mk_app]; simp [numsB]
  have hX1s : X1.size ≤ 10 := by rw [hX1, mk_size]; exact numB_len hn
  have hX2s : X2.size ≤ 10 := by rw [hX2, mk_size]; exact numB_len ⟨by omega, by omega⟩
  have hno1 : ¬ (9223372036854775807 < X1.size + X2.size) := by omega
  obtain ⟨Y, hY⟩ : ∃ Y : ByteArray, Y = ⟨(textsB l).toArray⟩ := ⟨_, rfl⟩
  have hYs : Y.size ≤ 1000000000000 := by rw [hY, mk_size]; omega
  have hno : ¬ (9223372036854775807 < X1.size + X2.size + Y.size) := by omega
  have hno2 : ¬ (9223372036854775807 < (X1 ++ X2).size + Y.size) := by rw [ByteArray.size_append]; omega
  have HXY : Hid ((⟨(packB n l).toArray⟩ : ByteArray) = X1 ++ X2 ++ Y) := by show _ = _; rw [hX, hY, mk_app]; rfl
  have gA := World.grownBy_alloc w (.cells #[.int .i64 n, .slice p l.length c] 30) none
  have sA := ShB.new w n (.slice p l.length c)
  obtain ⟨b, hb⟩ : ∃ b, b = w.heap.size := ⟨_, rfl⟩
  obtain ⟨wA, hwA⟩ : ∃ wA, wA = w.alloc (.cells #[.int .i64 n, .slice p l.length c] 30) := ⟨_, rfl⟩
  have rA := hr.kept gA
  rw [← hwA] at sA gA rA
  rw [← hb] at sA
  have SA := Lib.hid sA
  have GA := Lib.hid gA
  have RA := Lib.hid rA
  have HB := Lib.hid hb
  have HWA := Lib.hid hwA
  have HX1 := Lib.hid hX1
  have HX2 := Lib.hid hX2
  have HN := Lib.hid hn
  have HY := Lib.hid hY
  have HW : Hid (-9223372036854775808 ≤ (l.length : Int) ∧ (l.length : Int) ≤ 9223372036854775807) := hw _ (by simp)
  have HL := Lib.hid hl
  clear hll hw hz1 hz2 hX hX1 hX2 hX1s hX2s hY hYs gA sA hb hwA hr hn hl rA
  go_enter Tryd.func27, Tryd.ntmps27
  go_wp2
  rw [← HB.out, ← HWA.out]
  refine wp_region_rel (fun W => wA.grownBy W none) (fun W W' => W.grownBy W' none) (by kernel_rfl) (by kernel_rfl) (fun W => grow_refl W none) (grow_drawn (grow_refl _ _)) ?_
  iterate 2 (refine wpRel_det ?_; apply Exists.intro; refine ⟨fun W hI => ?_, ?_⟩; focus (have x0 := (SA.out.keep hI).c0; go_simp; first | exact ⟨rfl, grow_refl _ _⟩ | exact ⟨rfl, hI, grow_refl _ _⟩))
  refine wpRel_det ?_; apply Exists.intro; refine ⟨fun W hI => ?_, ?_⟩
  · go_simp
    have := rel_of (refNum_any n W HN.out) hI
    rw [← HX1.out] at this
    exact this
  iterate 3 (refine wpRel_det ?_; apply Exists.intro; refine ⟨fun W hI => ?_, ?_⟩; focus (have x1 := (SA.out.keep hI).c1; go_simp; first | exact ⟨rfl, grow_refl _ _⟩ | exact ⟨rfl, hI, grow_refl _ _⟩))
  refine wpRel_det ?_; apply Exists.intro; refine ⟨fun W hI => ?_, ?_⟩
  · go_simp
    have := rel_of (refNum_any (l.length : Int) W HW.out) hI
    rw [← HX2.out] at this
    exact this
  iterate 3 (refine wpRel_det ?_; apply Exists.intro; refine ⟨fun W hI => ?_, ?_⟩; focus (have x1 := (SA.out.keep hI).c1; go_simp; first | exact ⟨rfl, grow_refl _ _⟩ | exact ⟨rfl, hI, grow_refl _ _⟩))
  refine wpRel_det ?_; apply Exists.intro; refine ⟨fun W hI => ?_, ?_⟩
  · go_simp
    have := rel_of (refTexts_any (.slice p l.length c) l W (RA.out.kept hI) HL.out) hI
    rw [← HY.out] at this
    exact this
  iterate 2 (refine wpRel_det ?_; apply Exists.intro; refine ⟨fun W hI => ?_, ?_⟩; focus (go_simp; first | exact ⟨rfl, grow_refl _ _⟩ | exact ⟨rfl, hI, grow_refl _ _⟩))
  refine wpRel_nil ?_
  intro w3 hI3
  have G3 := Lib.hid (grow_none GA.out hI3)
  clear hI3
  go_simp
  go_wp2
  go_ret
  exact ⟨by rw [HXY.out]; rfl, G3.out⟩
/-- How much there is, as the walk counts it. -/
def totG (l m : List ByteArray) : Nat → Nat
  | 0 => l.length + m.length
  | 1 => l.length + m.length + (allB l).length
  | _ => l.length + m.length + (allB l).length + (allB m).length
def GreatE (l m : List ByteArray) (w : World) (e : Ending) (w' : World) : Prop := ∃ t : Bool, e = .returned (.bool t) ∧ (t = false → totG l m 2 ≤ 3000) ∧ w.grownBy w' none
theorem allB_snoc' (l : List ByteArray) (k : Nat) (h : k < l.length) : (allB (l.take (k + 1))).length = (allB (l.take k)).length + (l.getD k ⟨#[]⟩).size := by
  unfold allB
  rw [List.take_succ_eq_append_getElem h, List.flatMap_append, List.getD, List.getElem?_eq_getElem h]
  simp only [List.flatMap_cons, List.flatMap_nil, List.append_nil, List.length_append, Option.getD_some]
  rw [Array.length_toList]; rfl
set_option maxRecDepth 100000 in
set_option maxHeartbeats 4000000 in
theorem great08_any (n : Int) (p p' : Option Addr) (c c' : Nat) (l m : List ByteArray) (w : World) (hr : RowAt w (.slice p l.length c) (l.map Value.string)) (hr' : RowAt w (.slice p' m.length c') (m.map Value.string)) (hs : ∀ s ∈ l, s.size ≤ maxLen) (hs' : ∀ s ∈ m, s.size ≤ maxLen)
    (hl : l.length + m.length ≤ 1000000000000000) :
    Calls Tryd.prog 18 #[.agg #[.int .i64 n, .slice p l.length c], .slice p' m.length c'] w (GreatE l m w) := by
  have hl1 : (l.length : Int) + m.length ≤ 1000000000000000 := by omega
  have hw1 : IntKind.i64.wrap ((l.length : Int) + m.length) = (l.length : Int) + m.length := wrapI (by omega) (by omega)
  obtain ⟨b, hb⟩ : ∃ b, b = w.heap.size := ⟨_, rfl⟩
  have gA := World.grownBy_alloc w (.cells #[.int .i64 n, .slice p l.length c] 30) none
  have sA := ShB.new w n (.slice p l.length c)
  rw [← hb] at sA
  obtain ⟨wA, hwA⟩ : ∃ wA, wA = w.alloc (.cells #[.int .i64 n, .slice p l.length c] 30) := ⟨_, rfl⟩
  have rA := hr.kept gA
  have rB := hr'.kept gA
  rw [← hwA] at sA gA rA rB
  have RA := Lib.hid rA
  have RB := Lib.hid rB
  have GA := Lib.hid gA
  have HB := Lib.hid hb
  have HWA := Lib.hid hwA
  have HS := Lib.hid hs
  have HS' := Lib.hid hs'
  have HL := Lib.hid hl
  have x1 := sA.c1
  clear hb gA sA hr hr' hwA hs hs' hl rA rB
  go_enter Tryd.func18, Tryd.ntmps18
  go_wp2_with fail
  rw [← HB.out, ← HWA.out]
  go_wp2
  clear x1 hw1 hl1
  go_loop [20, 5] (fun k t => ∃ i N : Nat, i ≤ 2 ∧ k = .int .i64 i ∧ t = .int .i64 N ∧ N = totG l m i ∧ N ≤ 1000000000000000) (fun k _ => 2 - (intOf k).toNat)
  case atStart => exact ⟨0, l.length + m.length, by omega, rfl, by go_num, rfl, HL.out⟩
  case round =>
    obtain ⟨i, N, hi, rfl, rfl, hN, hNB⟩ := hrel
    by_cases hi2 : i < 2
    · have hii : (i : Int) < 2 := by omega
      obtain ⟨x, px, cx, hrx, hidx, hT, hsx, hxl⟩ : ∃ (x : List ByteArray) (px : Option Addr) (cx : Nat), RowAt wA (.slice px x.length cx) (x.map Value.string) ∧
          (∀ W, (Instr.index 69 (.agg #[.slice p l.length c, .slice p' m.length c']) (.int .i64 (i : Int))).run Tryd.prog W = .ok (.slice px x.length cx) W) ∧ totG l m (i + 1) = totG l m i + (allB x).length ∧ (∀ s ∈ x, s.size ≤ maxLen) ∧ x.length ≤ 1000000000000000 := by
        match i, hi2 with
        | 0, _ => exact ⟨l, p, c, RA.out, fun W => by kernel_rfl, rfl, HS.out, by have := HL.out; omega⟩
        | 1, _ => exact ⟨m, p', c', RB.out, fun W => by kernel_rfl, rfl, HS'.out, by have := HL.out; omega⟩
      have HT : Hid (N + (allB x).length = totG l m (i + 1)) := by show _ = _; omega
      have HSX := Lib.hid hsx
      have HRX := Lib.hid hrx
      have HI := Lib.hid hi2
      have hlx : (x.length : Int) ≤ 1000000000000000 := by omega
      have HNB := Lib.hid hNB
      clear hN hsx hrx hi2 hi hT hxl hNB
      go_wp2
      clear hidx
      go_loop [25, 5] (fun j t => ∃ k T : Nat, k ≤ x.length ∧ j = .int .i64 k ∧ t = .int .i64 T ∧ T = N + (allB (x.take k)).length ∧ T ≤ 1000000000000000) (fun j _ => x.length - (intOf j).toNat)
      case atStart => exact ⟨0, N, Nat.zero_le _, rfl, rfl, by simp [allB], HNB.out⟩
      case round =>
        obtain ⟨k, T, hk, rfl, rfl, hT, hTB⟩ := hrel
        by_cases hlt : k < x.length
        · obtain ⟨bb, off, rfl, hcell, hbb⟩ := row_string HRX.out rfl hlt
          have hki : (k : Int) < x.length := by omega
          have hsn := allB_snoc' x k hlt
          have hys : (x.getD k ⟨#[]⟩).size ≤ maxLen := HSX.out _ (by rw [List.getD, List.getElem?_eq_getElem hlt]; exact List.getElem_mem hlt)
          obtain ⟨y, hy⟩ : ∃ y, y = x.getD k ⟨#[]⟩ := ⟨_, rfl⟩
          rw [← hy] at hcell hsn hys
          unfold maxLen at hys
          obtain ⟨M, hM⟩ : ∃ M, M = min y.size 1048576 := ⟨_, rfl⟩
          have hmin : min (y.size : Int) 1048576 = (M : Int) := by omega
          have hMi : (M : Int) ≤ 1048576 := by omega
          have hTi : (T : Int) ≤ 1000000000000000 := by omega
          have hwr : IntKind.i64.wrap ((T : Int) + M) = (T : Int) + M := wrapI (by omega) (by omega)
          by_cases h3 : 3000 < T + M
          · have h3i : decide ((3000 : Int) < (T : Int) + M) = true := decide_eq_true (by omega)
            clear hy hM hsn hT hTB h3 hys
            go_wp2
            go_ret
            exact ⟨true, rfl, (fun h => by cases h), GA.out⟩
          · have h3i : decide ((3000 : Int) < (T : Int) + M) = false := decide_eq_false (by omega)
            have HT2 : Hid (T + M = N + (allB (x.take (k + 1))).length) := by show _ = _; omega
            have HK := Lib.hid hlt
            have H3 := Lib.hid h3
            clear hy hM hsn hT hTB h3 hys hlt hk
            go_wp2
            go_round
            case rel => exact ⟨k + 1, T + M, by have := HK.out; omega, by go_num, by go_num, HT2.out, by have := H3.out; omega⟩
            case measure => have := HK.out; simp [intOf]; omega
        · have hki : (x.length : Int) ≤ (k : Int) := by omega
          have hT3 : T = totG l m (i + 1) := by rw [hT, List.take_of_length_le (by omega)]; exact HT.out
          have H3 := Lib.hid hT3
          have H4 := Lib.hid hTB
          clear hT hT3 hTB hlt hk
          go_wp2
          go_round
          case rel => exact ⟨i + 1, T, by have := HI.out; omega, by go_num, rfl, H3.out, H4.out⟩
          case measure => have := HI.out; simp [intOf]; omega
    · have hii : (2 : Int) ≤ (i : Int) := by omega
      have h2 : N = totG l m 2 := by rw [hN, show i = 2 by omega]
      have H2 := Lib.hid h2
      clear hN h2 hi hi2
      by_cases h3 : 3000 < N
      · have h3i : decide ((3000 : Int) < (N : Int)) = true := decide_eq_true (by omega)
        clear h3
        go_wp2
        go_ret
        exact ⟨true, rfl, (fun h => by cases h), GA.out⟩
      · have h3i : decide ((3000 : Int) < (N : Int)) = false := decide_eq_false (by omega)
        have H3 := Lib.hid h3
        clear h3
        go_wp2
        go_ret
        exact ⟨false, rfl, fun _ => by rw [← H2.out]; have := H3.out; omega, GA.out⟩
/-- A sheet of its own. -/
def OwnS (n : Int) (l : List ByteArray) (w : World) (e : Ending) (w' : World) : Prop := ∃ p c, e = .returned (.agg #[.int .i64 n, .slice p l.length c]) ∧ RowAt w' (.slice p l.length c) (l.map Value.string) ∧ w.grownBy w' none ∧ CapOk (.slice p l.length c)
theorem res_sheet1 {fn : Func} {p : Tmp} (h : fn.results = #[.cell p 30]) (tmps : Array Value) (w : World) (b : Nat) (n : Int) (v : Value) (hp : tmps.getD p undef = .pointer (some ⟨b, 0, none⟩)) (hs : ShB w b n v) :
    (results fn tmps).run Tryd.prog w = .ok (.agg #[.int .i64 n, v]) w := by
  have x0 := hs.c0
  have x1 := hs.c1
  simp only [results, h]
  have hp' : (tmps[p]?).getD undef = .pointer (some ⟨b, 0, none⟩) := by simpa [Array.getD_eq_getD_getElem?] using hp
  simp [hp']
  go_simp
theorem sheet_pair2 (w : World) (n : Int) (v : Value) : ShB ((w.alloc (.cells #[.int .i64 n, v] 30)).alloc (.cells #[.int .i64 0, .slice none 0 0] 30)) w.heap.size n v ∧
    ShB ((w.alloc (.cells #[.int .i64 n, v] 30)).alloc (.cells #[.int .i64 0, .slice none 0 0] 30)) (w.heap.size + 1) 0 (.slice none 0 0) ∧
    w.grownBy ((w.alloc (.cells #[.int .i64 n, v] 30)).alloc (.cells #[.int .i64 0, .slice none 0 0] 30)) none ∧
    ((w.alloc (.cells #[.int .i64 n, v] 30)).alloc (.cells #[.int .i64 0, .slice none 0 0] 30)).heap.size = w.heap.size + 2 := by
  refine ⟨(ShB.new w n _).keep (World.grownBy_alloc _ _ _), ?_, grow_none (World.grownBy_alloc _ _ _) (World.grownBy_alloc _ _ _), by rw [World.size_alloc, World.size_alloc]⟩
  have := ShB.new (w.alloc (.cells #[.int .i64 n, v] 30)) 0 (.slice none 0 0)
  rw [World.size_alloc] at this
  exact this
set_option maxRecDepth 100000 in
set_option maxHeartbeats 4000000 in
theorem own08_any (n : Int) (p : Option Addr) (c : Nat) (l : List ByteArray) (w : World) (hr : RowAt w (.slice p l.length c) (l.map Value.string)) (hl : l.length ≤ 1000000000) :
    Calls Tryd.prog 20 #[.agg #[.int .i64 n, .slice p l.length c]] w (OwnS n l w) := by
  obtain ⟨i0, hi, hz0, hz1, hz2⟩ := info_parts Tryd.infoS_string
  obtain ⟨sa, sb, gA, hsz⟩ := sheet_pair2 w n (.slice p l.length c)
  obtain ⟨wA, hwA⟩ : ∃ wA, wA = (w.alloc (Obj.cells #[Value.int IntKind.i64 n, Value.slice p l.length c] 30)).alloc (Obj.cells #[Value.int IntKind.i64 0, Value.slice none 0 0] 30) := ⟨_, rfl⟩
  obtain ⟨b, hb⟩ : ∃ b, b = w.heap.size := ⟨_, rfl⟩
  have rA := hr.kept gA
  rw [← hwA] at sa sb gA hsz rA
  rw [← hb] at sa sb hsz
  have gB := World.grownBy_alloc wA (.cells #[] 9) none
  have SA := Lib.hid (sa.keep gB)
  have SB := Lib.hid (sb.keep gB)
  have GB := Lib.hid (grow_none gA gB)
  have RB := Lib.hid (rA.kept gB)
  have HSZ := Lib.hid hsz
  have HL := Lib.hid hl
  have HB := Lib.hid hb
  have HWA := Lib.hid hwA
  have x1 := SA.out.c1
  clear sa sb gA hsz rA gB hl hr hb hwA
  go_enter Tryd.func20, Tryd.ntmps20
  go_upto_region 1 with (fail)
  rw [← HB.out, ← HWA.out]
  go_wp2_with (at_builtin; refine wpList_append_row _ rfl (.tmp 3) (.tmp 5) 22 (by with_reducible rfl) 9 i0 (.string ⟨#[]⟩) 16 Tryd.underlying22 hi hz0 hz1 hz2 rfl _ _ _ rfl (own_empty _ _ _) _ (l.map Value.string) rfl RB.out (onesS l) (by rw [List.length_map]; have := HL.out; show _ ≤ 2^63-1; omega) (by rw [List.length_map]; have := HL.out; omega) ?_)
  intro v4 w4 o4 g4 m4
  obtain ⟨pv, cv, rfl⟩ := own_form o4
  have hwb : w.heap.size ≤ wA.heap.size := by have := HSZ.out; have := HB.out; omega
  have N4 := Lib.hid ((newblk_at wA wA.heap.size 0 0 (Nat.le_refl _) 0).moved (w1 := wA.alloc (.cells #[] 9)) (by rw [World.size_alloc]; omega) m4)
  have X4 := Lib.hid (grow_newblk GB.out (newblk_at w wA.heap.size 0 0 hwb 0) g4)
  have s4 := SA.out.kept g4 (by simp [Value.ownBlock]; have := HSZ.out; omega)
  have s5 := SB.out.kept g4 (by simp [Value.ownBlock]; have := HSZ.out; omega)
  have x0 := s4.c0
  have x1 := s4.c1
  have f1 := s4.fr 1
  have y0 := s5.c0
  have y1 := s5.c1
  have e0 := s5.fr 0
  have e1 := s5.fr 1
  have S5 := Lib.hid s5
  have HCP := Lib.hid (own_capS o4)
  have hvb : (Value.slice pv l.length cv).ownBlock ≠ some b := fun e => by have := N4.out _ e; have := HSZ.out; omega
  have hvc : (Value.slice pv l.length cv).ownBlock ≠ some (b + 1) := fun e => by have := N4.out _ e; have := HSZ.out; omega
  have OF : Hid (∀ z0 z1 z2, RowAt (((w4.setCell ⟨b, 1, none⟩ z0).setCell ⟨b + 1, 0, none⟩ z1).setCell ⟨b + 1, 1, none⟩ z2) (.slice pv l.length cv) (l.map Value.string)) := by
    intro z0 z1 z2
    exact RowAt.of_own (((o4.kept (grow_set _ ⟨b, 1, none⟩ _) (.inr hvb)).kept (grow_set _ ⟨b + 1, 0, none⟩ _) (.inr hvc)).kept (grow_set _ ⟨b + 1, 1, none⟩ _) (.inr hvc))
  have SF : Hid (∀ z0, ShB (w4.setCell ⟨b, 1, none⟩ z0) (b + 1) 0 (.slice none 0 0)) := fun z0 => S5.out.kept (grow_set w4 ⟨b, 1, none⟩ z0) (by simp)
  clear o4 g4 m4 s4 s5 hvb hvc hwb
  go_simp
  go_wp2
  refine bodyPost_ret (res_sheet1 (fn := Tryd.f20) rfl _ _ (b + 1) n (.slice pv l.length cv) rfl ((SF.out _).set01 _ _)) rfl ?_
  exact ⟨pv, cv, rfl, OF.out _ _ _, grow_setnew (a := ⟨b + 1, 1, none⟩) (grow_setnew (a := ⟨b + 1, 0, none⟩) (grow_setnew (a := ⟨b, 1, none⟩) X4.out (by rw [HB.out]; exact Nat.le_refl _) _) (by rw [HB.out]; exact Nat.le_succ _) _) (by rw [HB.out]; exact Nat.le_succ _) _, HCP.out⟩
/-- A reader behind k texts: what is left of it, and whether it is spoilt. -/
def stT (t : ByteArray) (bad : Bool) : Nat → ByteArray × Bool
  | 0 => (t, bad)
  | k + 1 => (rTextS (stT t bad k).1 (stT t bad k).2, rCountB (stT t bad k).1 (stT t bad k).2)
def txT (t : ByteArray) (bad : Bool) (k : Nat) : List ByteArray := (List.range k).map fun j => rText (stT t bad j).1 (stT t bad j).2
theorem txT_len (t : ByteArray) (bad : Bool) (k : Nat) : (txT t bad k).length = k := by unfold txT; simp
theorem txT_snoc (t : ByteArray) (bad : Bool) (k : Nat) : (txT t bad (k + 1)).map Value.string = (txT t bad k).map Value.string ++ [Value.string (rText (stT t bad k).1 (stT t bad k).2)] := by
  unfold txT
  rw [List.range_succ]; simp
theorem stT_bad {t : ByteArray} {bad : Bool} {j : Nat} (h : (stT t bad j).2 = true) : ∀ d, (stT t bad (j + d)).2 = true
  | 0 => h
  | d + 1 => by
    have ih := stT_bad h d
    show rCountB _ (stT t bad (j + d)).2 = true
    rw [ih]; rfl
theorem stT_good {t : ByteArray} {bad : Bool} {j k : Nat} (h : (stT t bad k).2 = false) (hj : j ≤ k) : (stT t bad j).2 = false := by
  cases hb : (stT t bad j).2 with
  | false => rfl
  | true =>
    have := stT_bad hb (k - j)
    rw [show j + (k - j) = k by omega, h] at this
    cases this
theorem nextS_size (s : ByteArray) : (nextS s).size = s.size - (getN s).2 := by
  unfold nextS
  rw [ByteArray.size_extract]
  have := getN_used s
  omega
/-- Each text that is read takes a byte at least. -/
theorem stT_use {t : ByteArray} {bad : Bool} : ∀ {k : Nat}, (stT t bad k).2 = false → (stT t bad k).1.size + k ≤ t.size
  | 0, _ => Nat.le_refl _
  | k + 1, h => by
    have hk := stT_good h (Nat.le_succ k)
    have ih := stT_use hk
    have hc : rCountB (stT t bad k).1 (stT t bad k).2 = false := h
    show (rTextS (stT t bad k).1 (stT t bad k).2).size + (k + 1) ≤ t.size
    rw [hk] at hc ⊢
    obtain ⟨u, hu⟩ : ∃ u, u = (stT t bad k).1 := ⟨_, rfl⟩
    rw [← hu] at hc ih ⊢
    have hnb : nextBad u = false := by
      unfold rCountB sizeBad at hc
      simp only [Bool.false_or, Bool.or_eq_false_iff] at hc
      exact hc.2
    have h2 : (getN u).2 ≠ 0 := by
      unfold nextBad at hnb
      rw [beq_eq_false_iff_ne] at hnb
      omega
    have h3 := nextS_size u
    have h4 := getN_used u
    have e : rTextS u false = (nextS u).extract (sizeN u) (nextS u).size := rfl
    rw [e, ByteArray.size_extract]
    omega
/-- What Parse reads: the number, the texts, the reader behind them. -/
def psN (s : ByteArray) : Int := (getN s).1
def psC (s : ByteArray) : Nat := rCount (nextS s) (nextBad s)
def psT (s : ByteArray) (k : Nat) : ByteArray × Bool := stT (rNumS (nextS s) (nextBad s)) (rCountB (nextS s) (nextBad s)) k
def psL (s : ByteArray) (k : Nat) : List ByteArray := txT (rNumS (nextS s) (nextBad s)) (rCountB (nextS s) (nextBad s)) k
def psOk (s : ByteArray) : Bool := rDone (psT s (psC s)).1 (psT s (psC s)).2 && okS (psN s) (psL s (psC s))
/-- The sheet of bytes. -/
def prN (s : ByteArray) : Int := if psOk s = true then psN s else 0
def prL (s : ByteArray) : List ByteArray := if psOk s = true then psL s (psC s) else []
theorem psC_le (s : ByteArray) : psC s ≤ s.size := by
  unfold psC rCount
  split
  · exact Nat.zero_le _
  · have h1 := sizeN_le (nextS s)
    have h2 := nextS_size s
    have h3 := nextS_size (nextS s)
    omega
theorem stT_size (t : ByteArray) (bad : Bool) : ∀ k, (stT t bad k).1.size ≤ t.size
  | 0 => Nat.le_refl _
  | k + 1 => by
    have ih := stT_size t bad k
    show (rTextS (stT t bad k).1 (stT t bad k).2).size ≤ t.size
    unfold rTextS
    split
    · exact ih
    · rw [ByteArray.size_extract]
      have := nextS_size (stT t bad k).1
      omega
theorem psT_size (s : ByteArray) (k : Nat) : (psT s k).1.size ≤ s.size := by
  have h1 := stT_size (rNumS (nextS s) (nextBad s)) (rCountB (nextS s) (nextBad s)) k
  have h2 : (rNumS (nextS s) (nextBad s)).size ≤ s.size := by
    unfold rNumS
    have := nextS_size s
    have := nextS_size (nextS s)
    split <;> omega
  unfold psT
  omega
theorem done_iff (s : ByteArray) (bad : Bool) : rDone s bad = true ↔ bad = false ∧ s.size = 0 := by
  unfold rDone
  cases bad with
  | true => simp
  | false =>
    simp only [Bool.false_eq_true, if_false, true_and]
    rw [ByteArray.toList_eq, List.isEmpty_iff]
    constructor
    · intro h
      have : s.data.toList.length = 0 := by rw [h]; rfl
      rw [Array.length_toList] at this
      exact this
    · intro h
      apply List.eq_nil_of_length_eq_zero
      rw [Array.length_toList]; exact h
/-- What the document's Parse reads: as many texts as the number says, as long as nothing is wrong. -/
theorem ps_good {s : ByteArray} (h : rCountB (nextS s) (nextBad s) = false) : 0 ≤ (getN (nextS s)).1 ∧ psC s = (getN (nextS s)).1.toNat ∧ rNumS (nextS s) (nextBad s) = nextS (nextS s) ∧ nextBad s = false ∧ nextBad (nextS s) = false := by
  unfold rCountB at h
  rw [Bool.or_eq_false_iff] at h
  obtain ⟨h1, h2⟩ := h
  have h3 := h2
  unfold sizeBad at h3
  simp only [Bool.or_eq_false_iff, decide_eq_false_iff_not] at h3
  obtain ⟨⟨h4, h5⟩, h6⟩ := h3
  refine ⟨by omega, ?_, ?_, h1, h6⟩
  · unfold psC rCount
    rw [h1]
    simp only [Bool.false_eq_true, if_false]
    unfold sizeN
    rw [if_neg (by omega)]
  · unfold rNumS; rw [h1]; rfl
theorem RowAt.keptS {w w' : World} {v : Value} {xs : List Value} {r : Nat} (h : RowAt w v xs) (g : w.grownBy w' (some r)) (hne : ∀ k, v.ownBlock = some k → k ≠ r) : RowAt w' v xs := by
  obtain ⟨a, cap, rfl, h⟩ := h
  refine ⟨a, cap, rfl, ?_⟩
  rcases h with h | ⟨b, off, rfl, hb, hc⟩
  · exact .inl h
  · have hbr : b ≠ r := hne b rfl
    exact .inr ⟨b, off, rfl, Nat.lt_of_lt_of_le hb g.size, fun j hj => by
      rw [World.cell?_of_block (g.block b hb (by simpa using hbr))]; exact hc j hj⟩
/-- A slice that reads so, in a block other than r. -/
def VS (r : Nat) (xs : List Value) (v : Value) (W : World) : Prop := RowAt W v xs ∧ ∀ k, v.ownBlock = some k → k ≠ r
theorem VS.kept {r : Nat} {xs : List Value} {v : Value} {w w' : World} (h : VS r xs v w) (g : w.grownBy w' (some r)) : VS r xs v w' := ⟨h.1.keptS g h.2, h.2⟩
theorem VS.lit (W : World) (x : Value) (t : TypeId) {r : Nat} (hr : r < W.heap.size) : VS r [x] (.slice (some ⟨W.heap.size, 0, none⟩) 1 1) (W.alloc (.cells #[x] t)) :=
  ⟨RowAt.lit W [x] t 1 1 rfl, fun k hk => by simp [Value.ownBlock] at hk; omega⟩
/-- The worlds of a reader's call: ahead of it, and behind it. -/
def PI (r : Nat) (wr : World) (t : ByteArray) (bd : Bool) (t' : ByteArray) (bd' : Bool) (j : Nat) (W : World) : Prop := wr.grownBy W (some r) ∧ (if j = 0 then Rd W r t bd else Rd W r t' bd')
theorem PI.alloc {r : Nat} {wr : World} {t t' : ByteArray} {bd bd' : Bool} {j : Nat} {W : World} (h : PI r wr t bd t' bd' j W) (o : Obj) : PI r wr t bd t' bd' j (W.alloc o) := by
  refine ⟨grow_same h.1 (grow_any (World.grownBy_alloc _ _ _) _), ?_⟩
  have := h.2
  split
  · rename_i e; rw [if_pos e] at this; exact this.alloc o
  · rename_i e; rw [if_neg e] at this; exact this.alloc o
theorem PI.start {r : Nat} {wr : World} {t t' : ByteArray} {bd bd' : Bool} (h : Rd wr r t bd) : PI r wr t bd t' bd' 0 wr.drew := ⟨grow_any (grow_drawn (grow_refl _ _)) _, h⟩
theorem text_pi {r : Nat} {wr W : World} {t t' : ByteArray} {bd bd' : Bool} {x : ByteArray} (ht : t' = rTextS t bd) (hb : bd' = rCountB t bd) (hx : x = rText t bd) (hs : t.size ≤ 1000000000000000) (h : PI r wr t bd t' bd' 0 W) :
    Calls Tryd.prog 49 #[.pointer (some ⟨r, 0, none⟩)] W fun e w' => ∃ u, e = .returned u ∧ u = .string x ∧ PI r wr t bd t' bd' 1 w' ∧ W.grownBy w' (some r) :=
  (Text_any2 r t bd W h.2 hs).mono fun e w' ⟨he, hr, g⟩ => ⟨_, he, by rw [hx], ⟨grow_same h.1 g, by rw [ht, hb]; exact hr⟩, g⟩
/-- What Parse answers: the sheet and the error, or whether it is one. -/
def Parsed (s : ByteArray) (E : Value) (w : World) (e : Ending) (w' : World) : Prop := ∃ p c, e = .returned (.tuple #[.agg #[.int .i64 (prN s), .slice p (prL s).length c], E]) ∧ RowAt w' (.slice p (prL s).length c) ((prL s).map Value.string) ∧ w.grownBy w' none ∧ CapOk (.slice p (prL s).length c)
theorem sheet_pair3 (w1 w2 : World) (n : Int) (v : Value) (a : Nat) (h : ShB w1 a 0 (.slice none 0 0)) : ShB (w1.alloc (.cells #[.int .i64 n, v] 30)) a 0 (.slice none 0 0) ∧ ShB (w1.alloc (.cells #[.int .i64 n, v] 30)) w1.heap.size n v :=
  ⟨h.keep (World.grownBy_alloc _ _ _), ShB.new _ _ _⟩
set_option maxRecDepth 100000 in
set_option maxHeartbeats 4000000 in
theorem Parse_any (s : ByteArray) (w : World) (hs : s.size ≤ 1000000) :
    Calls Tryd.prog 24 #[.string s] w (Parsed s (.int .i64 (if psOk s = true then 0 else 3)) w) := by
  obtain ⟨i0, hi, hz0, hz1, hz2⟩ := info_parts Tryd.infoS_string
  obtain ⟨E, hE⟩ : ∃ E : Int, E = if psOk s = true then 0 else 3 := ⟨_, rfl⟩
  rw [← hE]
  have HE := Lib.hid hE
  have HSZ := Lib.hid hs
  have hC := psC_le s
  have hCi : (psC s : Int) ≤ 1000000 := by omega
  have HCI := Lib.hid hCi
  have sa := ShB.new w 0 (.slice none 0 0)
  have ga := World.grownBy_alloc w (.cells #[.int .i64 0, .slice none 0 0] 30) none
  obtain ⟨a, ha⟩ : ∃ a, a = w.heap.size := ⟨_, rfl⟩
  obtain ⟨wA, hwA⟩ : ∃ wA, wA = w.alloc (.cells #[.int .i64 0, .slice none 0 0] 30) := ⟨_, rfl⟩
  rw [← hwA, ← ha] at sa
  rw [← hwA] at ga
  have HA := Lib.hid ha
  have HWA := Lib.hid hwA
  clear hE hs hC ha hwA
  go_enter Tryd.func24, Tryd.ntmps24
  go_wp2_with fail
  rw [← HA.out, ← HWA.out]
  refine (Read_any s wA).mono ?_
  rintro e w1 ⟨r, rfl, hr1, g1, hr0⟩
  have sa1 := sa.keep g1
  have hra : a < r := by have := sa.lt; omega
  go_wp2_with fail
  refine (Num_any r s false w1 hr1 (by have := HSZ.out; omega)).mono ?_
  rintro e w2 ⟨rfl, hr2, g2⟩
  rw [show rNumS s false = nextS s from rfl, show rNumB s false = nextBad s by simp [rNumB]] at hr2
  rw [show rNum s false = psN s from rfl]
  have sa2 := sa1.kept g2 (by simp; omega)
  have G2 := grow_wrote (grow_none ga g1) (by have := HA.out; omega) g2
  obtain ⟨sa3, sb3⟩ := sheet_pair3 w2 w2 (psN s) (.slice none 0 0) a sa2
  have hr3 := hr2.alloc (.cells #[.int .i64 (psN s), .slice none 0 0] 30)
  have G3 := grow_none G2 (World.grownBy_alloc w2 (.cells #[.int .i64 (psN s), .slice none 0 0] 30) none)
  have hrb : r < w2.heap.size := hr2.lt
  obtain ⟨b, hb⟩ : ∃ b, b = w2.heap.size := ⟨_, rfl⟩
  obtain ⟨w3, hw3⟩ : ∃ w3, w3 = w2.alloc (.cells #[.int .i64 (psN s), .slice none 0 0] 30) := ⟨_, rfl⟩
  rw [← hw3] at sa3 sb3 hr3 G3
  rw [← hb] at sb3 hrb
  have HB := Lib.hid hb
  have HW3 := Lib.hid hw3
  clear hb hw3 sa sa1 sa2 ga g1 g2 G2 hr1 hr2 hr0
  go_wp2_with fail
  rw [← HB.out, ← HW3.out]
  refine (Count_any r (nextS s) (nextBad s) w3 hr3 (by have := HSZ.out; have := nextS_size s; omega)).mono ?_
  rintro e w4 ⟨rfl, hr4, g4⟩
  rw [show rCount (nextS s) (nextBad s) = psC s from rfl]
  have SA := Lib.hid (sa3.kept g4 (by simp; omega))
  have SB := Lib.hid (sb3.kept g4 (by simp; omega))
  have RD : Hid (Rd w4 r (psT s 0).1 (psT s 0).2) := hr4
  have GG := Lib.hid (grow_wrote G3 (by have := HA.out; omega) g4)
  have HRA := Lib.hid hra
  have HRB := Lib.hid hrb
  have hb4 : b < w4.heap.size := SB.out.lt
  have HB4 := Lib.hid hb4
  clear sa3 sb3 hr3 hr4 G3 g4 hra hrb hb4
  go_wp2
  go_loopw [13] (fun i wr => ∃ k v, k ≤ psC s ∧ i = .int .i64 (k : Nat) ∧ Rd wr r (psT s k).1 (psT s k).2 ∧ ShB wr a 0 (.slice none 0 0) ∧ ShB wr b (psN s) v ∧ wr.ownsRow 0 9 1 v k ((psL s k).map Value.string) ∧ NewBlk w4 v ∧ w.grownBy wr none ∧ w4.heap.size ≤ wr.heap.size) (fun i _ => psC s - (intOf i).toNat)
  case atStart => exact ⟨0, _, Nat.zero_le _, rfl, RD.out, SA.out, SB.out, ⟨by simp [psL, txT], .inl ⟨rfl, rfl⟩⟩, fun k hk => by simp [Value.ownBlock] at hk, GG.out, Nat.le_refl _⟩
  case round =>
    clear SA SB RD GG
    obtain ⟨k, v, hk, rfl, hrd, hsa, hsb, ho, hn, hg, hsz⟩ := hrel
    have hva : v.ownBlock ≠ some a := fun e => by have := hn _ e; have := HB4.out; have := HRA.out; have := HRB.out; omega
    have hvb : v.ownBlock ≠ some b := fun e => by have := hn _ e; have := HB4.out; omega
    have hvr : v.ownBlock ≠ some r := fun e => by have := hn _ e; have := HB4.out; have := HRB.out; omega
    by_cases hlt : k < psC s
    · have hki : (k : Int) < psC s := by omega
      have hk8 : (k : Int) < 1000000 := by omega
      have hwk : IntKind.i64.wrap ((k : Int) + 1) = (k : Int) + 1 := wrapI (by omega) (by omega)
      obtain ⟨x, hx⟩ : ∃ x, x = rText (psT s k).1 (psT s k).2 := ⟨_, rfl⟩
      have HSN : Hid ((psL s (k + 1)).map Value.string = (psL s k).map Value.string ++ [Value.string x]) := by rw [hx]; exact txT_snoc _ _ k
      have HX := Lib.hid hx
      have hts := psT_size s k
      have HTS : Hid ((psT s k).1.size ≤ 1000000000000000) := by have := HSZ.out; show _ ≤ _; omega
      have HRD := Lib.hid hrd
      have HSA := Lib.hid hsa
      have HSB := Lib.hid hsb
      have HO := Lib.hid ho
      have HN := Lib.hid hn
      have HG := Lib.hid hg
      have HK := Lib.hid hlt
      have HS4 := Lib.hid hsz
      have HVA := Lib.hid hva
      have HVB := Lib.hid hvb
      have HVR := Lib.hid hvr
      clear hx hts hrd hsa hsb ho hn hg hlt hk hsz hva hvb hvr
      go_wp2
      refine wp_region_calls 5 _ _ [3] (PI r wr (psT s k).1 (psT s k).2 (psT s (k + 1)).1 (psT s (k + 1)).2) (fun W W' => W.grownBy W' (some r)) (by simp only [List.take_succ_cons, List.take_zero]; exact rfl) (by simp only [List.drop_succ_cons, List.drop_zero]; exact rfl) (by kernel_rfl) (by kernel_rfl) (by kernel_rfl) (by kernel_rfl) (fun W => grow_refl W _) (PI.start HRD.out) ?_
      iterate 3 (refine wpRelC_det rfl ?_; apply Exists.intro; refine ⟨fun j W hI => ?_, ?_⟩; focus (have x1 := (HSB.out.kept hI.1 (by have := HRB.out; simp; omega)).c1; go_simp; first | exact ⟨rfl, grow_refl _ _⟩ | exact ⟨rfl, hI, grow_refl _ _⟩))
      refine wpRelC_call 0 rfl ?_; apply Exists.intro; refine ⟨fun W hI => ?_, ?_⟩
      · go_simp
        exact text_pi rfl rfl HX.out HTS.out hI
      refine wpRelC_step (VS r [.string x]) rfl (fun v w w' g h => VS.kept h g) (fun j W hI => ?_) ?_
      · have hlt : r < W.heap.size := Nat.lt_of_lt_of_le HRD.out.lt hI.1.size
        go_simp
        exact ⟨VS.lit W (.string x) _ hlt, hI.alloc _, grow_any (World.grownBy_alloc _ _ _) _⟩
      refine wpRelC_nil ?_
      intro w5 hI5
      go_simp
      intro vr hv
      have oA : w5.ownsRow 0 9 1 v k ((psL s k).map Value.string) := HO.out.kept hI5.1 (.inr HVR.out)
      refine wpList_append_row _ rfl (.tmp 16) (.tmp 19) 22 (by with_reducible rfl) 9 i0 (.string ⟨#[]⟩) 16 Tryd.underlying22 hi hz0 hz1 hz2 rfl _ _ _ rfl oA _ [.string x] rfl hv.1 (onesS [x]) (by show k + 1 ≤ 2^63-1; omega) (by show (k + 1) * 16 ≤ _; omega) ?_
      intro v6 w6 o6 g6 m6
      obtain ⟨pv, cv, rfl⟩ := own_form o6
      have N6 := HN.out.moved (Nat.le_trans HS4.out hI5.1.size) m6
      have hsz6 : w4.heap.size ≤ w6.heap.size := Nat.le_trans (Nat.le_trans HS4.out hI5.1.size) g6.size
      have s6b := (HSB.out.kept hI5.1 (by have := HRB.out; simp; omega)).kept g6 HVB.out
      have s6a := (HSA.out.kept hI5.1 (by have := HRA.out; simp; omega)).kept g6 HVA.out
      have r6 : Rd w6 r (psT s (k + 1)).1 (psT s (k + 1)).2 := Rd.kept (show Rd w5 r (psT s (k + 1)).1 (psT s (k + 1)).2 from hI5.2) g6 HVR.out
      have n6 : NewBlk w v := fun k hk => by have := HN.out k hk; have := HG.out.size; have := HS4.out; have := HB4.out; have := HRA.out; have := HRB.out; have := HA.out; omega
      have X6 := grow_newblk (grow_wrote HG.out (by have := HA.out; have := HRA.out; omega) hI5.1) n6 g6
      have O6 : w6.ownsRow 0 9 1 (.slice pv (k + 1) cv) (k + 1) ((psL s (k + 1)).map Value.string) := by
        rw [HSN.out]
        exact o6
      have hv6 : (Value.slice pv (k + 1) cv).ownBlock ≠ some b := fun e => by have := N6 _ e; have := HB4.out; omega
      have O7 : Hid (∀ z, (w6.setCell ⟨b, 1, none⟩ z).ownsRow 0 9 1 (.slice pv (k + 1) cv) (k + 1) ((psL s (k + 1)).map Value.string)) := fun z => O6.kept (grow_set _ _ _) (.inr hv6)
      have R7 : Hid (∀ z, Rd (w6.setCell ⟨b, 1, none⟩ z) r (psT s (k + 1)).1 (psT s (k + 1)).2) := fun z => r6.kept (grow_set w6 ⟨b, 1, none⟩ z) (by have := HRB.out; simp; omega)
      have A7 : Hid (∀ z, ShB (w6.setCell ⟨b, 1, none⟩ z) a 0 (.slice none 0 0)) := fun z => s6a.kept (grow_set w6 ⟨b, 1, none⟩ z) (by have := HRB.out; have := HRA.out; simp; omega)
      have B7 : Hid (∀ z, ShB (w6.setCell ⟨b, 1, none⟩ z) b (psN s) z) := fun z => s6b.set1 z
      have X7 : Hid (∀ z, w.grownBy (w6.setCell ⟨b, 1, none⟩ z) none) := fun z => grow_setnew (a := ⟨b, 1, none⟩) X6 (by have := HA.out; have := HRA.out; have := HRB.out; show _ ≤ b; omega) z
      have N7 := Lib.hid N6
      have Z7 : Hid (∀ z, w4.heap.size ≤ (w6.setCell ⟨b, 1, none⟩ z).heap.size) := fun z => Nat.le_trans hsz6 (grow_set w6 ⟨b, 1, none⟩ z).size
      have y1 := s6b.c1
      have f1 := s6b.fr 1
      clear o6 g6 m6 oA hv hI5 N6 hsz6 s6b s6a r6 n6 X6 O6 hv6
      go_simp
      go_wp2
      go_roundw
      case rel => exact ⟨k + 1, _, by have := HK.out; omega, by go_num, R7.out _, A7.out _, B7.out _, O7.out _, N7.out, X7.out _, Z7.out _⟩
      case measure => have := HK.out; simp [intOf]; omega
    · have hki : (psC s : Int) ≤ (k : Int) := by omega
      obtain rfl : k = psC s := by omega
      obtain ⟨pv, cv, rfl⟩ := own_form ho
      have HCP := Lib.hid (own_capS ho)
      clear hlt hk hn hvb hsz
      go_wp2_with fail
      refine (Done_any r _ _ wr hrd).mono ?_
      rintro e w5 ⟨rfl, hr5, g5⟩
      have a5 := hsa.kept g5 (by have := HRA.out; simp; omega)
      have b5 := hsb.kept g5 (by have := HRB.out; simp; omega)
      have o5 := ho.kept g5 (.inr hvr)
      have G5 := Lib.hid (grow_wrote hg (by have := HA.out; have := HRA.out; omega) g5)
      have A5 := Lib.hid a5
      have HVA := Lib.hid hva
      have O5 := Lib.hid o5
      have hlen : (psL s (psC s)).length = psC s := txT_len _ _ _
      clear hrd hsa hsb ho hg g5 hr5 hva hvr o5
      have x0 := a5.c0
      have x1 := a5.c1
      have f0 := a5.fr 0
      have f1 := a5.fr 1
      have y0 := b5.c0
      have y1 := b5.c1
      clear a5 b5
      cases hD : rDone (psT s (psC s)).1 (psT s (psC s)).2 with
      | false =>
        have hok : psOk s = false := by unfold psOk; rw [hD]; rfl
        have HN : Hid (prN s = 0) := by show _ = _; unfold prN; rw [hok]; rfl
        have HL : Hid (prL s = []) := by show _ = _; unfold prL; rw [hok]; rfl
        have HE3 : Hid (E = 3) := by show _ = _; rw [HE.out, hok]; rfl
        clear hok hD
        go_wp2
        refine bodyPost_ret (res_sheet (fn := Tryd.f24) rfl _ _ a 0 (.slice none 0 0) rfl (A5.out.set01 _ _)) rfl ?_
        refine ⟨none, 0, by rw [HN.out, HL.out, HE3.out]; rfl, ?_, grow_setnew (a := ⟨a, 1, none⟩) (grow_setnew (a := ⟨a, 0, none⟩) G5.out (by rw [HA.out]; exact Nat.le_refl _) _) (by rw [HA.out]; exact Nat.le_refl _) _, ?_⟩
        · rw [HL.out]; exact ⟨none, 0, rfl, .inl rfl⟩
        · rw [HL.out]; exact capok_lit _ _
      | true =>
        have R5 : Hid (RowAt w5 (.slice pv (psL s (psC s)).length cv) ((psL s (psC s)).map Value.string)) := by rw [hlen]; exact RowAt.of_own O5.out
        have hbd : -9223372036854775808 ≤ psN s ∧ psN s ≤ 9223372036854775807 := getN_bd s
        have HBD := Lib.hid hbd
        have HLEN := Lib.hid hlen
        have HDD := Lib.hid hD
        clear hbd hlen hD
        go_wp2_with fail
        have hck := Check_any (psN s) pv cv (psL s (psC s)) w5 R5.out HBD.out (by rw [HLEN.out]; have := HCI.out; show _ ≤ 2^63-1; omega)
        rw [HLEN.out] at hck
        refine hck.mono ?_
        rintro e w6 ⟨rfl, g6⟩
        have A6 := Lib.hid (A5.out.keep g6)
        have G6 := Lib.hid (grow_none G5.out g6)
        have O6 := Lib.hid (own_keep O5.out g6)
        have x0 := A6.out.c0
        have x1 := A6.out.c1
        have f0 := A6.out.fr 0
        have f1 := A6.out.fr 1
        have b6 := World.cell?_of_block (w := w5) (w' := w6) (a := ⟨b, 0, none⟩) (g6.block b (World.block_lt_of_cell? _ _ y0) (by simp))
        have b7 := World.cell?_of_block (w := w5) (w' := w6) (a := ⟨b, 1, none⟩) (g6.block b (World.block_lt_of_cell? _ _ y0) (by simp))
        rw [y0] at b6
        rw [y1] at b7
        clear g6 hck y0 y1
        cases hK : okS (psN s) (psL s (psC s)) with
        | false =>
          have hok : psOk s = false := by unfold psOk; rw [HDD.out, hK]; rfl
          have HN : Hid (prN s = 0) := by show _ = _; unfold prN; rw [hok]; rfl
          have HL : Hid (prL s = []) := by show _ = _; unfold prL; rw [hok]; rfl
          have HE3 : Hid (E = 3) := by show _ = _; rw [HE.out, hok]; rfl
          have e3 : ckN (psN s) (psL s (psC s)) = 3 := by unfold ckN; rw [hK]; rfl
          rw [e3]
          clear hok hK e3
          go_wp2
          refine bodyPost_ret (res_sheet (fn := Tryd.f24) rfl _ _ a 0 (.slice none 0 0) rfl (A6.out.set01 _ _)) rfl ?_
          refine ⟨none, 0, by rw [HN.out, HL.out, HE3.out]; rfl, ?_, grow_setnew (a := ⟨a, 1, none⟩) (grow_setnew (a := ⟨a, 0, none⟩) G6.out (by rw [HA.out]; exact Nat.le_refl _) _) (by rw [HA.out]; exact Nat.le_refl _) _, ?_⟩
          · rw [HL.out]; exact ⟨none, 0, rfl, .inl rfl⟩
          · rw [HL.out]; exact capok_lit _ _
        | true =>
          have hok : psOk s = true := by unfold psOk; rw [HDD.out, hK]; rfl
          have HN : Hid (prN s = psN s) := by show _ = _; unfold prN; rw [if_pos hok]
          have HL : Hid (prL s = psL s (psC s)) := by show _ = _; unfold prL; rw [if_pos hok]
          have HE3 : Hid (E = 0) := by show _ = _; rw [HE.out, if_pos hok]
          have e3 : ckN (psN s) (psL s (psC s)) = 0 := by unfold ckN; rw [hK]; rfl
          rw [e3]
          clear hok hK e3
          go_wp2
          refine bodyPost_ret (res_sheet (fn := Tryd.f24) rfl _ _ a (psN s) (.slice pv (psC s) cv) rfl (A6.out.set01 _ _)) rfl ?_
          refine ⟨pv, cv, by rw [HN.out, HL.out, HE3.out, HLEN.out]; rfl, ?_, grow_setnew (a := ⟨a, 1, none⟩) (grow_setnew (a := ⟨a, 0, none⟩) G6.out (by rw [HA.out]; exact Nat.le_refl _) _) (by rw [HA.out]; exact Nat.le_refl _) _, ?_⟩
          · rw [HL.out, HLEN.out]; exact RowAt.of_own ((O6.out.kept (grow_set _ _ _) (.inr HVA.out)).kept (grow_set _ _ _) (.inr HVA.out))
          · rw [HL.out, HLEN.out]; exact HCP.out
/-- Behind the two numbers. -/
def t0R (s : ByteArray) : ByteArray := nextS (nextS s)
def b0R (s : ByteArray) : Bool := nextBad s || nextBad (nextS s)
def n2R (s : ByteArray) : Int := if nextBad s = true then 0 else (getN (nextS s)).1
theorem n2R_bd (s : ByteArray) : -9223372036854775808 ≤ n2R s ∧ n2R s ≤ 9223372036854775807 := by
  unfold n2R
  split
  · omega
  · exact getN_bd _
theorem t0R_size (s : ByteArray) : (t0R s).size ≤ s.size := by
  unfold t0R
  have := nextS_size s
  have := nextS_size (nextS s)
  omega
theorem ref_ok {s : ByteArray} {k : Nat} (hbd : (stT (t0R s) (b0R s) k).2 = false) (hz : (stT (t0R s) (b0R s) k).1.size = 0) (hn : (k : Int) = n2R s) (hok : okS (psN s) (txT (t0R s) (b0R s) k) = true) : psOk s = true := by
  have hb0 : b0R s = false := stT_good hbd (Nat.zero_le k)
  have hu := stT_use hbd
  have hb1 := hb0
  unfold b0R at hb1
  rw [Bool.or_eq_false_iff] at hb1
  obtain ⟨h1, h2⟩ := hb1
  unfold n2R at hn
  rw [if_neg (by rw [h1]; simp)] at hn
  have hc : rCountB (nextS s) (nextBad s) = false := by
    unfold rCountB sizeBad
    rw [h1, h2]
    simp only [Bool.false_or, Bool.or_false, Bool.or_eq_false_iff, decide_eq_false_iff_not]
    unfold t0R at hu
    exact ⟨by omega, by omega⟩
  obtain ⟨_, e1, e2, _, _⟩ := ps_good hc
  have e3 : psC s = k := by rw [e1]; omega
  have e4 : psT s (psC s) = stT (t0R s) (b0R s) k := by unfold psT; rw [e2, hc, e3, hb0]; rfl
  have e5 : psL s (psC s) = txT (t0R s) (b0R s) k := by unfold psL; rw [e2, hc, e3, hb0]; rfl
  unfold psOk
  rw [e4, e5, hok, Bool.and_true]
  exact (done_iff _ _).2 ⟨hbd, hz⟩
theorem ok_ref {s : ByteArray} (h : psOk s = true) : b0R s = false ∧ n2R s = (psC s : Int) ∧ (∀ j, psT s j = stT (t0R s) (b0R s) j) ∧ (∀ j, psL s j = txT (t0R s) (b0R s) j) ∧ (psT s (psC s)).2 = false ∧ (psT s (psC s)).1.size = 0 ∧ okS (psN s) (psL s (psC s)) = true := by
  unfold psOk at h
  rw [Bool.and_eq_true] at h
  obtain ⟨h1, h2⟩ := h
  obtain ⟨h3, h4⟩ := (done_iff _ _).1 h1
  have hc : rCountB (nextS s) (nextBad s) = false := stT_good (j := 0) h3 (Nat.zero_le _)
  obtain ⟨e0, e1, e2, e3, e4⟩ := ps_good hc
  have hb0 : b0R s = false := by unfold b0R; rw [e3, e4]; rfl
  refine ⟨hb0, ?_, fun j => by unfold psT; rw [e2, hc, hb0]; rfl, fun j => by unfold psL; rw [e2, hc, hb0]; rfl, h3, h4, h2⟩
  unfold n2R
  rw [if_neg (by rw [e3]; simp), e1]; omega
/-- The worlds of the document's reader's call: ahead of it, and behind it. -/
def PR (r : Nat) (wr : World) (s : ByteArray) (p : Nat) (bd : Bool) (t' : ByteArray) (bd' : Bool) (j : Nat) (W : World) : Prop := wr.grownBy W (some r) ∧ (if j = 0 then Rr W r s p bd else ∃ p', (bd' = false → rest s p' = t') ∧ p' ≤ s.size ∧ Rr W r s p' bd')
theorem PR.alloc {r : Nat} {wr : World} {s t' : ByteArray} {p : Nat} {bd bd' : Bool} {j : Nat} {W : World} (h : PR r wr s p bd t' bd' j W) (o : Obj) : PR r wr s p bd t' bd' j (W.alloc o) := by
  refine ⟨grow_same h.1 (grow_any (World.grownBy_alloc _ _ _) _), ?_⟩
  have := h.2
  split
  · rename_i e; rw [if_pos e] at this; exact this.kept (World.grownBy_alloc W o none) (by simp)
  · rename_i e; rw [if_neg e] at this; obtain ⟨p', h1, h2, h3⟩ := this; exact ⟨p', h1, h2, h3.kept (World.grownBy_alloc W o none) (by simp)⟩
theorem PR.start {r : Nat} {wr : World} {s t' : ByteArray} {p : Nat} {bd bd' : Bool} (h : Rr wr r s p bd) : PR r wr s p bd t' bd' 0 wr.drew := ⟨grow_any (grow_drawn (grow_refl _ _)) _, h⟩
theorem text_pr {r : Nat} {wr W : World} {s t t' : ByteArray} {p : Nat} {bd' : Bool} {x : ByteArray} (htp : rest s p = t) (ht : t' = rTextS t false) (hb : bd' = rCountB t false) (hx : x = rText t false) (hp : p ≤ s.size) (hs : s.size ≤ 1000000000000000) (h : PR r wr s p false t' bd' 0 W) :
    Calls Tryd.prog 52 #[.pointer (some ⟨r, 0, none⟩)] W fun e w' => ∃ u, e = .returned u ∧ u = .string x ∧ PR r wr s p false t' bd' 1 w' ∧ W.grownBy w' (some r) := by
  subst htp
  exact (refText_any r s p false W h.2 hp hs).mono fun e w' ⟨he, ⟨p', h1, h2, h3⟩, g⟩ => ⟨_, he, by rw [hx], ⟨grow_same h.1 g, p', by rw [ht, hb]; exact h1, h2, by rw [hb]; exact h3⟩, g⟩
theorem rest_all (s : ByteArray) : rest s 0 = s := by
  unfold rest
  apply ByteArray.ext
  simp
/-- The second number. -/
theorem num2_any (r : Nat) (s : ByteArray) (w : World) (h : Rr w r s (getN s).2 (nextBad s)) (hs : s.size ≤ 1000000) :
    Calls Tryd.prog 51 #[.pointer (some ⟨r, 0, none⟩)] w fun e w' => e = .returned (.int .i64 (n2R s)) ∧ (∃ p, (b0R s = false → rest s p = t0R s) ∧ p ≤ s.size ∧ Rr w' r s p (b0R s)) ∧ w.grownBy w' (some r) := by
  have hu := getN_used s
  have er : rest s (getN s).2 = nextS s := by
    have := rest_next s 0
    rw [rest_all, Nat.zero_add] at this
    exact this.symm
  cases hb : nextBad s with
  | true =>
    rw [hb] at h
    refine (refRNum_bad r s _ w h).mono ?_
    rintro e w' ⟨rfl, rfl⟩
    have e1 : n2R s = 0 := by unfold n2R; rw [if_pos hb]
    have e2 : b0R s = true := by unfold b0R; rw [hb]; rfl
    rw [e1, e2]
    exact ⟨rfl, ⟨_, (fun h => by cases h), hu, h⟩, grow_refl _ _⟩
  | false =>
    rw [hb] at h
    refine (refRNum_good r s _ w h hu (by omega)).mono ?_
    rintro e w' ⟨rfl, h2, g⟩
    rw [er] at h2 ⊢
    have e1 : n2R s = (getN (nextS s)).1 := by unfold n2R; rw [if_neg (by rw [hb]; simp)]
    have e2 : b0R s = nextBad (nextS s) := by unfold b0R; rw [hb]; rfl
    rw [e1, e2]
    refine ⟨rfl, ⟨_, fun _ => ?_, ?_, h2⟩, g⟩
    · have := rest_next s (getN s).2
      rw [er] at this
      exact this.symm
    · have h3 := getN_used (nextS s)
      have h4 := nextS_size s
      omega
set_option maxRecDepth 100000 in
set_option maxHeartbeats 4000000 in
theorem refParse_any (s : ByteArray) (w : World) (hs : s.size ≤ 1000000) :
    Calls Tryd.prog 25 #[.string s] w (Parsed s (.bool (psOk s)) w) := by
  obtain ⟨i0, hi, hz0, hz1, hz2⟩ := info_parts Tryd.infoS_string
  obtain ⟨E, hE⟩ : ∃ E : Bool, E = psOk s := ⟨_, rfl⟩
  rw [← hE]
  have HE := Lib.hid hE
  have HSZ := Lib.hid hs
  have sa := ShB.new w 0 (.slice none 0 0)
  have ga := World.grownBy_alloc w (.cells #[.int .i64 0, .slice none 0 0] 30) none
  obtain ⟨a, ha⟩ : ∃ a, a = w.heap.size := ⟨_, rfl⟩
  obtain ⟨wA, hwA⟩ : ∃ wA, wA = w.alloc (.cells #[.int .i64 0, .slice none 0 0] 30) := ⟨_, rfl⟩
  have haA : wA.heap.size = a + 1 := by rw [hwA, ha, World.size_alloc]
  rw [← hwA, ← ha] at sa
  rw [← hwA] at ga
  have hr1 : Rr (wA.alloc (.cells #[.string s, .int .i64 0, .bool false] 77)) wA.heap.size s 0 false := heap_alloc_new _ _
  have g1 := World.grownBy_alloc wA (.cells #[.string s, .int .i64 0, .bool false] 77) none
  obtain ⟨r, hr⟩ : ∃ r, r = wA.heap.size := ⟨_, rfl⟩
  obtain ⟨w1, hw1⟩ : ∃ w1, w1 = wA.alloc (.cells #[.string s, .int .i64 0, .bool false] 77) := ⟨_, rfl⟩
  rw [← hw1, ← hr] at hr1
  rw [← hw1] at g1
  have HA := Lib.hid ha
  have HWA := Lib.hid hwA
  rw [haA] at hr
  have HR := Lib.hid hr
  have HW1 := Lib.hid hw1
  have hra : a < r := by omega
  have sa1 := sa.keep g1
  clear hE hs ha hwA hr hw1 haA
  go_enter Tryd.func25, Tryd.ntmps25
  go_wp2_with fail
  rw [← HA.out, ← HWA.out, ← HR.out, ← HW1.out]
  refine (refRNum_good r s 0 w1 hr1 (Nat.zero_le _) (by have := HSZ.out; omega)).mono ?_
  rintro e w2 ⟨rfl, hr2, g2⟩
  rw [rest_all, Nat.zero_add] at hr2
  rw [rest_all, show (getN s).1 = psN s from rfl]
  have sa2 := sa1.kept g2 (by simp; omega)
  have G2 := grow_wrote (grow_none ga g1) (by have := HA.out; omega) g2
  obtain ⟨sa3, sb3⟩ := sheet_pair3 w2 w2 (psN s) (.slice none 0 0) a sa2
  have hr3 := hr2.kept (World.grownBy_alloc w2 (.cells #[.int .i64 (psN s), .slice none 0 0] 30) none) (by simp)
  have G3 := grow_none G2 (World.grownBy_alloc w2 (.cells #[.int .i64 (psN s), .slice none 0 0] 30) none)
  have hrb : r < w2.heap.size := hr2.lt
  obtain ⟨b, hb⟩ : ∃ b, b = w2.heap.size := ⟨_, rfl⟩
  obtain ⟨w3, hw3⟩ : ∃ w3, w3 = w2.alloc (.cells #[.int .i64 (psN s), .slice none 0 0] 30) := ⟨_, rfl⟩
  rw [← hw3] at sa3 sb3 hr3 G3
  rw [← hb] at sb3 hrb
  have HB := Lib.hid hb
  have HW3 := Lib.hid hw3
  clear hb hw3 sa sa1 sa2 ga g1 g2 G2 hr1 hr2
  go_wp2_with fail
  rw [← HB.out, ← HW3.out]
  refine (num2_any r s w3 hr3 HSZ.out).mono ?_
  rintro e w4 ⟨rfl, ⟨p0, hp0, hps, hr4⟩, g4⟩
  have hnb := n2R_bd s
  obtain ⟨n2, hn2⟩ : ∃ n2, n2 = n2R s := ⟨_, rfl⟩
  rw [← hn2] at hnb ⊢
  obtain ⟨hnb1, hnb2⟩ := hnb
  have HN2 := Lib.hid hn2
  have SA := Lib.hid (sa3.kept g4 (by simp; omega))
  have SB := Lib.hid (sb3.kept g4 (by simp; omega))
  have RD := Lib.hid hr4
  have HP0 := Lib.hid hp0
  have HPS := Lib.hid hps
  have GG := Lib.hid (grow_wrote G3 (by have := HA.out; omega) g4)
  have HRA := Lib.hid hra
  have HRB := Lib.hid hrb
  have hb4 : b < w4.heap.size := SB.out.lt
  have HB4 := Lib.hid hb4
  have hn3 : n2.toNat ≤ 9223372036854775807 := by omega
  have HN3 := Lib.hid hn3
  clear sa3 sb3 hr3 hr4 G3 g4 hra hrb hb4 hn2 hp0 hps hn3
  go_wp2
  go_loopw [7] (fun i wr => ∃ k v p, k ≤ n2.toNat ∧ k ≤ s.size + 1 ∧ i = .int .i64 (k : Nat) ∧ Rr wr r s p (stT (t0R s) (b0R s) k).2 ∧ ((stT (t0R s) (b0R s) k).2 = false → rest s p = (stT (t0R s) (b0R s) k).1) ∧ p ≤ s.size ∧ ShB wr a 0 (.slice none 0 0) ∧ ShB wr b (psN s) v ∧ wr.ownsRow 0 9 1 v k ((txT (t0R s) (b0R s) k).map Value.string) ∧ NewBlk w4 v ∧ w.grownBy wr none ∧ w4.heap.size ≤ wr.heap.size) (fun i _ => n2.toNat - (intOf i).toNat)
  case atStart => exact ⟨0, _, p0, Nat.zero_le _, Nat.zero_le _, rfl, RD.out, HP0.out, HPS.out, SA.out, SB.out, ⟨by simp [txT], .inl ⟨rfl, rfl⟩⟩, fun k hk => by simp [Value.ownBlock] at hk, GG.out, Nat.le_refl _⟩
  case round =>
    clear SA SB RD GG
    obtain ⟨k, v, p, hk, hk2, rfl, hrd, hrs, hpz, hsa, hsb, ho, hn, hg, hsz⟩ := hrel
    have hva : v.ownBlock ≠ some a := fun e => by have := hn _ e; have := HB4.out; have := HRA.out; have := HRB.out; omega
    have hvb : v.ownBlock ≠ some b := fun e => by have := hn _ e; have := HB4.out; omega
    have hvr : v.ownBlock ≠ some r := fun e => by have := hn _ e; have := HB4.out; have := HRB.out; omega
    by_cases hgo : (k : Int) < n2 ∧ (stT (t0R s) (b0R s) k).2 = false
    · obtain ⟨hki, hbd⟩ := hgo
      have hrs := hrs hbd
      have huse := stT_use hbd
      have ht0 := t0R_size s
      rw [hbd] at hrd
      have hk8 : (k : Int) < 1000001 := by have := HSZ.out; omega
      have hwk : IntKind.i64.wrap ((k : Int) + 1) = (k : Int) + 1 := wrapI (by omega) (by omega)
      obtain ⟨x, hx⟩ : ∃ x, x = rText (stT (t0R s) (b0R s) k).1 false := ⟨_, rfl⟩
      have HSN : Hid ((txT (t0R s) (b0R s) (k + 1)).map Value.string = (txT (t0R s) (b0R s) k).map Value.string ++ [Value.string x]) := by rw [hx, ← hbd]; exact txT_snoc _ _ k
      have HT' : Hid ((stT (t0R s) (b0R s) (k + 1)).1 = rTextS (stT (t0R s) (b0R s) k).1 false) := by rw [← hbd]; rfl
      have HB' : Hid ((stT (t0R s) (b0R s) (k + 1)).2 = rCountB (stT (t0R s) (b0R s) k).1 false) := by rw [← hbd]; rfl
      have HX := Lib.hid hx
      have HTS : Hid (s.size ≤ 1000000000000000) := by have := HSZ.out; show _ ≤ _; omega
      have HRD := Lib.hid hrd
      have HSA := Lib.hid hsa
      have HSB := Lib.hid hsb
      have HO := Lib.hid ho
      have HN := Lib.hid hn
      have HG := Lib.hid hg
      have HK : Hid (k + 1 ≤ n2.toNat) := by show _ ≤ _; omega
      have HK2 : Hid (k + 1 ≤ s.size + 1) := by show _ ≤ _; omega
      have HS4 := Lib.hid hsz
      have HVA := Lib.hid hva
      have HVB := Lib.hid hvb
      have HVR := Lib.hid hvr
      have HRS := Lib.hid hrs
      have HPZ := Lib.hid hpz
      have c2 := hrd.c2
      clear hx hrd hsa hsb ho hn hg hk hk2 hsz hva hvb hvr hrs hpz huse ht0
      go_wp2
      refine wp_region_calls 5 _ _ [3] (PR r wr s p false (stT (t0R s) (b0R s) (k + 1)).1 (stT (t0R s) (b0R s) (k + 1)).2) (fun W W' => W.grownBy W' (some r)) (by simp only [List.take_succ_cons, List.take_zero]; exact rfl) (by simp only [List.drop_succ_cons, List.drop_zero]; exact rfl) (by kernel_rfl) (by kernel_rfl) (by kernel_rfl) (by kernel_rfl) (fun W => grow_refl W _) (PR.start HRD.out) ?_
      iterate 3 (refine wpRelC_det rfl ?_; apply Exists.intro; refine ⟨fun j W hI => ?_, ?_⟩; focus (have x1 := (HSB.out.kept hI.1 (by have := HRB.out; simp; omega)).c1; go_simp; first | exact ⟨rfl, grow_refl _ _⟩ | exact ⟨rfl, hI, grow_refl _ _⟩))
      refine wpRelC_call 0 rfl ?_; apply Exists.intro; refine ⟨fun W hI => ?_, ?_⟩
      · go_simp
        exact text_pr HRS.out HT'.out HB'.out HX.out HPZ.out HTS.out hI
      refine wpRelC_step (VS r [.string x]) rfl (fun v w w' g h => VS.kept h g) (fun j W hI => ?_) ?_
      · have hlt : r < W.heap.size := Nat.lt_of_lt_of_le HRD.out.lt hI.1.size
        go_simp
        exact ⟨VS.lit W (.string x) _ hlt, hI.alloc _, grow_any (World.grownBy_alloc _ _ _) _⟩
      refine wpRelC_nil ?_
      intro w5 hI5
      go_simp
      intro vr hv
      have oA : w5.ownsRow 0 9 1 v k ((txT (t0R s) (b0R s) k).map Value.string) := HO.out.kept hI5.1 (.inr HVR.out)
      refine wpList_append_row _ rfl (.tmp 29) (.tmp 32) 22 (by with_reducible rfl) 9 i0 (.string ⟨#[]⟩) 16 Tryd.underlying22 hi hz0 hz1 hz2 rfl _ _ _ rfl oA _ [.string x] rfl hv.1 (onesS [x]) (by show k + 1 ≤ 2^63-1; omega) (by show (k + 1) * 16 ≤ _; omega) ?_
      intro v6 w6 o6 g6 m6
      obtain ⟨pv, cv, rfl⟩ := own_form o6
      have N6 := HN.out.moved (Nat.le_trans HS4.out hI5.1.size) m6
      have hsz6 : w4.heap.size ≤ w6.heap.size := Nat.le_trans (Nat.le_trans HS4.out hI5.1.size) g6.size
      have s6b := (HSB.out.kept hI5.1 (by have := HRB.out; simp; omega)).kept g6 HVB.out
      have s6a := (HSA.out.kept hI5.1 (by have := HRA.out; simp; omega)).kept g6 HVA.out
      obtain ⟨p', hq1, hq2, hq3⟩ : ∃ p', ((stT (t0R s) (b0R s) (k + 1)).2 = false → rest s p' = (stT (t0R s) (b0R s) (k + 1)).1) ∧ p' ≤ s.size ∧ Rr w5 r s p' (stT (t0R s) (b0R s) (k + 1)).2 := hI5.2
      have r6 := hq3.kept g6 HVR.out
      have HQ1 := Lib.hid hq1
      have HQ2 := Lib.hid hq2
      clear hq1 hq2 hq3
      have n6 : NewBlk w v := fun k hk => by have := HN.out k hk; have := HG.out.size; have := HS4.out; have := HB4.out; have := HRA.out; have := HRB.out; have := HA.out; omega
      have X6 := grow_newblk (grow_wrote HG.out (by have := HA.out; have := HRA.out; omega) hI5.1) n6 g6
      have O6 : w6.ownsRow 0 9 1 (.slice pv (k + 1) cv) (k + 1) ((txT (t0R s) (b0R s) (k + 1)).map Value.string) := by
        rw [HSN.out]
        exact o6
      have hv6 : (Value.slice pv (k + 1) cv).ownBlock ≠ some b := fun e => by have := N6 _ e; have := HB4.out; omega
      have O7 : Hid (∀ z, (w6.setCell ⟨b, 1, none⟩ z).ownsRow 0 9 1 (.slice pv (k + 1) cv) (k + 1) ((txT (t0R s) (b0R s) (k + 1)).map Value.string)) := fun z => O6.kept (grow_set _ _ _) (.inr hv6)
      have R7 : Hid (∀ z, Rr (w6.setCell ⟨b, 1, none⟩ z) r s p' (stT (t0R s) (b0R s) (k + 1)).2) := fun z => r6.kept (grow_set w6 ⟨b, 1, none⟩ z) (by have := HRB.out; simp; omega)
      have A7 : Hid (∀ z, ShB (w6.setCell ⟨b, 1, none⟩ z) a 0 (.slice none 0 0)) := fun z => s6a.kept (grow_set w6 ⟨b, 1, none⟩ z) (by have := HRB.out; have := HRA.out; simp; omega)
      have B7 : Hid (∀ z, ShB (w6.setCell ⟨b, 1, none⟩ z) b (psN s) z) := fun z => s6b.set1 z
      have X7 : Hid (∀ z, w.grownBy (w6.setCell ⟨b, 1, none⟩ z) none) := fun z => grow_setnew (a := ⟨b, 1, none⟩) X6 (by have := HA.out; have := HRA.out; have := HRB.out; show _ ≤ b; omega) z
      have N7 := Lib.hid N6
      have Z7 : Hid (∀ z, w4.heap.size ≤ (w6.setCell ⟨b, 1, none⟩ z).heap.size) := fun z => Nat.le_trans hsz6 (grow_set w6 ⟨b, 1, none⟩ z).size
      have y1 := s6b.c1
      have f1 := s6b.fr 1
      clear o6 g6 m6 oA hv hI5 N6 hsz6 s6b s6a r6 n6 X6 O6 hv6
      go_simp
      go_wp2
      go_roundw
      case rel => exact ⟨k + 1, _, p', HK.out, HK2.out, by go_num, R7.out _, HQ1.out, HQ2.out, A7.out _, B7.out _, O7.out _, N7.out, X7.out _, Z7.out _⟩
      case measure => have := HK.out; simp [intOf]; omega
    · obtain ⟨pv, cv, rfl⟩ := own_form ho
      have HCP := Lib.hid (own_capS ho)
      have HVA := Lib.hid hva
      have hlen : (txT (t0R s) (b0R s) k).length = k := txT_len _ _ _
      have HLEN := Lib.hid hlen
      have HHA : Hid (w.heap.size ≤ a) := by show _ ≤ _; have := HA.out; omega
      -- what stands where it is no sheet
      have NO : Hid (E = false → prN s = 0 ∧ prL s = []) := fun h => by
        have hok : psOk s = false := by rw [← HE.out]; exact h
        exact ⟨by unfold prN; rw [hok]; rfl, by unfold prL; rw [hok]; rfl⟩
      have fin : ∀ (w9 : World), ShB w9 a 0 (.slice none 0 0) → w.grownBy w9 none → E = false → Parsed s (.bool E) w (.returned (.tuple #[.agg #[.int .i64 0, .slice none 0 0], .bool false])) ((w9.setCell ⟨a, 0, none⟩ (.int .i64 0)).setCell ⟨a, 1, none⟩ (.slice none 0 0)) := by
        intro w9 h9 g9 hE
        obtain ⟨e1, e2⟩ := NO.out hE
        refine ⟨none, 0, by rw [e1, e2, hE]; rfl, ?_, grow_setnew (a := ⟨a, 1, none⟩) (grow_setnew (a := ⟨a, 0, none⟩) g9 HHA.out _) HHA.out _, ?_⟩
        · rw [e2]; exact ⟨none, 0, rfl, .inl rfl⟩
        · rw [e2]; exact capok_lit _ _
      have FIN := Lib.hid fin
      clear fin hlen hva hvb hvr hn hsz
      by_cases hkn : (k : Int) < n2
      · have hbt : (stT (t0R s) (b0R s) k).2 = true := by
          cases h : (stT (t0R s) (b0R s) k).2 with
          | true => rfl
          | false => exact absurd ⟨hkn, h⟩ hgo
        have hEf : E = false := by
          rw [HE.out]
          cases h : psOk s with
          | false => rfl
          | true =>
            obtain ⟨_, e2, e3, _, e5, _⟩ := ok_ref h
            rw [e3] at e5
            have := stT_good e5 (j := k) (by rw [← HN2.out] at e2; omega)
            rw [hbt] at this
            cases this
        have HEF := Lib.hid hEf
        rw [hbt] at hrd
        have c2 := hrd.c2
        have HSA := Lib.hid hsa
        have HSB := Lib.hid hsb
        have HG := Lib.hid hg
        clear hgo hbt hEf hk hk2 hrs hsa hsb hg ho
        go_wp2_with fail
        refine (refDone_any r s p true wr hrd (by have := HSZ.out; omega)).mono ?_
        rintro e w5 ⟨rfl, nn, rfl⟩
        have a5 : ShB (wr.drewN nn) a 0 (.slice none 0 0) := HSA.out
        have G5 : Hid (w.grownBy (wr.drewN nn) none) := grow_none HG.out (grow_drawnN _ (grow_refl _ _))
        obtain ⟨w5, hw5⟩ : ∃ w5, w5 = wr.drewN nn := ⟨_, rfl⟩
        rw [← hw5] at a5 G5 ⊢
        have A5 := Lib.hid a5
        have x0 := a5.c0
        have x1 := a5.c1
        have f0 := a5.fr 0
        have f1 := a5.fr 1
        have HW5 := Lib.hid hw5
        clear hrd c2 a5 hw5
        go_wp2
        refine bodyPost_ret (res_sheet (fn := Tryd.f25) rfl _ _ a 0 (.slice none 0 0) rfl (A5.out.set01 _ _)) rfl ?_
        exact FIN.out _ A5.out G5.out HEF.out
      · have hkn2 : n2 ≤ (k : Int) := by omega
        obtain ⟨bd, hbd⟩ : ∃ bd, bd = (stT (t0R s) (b0R s) k).2 := ⟨_, rfl⟩
        rw [← hbd] at hrd hrs
        have HBDE := Lib.hid hbd
        have HRS := Lib.hid hrs
        have HK := Lib.hid hk
        have HKN := Lib.hid hkn2
        have HPZ := Lib.hid hpz
        have HK2 := Lib.hid hk2
        have O4 := Lib.hid ho
        have HSA := Lib.hid hsa
        have HSB := Lib.hid hsb
        have HG := Lib.hid hg
        clear hgo hkn hbd hk hk2 hrs hsa hsb hg ho hpz
        go_wp2_with fail
        refine (refDone_any r s p bd wr hrd (by have := HSZ.out; omega)).mono ?_
        rintro e w5 ⟨rfl, nn, rfl⟩
        have a5 : ShB (wr.drewN nn) a 0 (.slice none 0 0) := HSA.out
        have b5 : ShB (wr.drewN nn) b (psN s) (.slice pv k cv) := HSB.out
        have G5 : Hid (w.grownBy (wr.drewN nn) none) := grow_none HG.out (grow_drawnN _ (grow_refl _ _))
        have O5 : Hid ((wr.drewN nn).ownsRow 0 9 1 (.slice pv k cv) k ((txT (t0R s) (b0R s) k).map Value.string)) := own_keep O4.out (grow_drawnN _ (grow_refl _ _))
        obtain ⟨w5, hw5⟩ : ∃ w5, w5 = wr.drewN nn := ⟨_, rfl⟩
        rw [← hw5] at a5 b5 G5 O5 ⊢
        have A5 := Lib.hid a5
        have B5 := Lib.hid b5
        have HW5 := Lib.hid hw5
        have x0 := a5.c0
        have x1 := a5.c1
        have f0 := a5.fr 0
        have f1 := a5.fr 1
        clear hrd hw5 a5 b5
        cases hD : (!bd && ((p : Int) == (s.size : Int))) with
        | false =>
          have hEf : E = false := by
            rw [HE.out]
            cases h : psOk s with
            | false => rfl
            | true =>
              obtain ⟨_, e2, e3, _, e5, e6, _⟩ := ok_ref h
              have ek : k = psC s := by have := HK.out; have := HKN.out; rw [← HN2.out] at e2; omega
              rw [e3, ← ek, ← HBDE.out] at e5
              rw [e3, ← ek, ← HRS.out e5, rest_size] at e6
              have := HPZ.out
              have ep : (p : Int) = s.size := by omega
              rw [e5, ep] at hD
              simp at hD
          have HEF := Lib.hid hEf
          clear hEf hD
          go_wp2
          refine bodyPost_ret (res_sheet (fn := Tryd.f25) rfl _ _ a 0 (.slice none 0 0) rfl (A5.out.set01 _ _)) rfl ?_
          exact FIN.out _ A5.out G5.out HEF.out
        | true =>
          have hbf : bd = false ∧ p = s.size := by
            rw [Bool.and_eq_true, Bool.not_eq_true', beq_iff_eq] at hD
            exact ⟨hD.1, by omega⟩
          have HBF := Lib.hid hbf
          have y0 := B5.out.c0
          have y1 := B5.out.c1
          have R5 : Hid (RowAt w5 (.slice pv (txT (t0R s) (b0R s) k).length cv) ((txT (t0R s) (b0R s) k).map Value.string)) := by
            show RowAt _ _ _
            rw [HLEN.out]; exact RowAt.of_own O5.out
          have HBD : Hid (-9223372036854775808 ≤ psN s ∧ psN s ≤ 9223372036854775807) := getN_bd s
          clear hbf hD
          go_wp2_with fail
          have hck := refRight_any (psN s) pv cv (txT (t0R s) (b0R s) k) w5 R5.out HBD.out (by rw [HLEN.out]; have := HK2.out; have := HSZ.out; show _ ≤ 2^63-1; omega)
          rw [HLEN.out] at hck
          refine hck.mono ?_
          rintro e w6 ⟨rfl, g6⟩
          have A6 := Lib.hid (A5.out.keep g6)
          have B6 := Lib.hid (B5.out.keep g6)
          have G6 := Lib.hid (grow_none G5.out g6)
          have O6 := Lib.hid (own_keep O5.out g6)
          have x0 := A6.out.c0
          have x1 := A6.out.c1
          have f0 := A6.out.fr 0
          have f1 := A6.out.fr 1
          have y0 := B6.out.c0
          have y1 := B6.out.c1
          clear g6 hck
          cases hK : okS (psN s) (txT (t0R s) (b0R s) k) with
          | false =>
            have hEf : E = false := by
              rw [HE.out]
              cases h : psOk s with
              | false => rfl
              | true =>
                obtain ⟨_, e2, _, e4, _, _, e7⟩ := ok_ref h
                have ek : k = psC s := by have := HK.out; have := HKN.out; rw [← HN2.out] at e2; omega
                rw [e4, ← ek, hK] at e7
                cases e7
            have HEF := Lib.hid hEf
            clear hEf hK
            go_wp2
            refine bodyPost_ret (res_sheet (fn := Tryd.f25) rfl _ _ a 0 (.slice none 0 0) rfl (A6.out.set01 _ _)) rfl ?_
            exact FIN.out _ A6.out G6.out HEF.out
          | true =>
            by_cases hkk : (k : Int) = n2
            · have hok : psOk s = true := by
                refine ref_ok (k := k) ?_ ?_ (by rw [← HN2.out]; exact hkk) hK
                · rw [← HBDE.out]; exact HBF.out.1
                · rw [← HRS.out HBF.out.1, rest_size, HBF.out.2]; omega
              obtain ⟨_, e2, _, e4, _⟩ := ok_ref hok
              have ek : k = psC s := by rw [← HN2.out] at e2; omega
              have HN : Hid (prN s = psN s) := by show _ = _; unfold prN; rw [if_pos hok]
              have HL : Hid (prL s = txT (t0R s) (b0R s) k) := by show _ = _; unfold prL; rw [if_pos hok, e4, ← ek]
              have HE3 : Hid (E = true) := by show _ = _; rw [HE.out, hok]
              have hkb : ((k : Int) != n2) = false := by rw [bne_eq_false_iff_eq]; exact hkk
              have hkc : ((k : Int) == n2) = true := by rw [beq_iff_eq]; exact hkk
              clear hok e2 e4 ek hkk hK
              go_wp2
              refine bodyPost_ret (res_sheet (fn := Tryd.f25) rfl _ _ a (psN s) (.slice pv k cv) rfl (A6.out.set01 _ _)) rfl ?_
              refine ⟨pv, cv, by rw [HN.out, HL.out, HE3.out, HLEN.out]; rfl, ?_, grow_setnew (a := ⟨a, 1, none⟩) (grow_setnew (a := ⟨a, 0, none⟩) G6.out HHA.out _) HHA.out _, ?_⟩
              · rw [HL.out, HLEN.out]; exact RowAt.of_own ((O6.out.kept (grow_set _ _ _) (.inr HVA.out)).kept (grow_set _ _ _) (.inr HVA.out))
              · rw [HL.out, HLEN.out]; exact HCP.out
            · have hEf : E = false := by
                rw [HE.out]
                cases h : psOk s with
                | false => rfl
                | true =>
                  obtain ⟨_, e2, _⟩ := ok_ref h
                  have := HK.out
                  have := HKN.out
                  rw [← HN2.out] at e2
                  omega
              have HEF := Lib.hid hEf
              have hkb : ((k : Int) != n2) = true := by rw [bne_iff_ne]; exact hkk
              have hkc : ((k : Int) == n2) = false := by rw [beq_eq_false_iff_ne]; exact hkk
              clear hEf hK hkk
              go_wp2
              refine bodyPost_ret (res_sheet (fn := Tryd.f25) rfl _ _ a 0 (.slice none 0 0) rfl (A6.out.set01 _ _)) rfl ?_
              exact FIN.out _ A6.out G6.out HEF.out
end Go.Proofs.YtgcdfoadegojcaaDoor
