/- What the package carve does: Cut. -/
import Derived.Test.YtkmpcncehicpmaaCvB
namespace Go.Proofs.Ytkmpcncehicpmaa
open Go.RowKit
set_option linter.unusedVariables false
theorem Try.info07_string : (Try.prog.info? 9).map (fun i => (i.zero, i.size, i.bytes)) = some (some (.string ⟨#[]⟩), 1, 16) := by kernel_rfl
def cntN (n : Nat) : Nat := (n + 63) / 64
def chS (l : List UInt8) (i : Nat) : ByteArray := ⟨((l.drop (64 * i)).take 64).toArray⟩
def chunks (l : List UInt8) : List ByteArray := (List.range (cntN l.length)).map (chS l)
def rest (l : List UInt8) (k : Nat) : ByteArray := ⟨(l.drop (64 * k)).toArray⟩
theorem rest_zero (s : ByteArray) : rest s.data.toList 0 = s := by unfold rest; simp
theorem rest_size (l : List UInt8) (k : Nat) : (rest l k).size = l.length - 64 * k := by
  unfold rest
  show (l.drop (64 * k)).toArray.size = _
  simp
theorem rest_take (l : List UInt8) (k n : Nat) (hn : n = min 64 (l.length - 64 * k)) : (rest l k).extract 0 n = chS l k := by
  apply ByteArray.ext
  apply Array.ext'
  unfold rest chS
  simp
  omega
theorem rest_drop (l : List UInt8) (k n : Nat) (hn : n = min 64 (l.length - 64 * k)) : (rest l k).extract n (l.length - 64 * k) = rest l (k + 1) := by
  apply ByteArray.ext
  apply Array.ext'
  unfold rest
  simp
  by_cases h : 64 ≤ l.length - 64 * k
  · rw [show n = 64 by omega, show 64 * k + 64 = 64 * (k + 1) by omega, List.take_of_length_le (by simp; omega)]
  · rw [show n = l.length - 64 * k by omega, List.drop_of_length_le (by omega), List.drop_of_length_le (by omega)]; simp
theorem own_made (w : World) (t : TypeId) (z : Value) (c : Nat) (hc : c ≤ maxLen) : (w.alloc (.cells (List.replicate c z).toArray t)).ownsRow 0 t 1 (.slice (some ⟨w.heap.size, 0, none⟩) 0 c) 0 [] :=
  ⟨by simp, .inr ⟨w.heap.size, c, (List.replicate c z).toArray, rfl, Nat.zero_le _, heap_alloc_new w _, Nat.zero_le _, hc, by simp, by simp⟩⟩
theorem cnt_step (l : List UInt8) (k : Nat) : ((List.range (k + 1)).map (chS l)).map Value.string = ((List.range k).map (chS l)).map Value.string ++ [Value.string (chS l k)] := by
  rw [List.range_succ]; simp
/-- Its length is at most its capacity. -/
def CapOk (v : Value) : Prop := ∀ p n c, v = .slice p n c → n ≤ c
theorem own_cap {w : World} {e : TypeId} {n : Nat} {v : Value} {xs : List Value} (h : w.ownsRow 0 e 1 v n xs) : CapOk v := by
  rcases h.2 with ⟨rfl, rfl⟩ | ⟨g, cap, cur, rfl, _, _, h1, _⟩
  · intro p n c e; injection e with _ e2 e3; omega
  · intro p n' c e; injection e with _ e2 e3; omega
/-- A list of the call's own that reads as these texts. -/
def TextsAt (w0 : World) (l : List ByteArray) (e : Ending) (w' : World) : Prop := ∃ v, e = .returned v ∧ RowAt w' v (l.map Value.string) ∧ NewBlk w0 v ∧ w0.grownBy w' none ∧ CapOk v
def CutAt (l : List UInt8) (w0 : World) (d v : Value) (w : World) : Prop :=
  ∃ k : Nat, d = .string (rest l k) ∧ k ≤ cntN l.length ∧ w.ownsRow 0 9 1 v k (((List.range k).map (chS l)).map Value.string) ∧ NewBlk w0 v ∧ w0.grownBy w none
def sizeV : Value → Nat
  | .string t => t.size
  | _ => 0
set_option maxRecDepth 100000 in
set_option maxHeartbeats 1000000 in
theorem Cut_any (s : ByteArray) (w : World) (hs : s.size ≤ 1000000) :
    Calls Try.prog 57 #[.string s] w (TextsAt w (chunks s.data.toList)) := by
  obtain ⟨i0, hi, hz0, hz1, hz2⟩ := info_parts Try.info07_string
  have hsi : (s.size : Int) ≤ 1000000 := by omega
  obtain ⟨l, hl⟩ : ∃ l, l = s.data.toList := ⟨_, rfl⟩
  have hln : l.length = s.size := by rw [hl, Array.length_toList]; rfl
  have hc : cntI (s.size : Int) = ((cntN l.length : Nat) : Int) := by
    unfold cntI cntN
    rw [hln]
    split <;> omega
  have hcb : cntN l.length ≤ 20000 := by unfold cntN; omega
  obtain ⟨c, hcc⟩ : ∃ c, c = cntN l.length := ⟨_, rfl⟩
  rw [← hcc] at hc hcb
  have hmk : ∀ W : World, (Instr.makeSlice 38 (.int .i64 0) (.int .i64 (c : Int))).run Try.prog W = .ok (.slice (some ⟨W.heap.size, 0, none⟩) 0 c) (W.alloc (.cells (List.replicate c (Value.string ⟨#[]⟩)).toArray 9)) :=
    fun W => run_make_one (P := Try.prog) 38 9 i0 (.string ⟨#[]⟩) 16 Try.underlying38 hi hz0 rfl hz1 hz2 .i64 .i64 0 c (Nat.zero_le _) (by omega) (by omega) W
  have t0 : CutAt l w (.string s) (.slice (some ⟨w.heap.size, 0, none⟩) 0 c) (w.alloc (.cells (List.replicate c (Value.string ⟨#[]⟩)).toArray 9)) :=
    ⟨0, by rw [hl, rest_zero], Nat.zero_le _, own_made w _ _ c (by show _ ≤ 2^63-1; omega), newblk_at w w.heap.size 0 c (Nat.le_refl _) 0, World.grownBy_alloc _ _ _⟩
  have HC := Lib.hid hc
  have HCC := Lib.hid hcc
  have HLN := Lib.hid hln
  rw [← hl]
  have HLL := Lib.hid hl
  clear hc hcc hln hl
  go_enter Try.func57, Try.ntmps57
  go_wp2_with fail
  refine (Count_any _ _ (by omega)).mono ?_
  rintro e w1 ⟨rfl, rfl⟩
  rw [HC.out]
  go_wp2
  go_loopw [0, 3] (fun d v wr => CutAt l w d v wr) (fun d _ _ => sizeV d)
  case atStart => exact t0
  case round =>
    clear t0 hmk
    obtain ⟨k, rfl, hk, ho, hn, hg⟩ := hrel
    have hrs := rest_size l k
    obtain ⟨t, ht⟩ : ∃ t, t = rest l k := ⟨_, rfl⟩
    rw [← ht] at hrs ⊢
    have HT := Lib.hid ht
    clear ht
    have hti : (t.size : Int) ≤ 1000000 := by have := HLN.out; omega
    by_cases h0 : l.length ≤ 64 * k
    · have hz : t = ⟨#[]⟩ := empty_size (by omega)
      have hkk : k = cntN l.length := by
        unfold cntN at hk ⊢
        omega
      subst hz
      have HF : Hid (((List.range k).map (chS l)) = chunks l) := by show _ = _; unfold chunks; rw [hkk]
      have HR := Lib.hid (RowAt.of_own ho)
      have HCAP := Lib.hid (own_cap ho)
      clear hkk ho
      go_wp2
      go_ret
      exact ⟨_, rfl, by rw [← HF.out]; exact HR.out, hn, hg, HCAP.out⟩
    · have h1 : 1 ≤ t.size := by omega
      have he := isEmpty_no h1
      have hkn : k < cntN l.length := by unfold cntN; omega
      have hkb : k ≤ 20000 := by have := HCC.out; omega
      have HRS := Lib.hid hrs
      have HGT : Hid (64 * k < l.length) := by show _ < _; omega
      by_cases h64 : 64 ≤ t.size
      · have h64i : (64 : Int) ≤ t.size := by omega
        have hx1 : t.extract 0 64 = chS l k := by rw [HT.out]; exact rest_take l k 64 (by rw [← hrs]; omega)
        have hx2 : t.extract 64 t.size = rest l (k + 1) := by rw [hrs, HT.out]; exact rest_drop l k 64 (by rw [← hrs]; omega)
        clear h0 h64 hrs
        go_wp2_with (at_builtin; refine wpList_append_row _ rfl _ _ 38 rfl 9 i0 (.string ⟨#[]⟩) 16 Try.underlying38 hi hz0 hz1 hz2 rfl _ _ _ rfl (ho.alloc _) _ [Value.string (chS l k)] rfl (RowAt.lit wr [Value.string (chS l k)] _ _ _ rfl) (ones_str [chS l k]) (by show k + 1 ≤ 2^63-1; omega) (by show (k + 1) * 16 ≤ _; omega) ?_)
        intro v3 w3 o3 g3 mv3
        have X3 := grow_newblk (grow_none hg (World.grownBy_alloc wr (.cells #[Value.string (chS l k)] 9) none)) hn g3
        have N3 := hn.moved (grow_none hg (World.grownBy_alloc wr (.cells #[Value.string (chS l k)] 9) none)).size mv3
        go_wp2
        go_roundw
        case rel => exact ⟨k + 1, rfl, by omega, by rw [cnt_step, List.map_map]; exact o3, N3, X3⟩
        case measure => simp only [sizeV]; rw [rest_size, HRS.out]; have := HGT.out; omega
      · have h64i : (t.size : Int) < 64 := by omega
        have hx1 : t.extract 0 t.size = chS l k := by rw [hrs, HT.out]; exact rest_take l k _ (by omega)
        have HRE : Hid (rest l (k + 1) = ByteArray.empty) := by show _ = _; unfold rest; rw [List.drop_of_length_le (by omega)]; rfl
        clear h0 h64 hrs
        go_wp2_with (at_builtin; refine wpList_append_row _ rfl _ _ 38 rfl 9 i0 (.string ⟨#[]⟩) 16 Try.underlying38 hi hz0 hz1 hz2 rfl _ _ _ rfl (ho.alloc _) _ [Value.string (chS l k)] rfl (RowAt.lit wr [Value.string (chS l k)] _ _ _ rfl) (ones_str [chS l k]) (by show k + 1 ≤ 2^63-1; omega) (by show (k + 1) * 16 ≤ _; omega) ?_)
        intro v3 w3 o3 g3 mv3
        have X3 := grow_newblk (grow_none hg (World.grownBy_alloc wr (.cells #[Value.string (chS l k)] 9) none)) hn g3
        have N3 := hn.moved (grow_none hg (World.grownBy_alloc wr (.cells #[Value.string (chS l k)] 9) none)).size mv3
        go_wp2
        go_roundw
        case rel => exact ⟨k + 1, by rw [HRE.out], by omega, by rw [cnt_step, List.map_map]; exact o3, N3, X3⟩
        case measure => show 0 < t.size; omega
end Go.Proofs.Ytkmpcncehicpmaa
