/- The law PackBack: its walk. -/
import Derived.Test.YtpoffplnkmmmkaaPkN
import Derived.Test.YtpoffplnkmmmkaaLLong
import Derived.Test.YtpoffplnkmmmkaaB1
namespace Go.Proofs.Ytpoffplnkmmmkaa
open Go.RowKit
set_option linter.unusedVariables false
theorem Try.info3 : (Try.prog.info? 3).map (fun i => (i.zero, i.size, i.bytes)) = some (some (.int .i64 0), 1, 8) := by kernel_rfl
theorem Try.info9 : (Try.prog.info? 9).map (fun i => (i.zero, i.size, i.bytes)) = some (some (.string ⟨#[]⟩), 1, 16) := by kernel_rfl
theorem numsB_cons (n : Int) (l : List Int) : numsB (n :: l) = numB n ++ numsB l := by simp [numsB]
theorem textsB_cons (s : ByteArray) (l : List ByteArray) : textsB (s :: l) = (numB s.size ++ s.data.toList) ++ textsB l := by simp only [textsB, List.flatMap_cons]
theorem numsB_drop (l : List Int) (k : Nat) (hw : ∀ n ∈ l, -9223372036854775808 ≤ n ∧ n ≤ 9223372036854775807) : (numsB (l.drop k)).length ≤ 10 * l.length := by
  have h := numsB_len (l.drop k) (fun n hn => hw n (List.mem_of_mem_drop hn))
  have : (l.drop k).length ≤ l.length := by simp
  omega
theorem roomB_drop (l : List ByteArray) (k : Nat) : roomB (l.drop k) ≤ roomB l := by
  induction l generalizing k with
  | nil => simp [roomB]
  | cons s l ih =>
    cases k with
    | zero => simp
    | succ k =>
      have := ih k
      have e : roomB (s :: l) = s.size + 10 + roomB l := by simp only [roomB, List.map_cons, List.sum_cons]
      rw [List.drop_succ_cons]; omega
theorem textsB_drop (l : List ByteArray) (k : Nat) (h : roomB l ≤ 163840) : (textsB (l.drop k)).length ≤ 163840 := by
  have h1 := roomB_drop l k
  have h2 := textsB_len (l.drop k) (by omega)
  omega
theorem row_cell_i64 {w : World} {a : Option Addr} {c : Nat} {l : List Int} {k : Nat} (h : RowAt w (.slice a l.length c) (l.map (Value.int .i64))) (hk : k < l.length) :
    ∃ bb off, a = some ⟨bb, off, none⟩ ∧ w.cell? ⟨bb, off + k, none⟩ = some (.int .i64 l[k]) := by
  obtain ⟨a', c', e, h⟩ := h
  injection e with e1 e2 e3
  subst e1
  rcases h with h | ⟨b, off, rfl, hb, hc⟩
  · have : l = [] := by simpa using h
    subst this; simp at hk
  · exact ⟨b, off, rfl, by rw [hc k (by simpa using hk)]; simp [List.getElem?_eq_getElem hk]⟩
theorem row_cell_str {w : World} {a : Option Addr} {c : Nat} {l : List ByteArray} {k : Nat} (h : RowAt w (.slice a l.length c) (l.map Value.string)) (hk : k < l.length) :
    ∃ bb off, a = some ⟨bb, off, none⟩ ∧ w.cell? ⟨bb, off + k, none⟩ = some (.string l[k]) := by
  obtain ⟨a', c', e, h⟩ := h
  injection e with e1 e2 e3
  subst e1
  rcases h with h | ⟨b, off, rfl, hb, hc⟩
  · have : l = [] := by simpa using h
    subst this; simp at hk
  · exact ⟨b, off, rfl, by rw [hc k (by simpa using hk)]; simp [List.getElem?_eq_getElem hk]⟩
/-- The second part of the law's walk: the texts are read, then the end. -/
def BackRel (l : List ByteArray) (s : ByteArray) (w : World) (b : Nat) (i : Value) (wr : World) : Prop :=
  ∃ k : Nat, k ≤ l.length ∧ i = .int .i64 k ∧ Rd wr b (bs (textsB (l.drop k) ++ s.data.toList)) false ∧ w.grownBy wr none
def BackRel1 (n : List Int) (l : List ByteArray) (s : ByteArray) (w : World) (b : Nat) (i : Value) (wr : World) : Prop :=
  ∃ k : Nat, k ≤ n.length ∧ i = .int .i64 k ∧ Rd wr b (bs (numsB (n.drop k) ++ (textsB l ++ s.data.toList))) false ∧ w.grownBy wr none
set_option maxRecDepth 100000 in
set_option maxHeartbeats 2000000 in
theorem law_PackBack (v0 : Value) (n : List Int) {w : World} (hr0 : RowAt w v0 (n.map (Value.int .i64))) (hw0 : ∀ x ∈ n, -9223372036854775808 ≤ x ∧ x ≤ 9223372036854775807) (hm0 : n.length ≤ maxLen)
    (v1 : Value) (l : List ByteArray) (hr1 : RowAt w v1 (l.map Value.string)) (hw1 : ∀ s ∈ l, s.size ≤ maxLen) (hm1 : l.length ≤ maxLen) (s : ByteArray) (hs : s.size ≤ maxLen) (_ : World) :
    Calls Try.prog 6 #[v0, v1, .string s] w fun e w' => e = .returned (.bool true) ∧ Below w.heap.size w w' := by
  obtain ⟨i0, hi, hz0, hz1, hz2⟩ := info_parts Try.info3
  obtain ⟨j0, ji, jz0, jz1, jz2⟩ := info_parts Try.info9
  obtain ⟨a0, c0, rfl⟩ := hr0.len
  obtain ⟨a1, c1, rfl⟩ := hr1.len
  rw [List.length_map] at hr0 hr1 ⊢
  rw [List.length_map]
  have HM1 := Lib.hid hm1
  have HW1 := Lib.hid hw1
  have HW0 := Lib.hid hw0
  unfold maxLen at hm0 hs
  clear hm1 hw1 hw0
  by_cases h0 : 4096 < n.length
  · have hl' : (4096 : Int) < n.length := by omega
    go_enter Try.func6, Try.ntmps6
    go_wp2_with fail
    refine (awake_any _).mono ?_
    rintro e w1 ⟨rfl, g1⟩
    go_wp2_with fail
    refine (awake_any _).mono ?_
    rintro e w2 ⟨rfl, g2⟩
    have G2 := grow_none g1 g2
    clear g1 g2
    go_wp2
    go_ret
    exact ⟨rfl, below_of_none G2⟩
  have h0' : decide ((4096 : Int) < n.length) = false := by simp; omega
  have h0i : (n.length : Int) ≤ 4096 := by omega
  cases hl : longG l 0 with
  | true =>
    have HL := Lib.hid hl
    clear hl
    go_enter Try.func6, Try.ntmps6
    go_wp2_with fail
    refine (awake_any _).mono ?_
    rintro e w1 ⟨rfl, g1⟩
    go_wp2_with fail
    refine (long_any _ l HW1.out _ (hr1.kept g1) HM1.out).mono ?_
    rintro e w2 ⟨rfl, rfl⟩
    rw [HL.out]
    go_wp2_with fail
    refine (awake_any _).mono ?_
    rintro e w3 ⟨rfl, g3⟩
    have G3 := grow_none g1 g3
    clear g1 g3
    go_wp2
    go_ret
    exact ⟨rfl, below_of_none G3⟩
  | false =>
    obtain ⟨hroom, hll, hsz⟩ := room_of_short hl
    have HL := Lib.hid hl
    clear hl
    by_cases h2 : 4096 < s.size
    · have hl' : (4096 : Int) < s.size := by omega
      go_enter Try.func6, Try.ntmps6
      go_wp2_with fail
      refine (awake_any _).mono ?_
      rintro e w1 ⟨rfl, g1⟩
      go_wp2_with fail
      refine (long_any _ l HW1.out _ (hr1.kept g1) HM1.out).mono ?_
      rintro e w2 ⟨rfl, rfl⟩
      rw [HL.out]
      go_wp2_with fail
      refine (awake_any _).mono ?_
      rintro e w3 ⟨rfl, g3⟩
      have G3 := grow_none g1 g3
      clear g1 g3
      go_wp2
      go_ret
      exact ⟨rfl, below_of_none G3⟩
    have h2' : decide ((4096 : Int) < s.size) = false := by simp; omega
    have h2i : (s.size : Int) ≤ 4096 := by omega
    have hnl := numsB_len n HW0.out
    have htl := textsB_len l (by omega)
    have en : (bs (numsB n)).size = (numsB n).length := bs_size _
    have et : (bs (textsB l)).size = (textsB l).length := bs_size _
    go_enter Try.func6, Try.ntmps6
    go_wp2_with fail
    refine (awake_any _).mono ?_
    rintro e w1 ⟨rfl, g1⟩
    go_wp2_with fail
    refine (long_any _ l HW1.out _ (hr1.kept g1) HM1.out).mono ?_
    rintro e w2 ⟨rfl, rfl⟩
    rw [HL.out]
    have r1 := (hr0.kept g1).kept (World.grownBy_alloc w1 (.cells #[] 3) none)
    go_wp2_with (at_builtin; refine wpList_append_row _ rfl _ _ 22 rfl 3 i0 (.int .i64 0) 8 Try.underlying22 hi hz0 hz1 hz2 rfl _ _ _ rfl (own_empty _ _ _) _ (n.map (Value.int .i64)) rfl r1 (ones_i64 n) (by rw [List.length_map]; show _ ≤ 2^63-1; omega) (by rw [List.length_map]; omega) ?_)
    intro v2 w2 o2 g2 m2
    have G2 := grow_newblk (grow_none g1 (World.grownBy_alloc w1 (.cells #[] 3) none)) (newblk_at w w1.heap.size 0 0 g1.size 0) g2
    clear g1 g2 r1
    go_wp2_with fail
    refine (Nums_any v2 n _ (RowAt.of_own o2) HW0.out (by omega)).mono ?_
    rintro e w3 ⟨rfl, g3⟩
    have G3 := grow_none G2 g3
    clear g3 G2 o2
    have r3 := (hr1.kept G3).kept (World.grownBy_alloc w3 (.cells #[] 9) none)
    go_wp2_with (at_builtin; refine wpList_append_row _ rfl _ _ 27 rfl 9 j0 (.string ⟨#[]⟩) 16 Try.underlying27 ji jz0 jz1 jz2 rfl _ _ _ rfl (own_empty _ _ _) _ (l.map Value.string) rfl r3 (ones_str l) (by rw [List.length_map]; show _ ≤ 2^63-1; omega) (by rw [List.length_map]; omega) ?_)
    intro v4 w4 o4 g4 m4
    have G4 := grow_newblk (grow_none G3 (World.grownBy_alloc w3 (.cells #[] 9) none)) (newblk_at w w3.heap.size 0 0 G3.size 0) g4
    clear g4 r3 G3
    go_wp2_with fail
    refine (Text_any v4 l _ (RowAt.of_own o4) (by omega)).mono ?_
    rintro e w5 ⟨rfl, g5⟩
    have G5 := grow_none G4 g5
    clear g5 G4 o4
    go_wp2_with fail
    refine (Read_any _ _).mono ?_
    rintro e w6 ⟨b, rfl, r6, g6, hb⟩
    have G6 := grow_none G5 g6
    have hb0 : w.heap.size ≤ b := Nat.le_trans G5.size hb
    clear g6 G5
    have es : (⟨(numsB n).toArray⟩ : ByteArray) ++ ⟨(textsB l).toArray⟩ ++ s = bs (numsB (n.drop 0) ++ (textsB l ++ s.data.toList)) := by
      rw [ByteArray.mk_append_mk, List.drop_zero]
      conv => lhs; rhs; rw [← bs_self s]
      show bs _ ++ bs _ = _
      rw [bs_app, List.append_assoc]
    rw [es] at r6
    clear es en et
    have Hnl := Lib.hid hnl
    have Htl := Lib.hid htl
    clear hnl htl m2 m4
    go_wp2
    go_loopw [43] (fun i wr => BackRel1 n l s w b i wr) (fun i _ => n.length - (intOf i).toNat)
    case atStart => exact ⟨0, Nat.zero_le _, rfl, r6, G6⟩
    case round =>
      obtain ⟨k, hk, rfl, hr, hg⟩ := hrel
      clear r6 G6
      by_cases hlt : k < n.length
      · have hcell : ∃ bb off, a0 = some ⟨bb, off, none⟩ ∧ wr.cell? ⟨bb, off + k, none⟩ = some (.int .i64 n[k]) := row_cell_i64 (hr0.kept hg) hlt
        obtain ⟨bb, off, rfl, hcell⟩ := hcell
        have hwk := HW0.out n[k] (List.getElem_mem hlt)
        have hd : numsB (n.drop k) ++ (textsB l ++ s.data.toList) = numB n[k] ++ (numsB (n.drop (k + 1)) ++ (textsB l ++ s.data.toList)) := by
          rw [List.drop_eq_getElem_cons hlt, numsB_cons, List.append_assoc]
        rw [hd] at hr
        clear hd
        have hz : (bs (numB n[k] ++ (numsB (n.drop (k + 1)) ++ (textsB l ++ s.data.toList)))).size ≤ 1000000000000000 := by
          have e1 := numB_len hwk
          have e2 := numsB_drop n (k + 1) HW0.out
          have e3 := Htl.out
          rw [bs_size, List.length_append, List.length_append, List.length_append, size_toList]
          omega
        have HZ := Lib.hid hz
        clear hz
        go_wp2_with fail
        refine (Num_any b _ _ _ hr HZ.out).mono ?_
        rintro e w7 ⟨rfl, r7, g7⟩
        obtain ⟨b1, b2, b3⟩ := num_back hwk (numsB (n.drop (k + 1)) ++ (textsB l ++ s.data.toList))
        rw [b2, b3] at r7
        rw [b1]
        clear b1 b2 b3 hr HZ
        have G7 := grow_new hg hb0 g7
        clear g7 hg
        go_wp2
        go_roundw
        case rel => exact ⟨k + 1, by omega, by go_num, r7, G7⟩
        case measure => simp [intOf]; omega
      · obtain rfl : k = n.length := by omega
        have hr' : Rd wr b (bs (textsB (l.drop 0) ++ s.data.toList)) false := by simpa [numsB] using hr
        clear hr
        go_wp2
        go_loopw [54] (fun i wr => BackRel l s w b i wr) (fun i _ => l.length - (intOf i).toNat)
        case atStart => exact ⟨0, Nat.zero_le _, rfl, hr', hg⟩
        case round =>
          obtain ⟨k, hk, rfl, hr2, hg2⟩ := hrel
          clear hr' hg
          by_cases hlt2 : k < l.length
          · obtain ⟨bb, off, rfl, hcell⟩ := row_cell_str (hr1.kept hg2) hlt2
            have hd : textsB (l.drop k) ++ s.data.toList = numB l[k].size ++ l[k].data.toList ++ (textsB (l.drop (k + 1)) ++ s.data.toList) := by
              rw [List.drop_eq_getElem_cons hlt2, textsB_cons, List.append_assoc]
            rw [hd] at hr2
            clear hd
            have hrk := roomB_take l (k + 1)
            rw [List.take_succ_eq_append_getElem hlt2, roomB_snoc] at hrk
            have hz : (bs (numB l[k].size ++ l[k].data.toList ++ (textsB (l.drop (k + 1)) ++ s.data.toList))).size ≤ 1000000000000000 := by
              have e1 := numB_len (n := (l[k].size : Int)) (by omega)
              have e2 := textsB_drop l (k + 1) hroom
              rw [bs_size, List.length_append, List.length_append, List.length_append, size_toList, size_toList]
              omega
            have HZ := Lib.hid hz
            clear hz
            go_wp2_with fail
            refine (Text_any2 b _ _ _ hr2 HZ.out).mono ?_
            rintro e w7 ⟨rfl, r7, g7⟩
            obtain ⟨b1, b2, b3⟩ := text_back l[k] (by omega) (textsB (l.drop (k + 1)) ++ s.data.toList)
            rw [b2, b3] at r7
            rw [b1]
            clear b1 b2 b3 hr2 HZ
            have G7 := grow_new hg2 hb0 g7
            clear g7 hg2
            go_wp2
            go_roundw
            case rel => exact ⟨k + 1, by omega, by go_num, r7, G7⟩
            case measure => simp [intOf]; omega
          · obtain rfl : k = l.length := by omega
            have hr3 : Rd wr b s false := by simpa [textsB, bs_self] using hr2
            clear hr2
            go_wp2_with fail
            refine (Good_any b _ _ _ hr3).mono ?_
            rintro e w7 ⟨rfl, r7, g7⟩
            have G7 := grow_new hg2 hb0 g7
            clear g7 hg2
            go_wp2_with fail
            refine (Left_any b _ _ _ r7 (by omega)).mono ?_
            rintro e w8 ⟨rfl, r8, g8⟩
            have G8 := grow_new G7 hb0 g8
            clear g8 G7 r7
            rw [show rLeft s false = s.size from rfl]
            go_wp2_with fail
            refine (Done_any b _ _ _ r8).mono ?_
            rintro e w9 ⟨rfl, r9, g9⟩
            have G9 := grow_new G8 hb0 g9
            clear g9 G8 r8
            rw [show rDone s false = s.toList.isEmpty from rfl]
            go_wp2
            go_ret
            exact ⟨rfl, below_of_none G9⟩
end Go.Proofs.Ytpoffplnkmmmkaa
