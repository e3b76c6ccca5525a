/- Several texts in one: SeJ SeK SeL SeM SeN SeQ SeO. -/
import Derived.Test.YtgcdfoadegojcaaDoorShtA
import Derived.Test.YtgcdfoadegojcaaDoorPkNa
import Derived.Laws.BitsAllLaws
import Derived.Test.YtgcdfoadegojcaaDoorRelC
namespace Go.Proofs.YtgcdfoadegojcaaDoor
open Go.RowKit
set_option linter.unusedVariables false
theorem hashB_size (s : ByteArray) : (hashB s).size = 32 := by
  show (shaS s).toArray.size = 32
  rw [List.size_toArray]
  unfold shaS
  rw [digB_len, stN_len _ (stN_len s rfl _)]
theorem hashes_len (l : List ByteArray) : (hashes l).length = l.length := List.length_map _
theorem data_len (s : ByteArray) : s.data.toList.length = s.size := by rw [Array.length_toList]; rfl
theorem chunks_len' (l : List UInt8) : (chunks l).length = cntN l.length := by unfold chunks; rw [List.length_map, List.length_range]
theorem cnt_eq (n : Nat) : cntI (n : Int) = (cntN n : Int) := by
  unfold cntI cntN
  split <;> omega
theorem made_ok {s : ByteArray} (h : s.size ≤ 512) : okS s.size (hashes (chunks s.data.toList)) = true := by
  unfold okS
  rw [decide_eq_true (by omega : (0 : Int) ≤ s.size), decide_eq_true (by omega : (s.size : Int) ≤ 512), hashes_len, chunks_len', data_len, cnt_eq, decide_eq_true rfl]
  simp only [Bool.true_and]
  rw [List.all_eq_true]
  intro x hx
  unfold hashes at hx
  obtain ⟨y, _, rfl⟩ := List.mem_map.1 hx
  simp [hashB_size]
theorem chunks_all (l : List UInt8) : allB (chunks l) = l := by
  have key : ∀ k, allB ((List.range k).map (chS l)) = l.take (64 * k) := by
    intro k
    induction k with
    | zero => simp [allB]
    | succ k ih =>
      rw [List.range_succ, List.map_append]
      have e : allB ((List.range k).map (chS l) ++ [k].map (chS l)) = allB ((List.range k).map (chS l)) ++ (l.drop (64 * k)).take 64 := by
        unfold allB
        rw [List.flatMap_append]
        simp [chS]
      rw [e, ih, show 64 * (k + 1) = 64 * k + 64 by omega, List.take_add]
  unfold chunks
  rw [key]
  exact List.take_of_length_le (by unfold cntN; omega)
theorem made_good {s : ByteArray} (h : s.size ≤ 512) : buildV s.size (hashes (chunks s.data.toList)) (chunks s.data.toList) = .tuple #[.string s, .int .i64 0] := by
  rw [build_good (made_ok h) (hashes_len _).symm rfl (by rw [chunks_all, data_len]), chunks_all]
theorem chunks_abc : chunks (ByteArray.data ⟨#[97, 98, 99]⟩).toList = [⟨#[97, 98, 99]⟩] := rfl
set_option maxRecDepth 100000 in
theorem sha_abd : shaS ⟨#[97, 98, 100]⟩ ≠ shaS ⟨#[97, 98, 99]⟩ := by decide +kernel
theorem hash_abd : hashes [⟨#[97, 98, 100]⟩] ≠ hashes [⟨#[97, 98, 99]⟩] := by
  intro h
  unfold hashes at h
  simp only [List.map_cons, List.map_nil, List.cons.injEq, and_true] at h
  apply sha_abd
  have h2 : (hashB ⟨#[97, 98, 100]⟩).data.toList = (hashB ⟨#[97, 98, 99]⟩).data.toList := by rw [h]
  simpa [hashB] using h2
def abcL : List ByteArray := hashes (chunks (ByteArray.data ⟨#[97, 98, 99]⟩).toList)
theorem abcL_eq : abcL = hashes [⟨#[97, 98, 99]⟩] := by unfold abcL; rw [chunks_abc]
theorem abcL_len : abcL.length = 1 := rfl
theorem aw_a : buildV 3 abcL [⟨#[97, 98, 99]⟩] = .tuple #[.string ⟨#[97, 98, 99]⟩, .int .i64 0] := made_good (s := ⟨#[97, 98, 99]⟩) (by decide)
theorem aw_ok : okS 3 abcL = true := made_ok (s := ⟨#[97, 98, 99]⟩) (by decide)
theorem aw_b : buildV 3 abcL [⟨#[97, 98, 100]⟩] = .tuple #[.string ⟨#[]⟩, .int .i64 101] := build_hash aw_ok (by rw [abcL_len]; rfl) (by rw [abcL_eq]; exact hash_abd)
theorem aw_c : buildV 3 abcL [] = .tuple #[.string ⟨#[]⟩, .int .i64 1] := build_len aw_ok (by rw [abcL_len]; decide)
theorem aw_p : packB 0 [] = [0, 0] := by decide +kernel
set_option maxRecDepth 100000 in
set_option maxHeartbeats 4000000 in
theorem awake08_any (w : World) (hm : Tb w) :
    Calls Tryd.prog 14 #[] w fun e w' => e = .returned (.bool true) ∧ w.grownBy w' none := by
  obtain ⟨L, hL⟩ : ∃ L, L = abcL := ⟨_, rfl⟩
  have ha := aw_a
  have hb := aw_b
  have hc := aw_c
  have hl := abcL_len
  rw [← hL] at ha hb hc hl
  have HA := Lib.hid ha
  have HB := Lib.hid hb
  have HC := Lib.hid hc
  have HL := Lib.hid hl
  have HLL := Lib.hid hL
  clear ha hb hc hl hL
  go_enter Tryd.func14, Tryd.ntmps14
  go_wp2_with fail
  refine (Make_any ⟨#[97, 98, 99]⟩ w (by decide) hm).mono ?_
  rintro e w1 ⟨p, c, rfl, r1, g1, c1⟩
  rw [show hashes (chunks (ByteArray.data ⟨#[97, 98, 99]⟩).toList) = L from HLL.out.symm] at r1 ⊢
  rw [show ((ByteArray.size ⟨#[97, 98, 99]⟩ : Nat) : Int) = 3 from rfl]
  have s1 := ShB.new w1 3 (.slice p L.length c)
  have g2 := World.grownBy_alloc w1 (.cells #[.int .i64 3, .slice p L.length c] 30) none
  obtain ⟨b, hb⟩ : ∃ b, b = w1.heap.size := ⟨_, rfl⟩
  obtain ⟨w2, hw2⟩ : ∃ w2, w2 = w1.alloc (.cells #[.int .i64 3, .slice p L.length c] 30) := ⟨_, rfl⟩
  rw [← hw2] at s1 g2
  rw [← hb] at s1
  have r2 := r1.kept g2
  have G2 := grow_none g1 g2
  have HB2 := Lib.hid hb
  have HW2 := Lib.hid hw2
  clear r1 g1 c1 g2 hb hw2
  have hLm : L.length ≤ maxLen := by rw [HL.out]; decide
  have HLM := Lib.hid hLm
  clear hLm
  have x0 := s1.c0
  have x1 := s1.c1
  have hz2 : w2.heap.size = b + 1 := by rw [HW2.out, World.size_alloc, ← HB2.out]
  go_wp2_with fail
  rw [← HB2.out, ← HW2.out]
  have v3 := VC.lit w2 (.string ⟨#[97, 98, 99]⟩) 9
  rw [hz2] at v3
  have g3 := World.grownBy_alloc w2 (.cells #[.string ⟨#[97, 98, 99]⟩] 9) none
  refine (Build_any 3 p c L _ [⟨#[97, 98, 99]⟩] _ (r2.kept g3) v3 (by omega) HLM.out (by decide) (by decide) ((hm.kept G2).kept g3)).mono ?_
  rintro e w3 ⟨rfl, g4⟩
  rw [HA.out]
  have G3 := grow_none (grow_none G2 g3) g4
  have s3 := s1.keep (grow_none g3 g4)
  have r3 := r2.kept (grow_none g3 g4)
  clear s1 r2 v3 g3 g4 hz2 x0 x1 G2
  have x0 := s3.c0
  have x1 := s3.c1
  go_wp2_with fail
  have v3 := VC.lit w3 (.string ⟨#[97, 98, 100]⟩) 9
  have g3 := World.grownBy_alloc w3 (.cells #[.string ⟨#[97, 98, 100]⟩] 9) none
  refine (Build_any 3 p c L _ [⟨#[97, 98, 100]⟩] _ (r3.kept g3) v3 (by omega) HLM.out (by decide) (by decide) ((hm.kept G3).kept g3)).mono ?_
  rintro e w4 ⟨rfl, g4⟩
  rw [HB.out]
  have G4 := grow_none (grow_none G3 g3) g4
  have s4 := s3.keep (grow_none g3 g4)
  have r4 := r3.kept (grow_none g3 g4)
  clear s3 r3 v3 g3 g4 x0 x1 G3
  have x0 := s4.c0
  have x1 := s4.c1
  go_wp2_with fail
  refine (Build_any 3 p c L _ [] _ r4 ⟨capok_lit _ _, ⟨none, 0, rfl, .inl rfl⟩⟩ (by omega) HLM.out (by decide) (by decide) (hm.kept G4)).mono ?_
  rintro e w5 ⟨rfl, g5⟩
  rw [HC.out]
  have G5 := grow_none G4 g5
  have s5 := s4.keep g5
  clear s4 r4 g5 x0 x1 G4
  go_wp2_with fail
  refine (Make_any ⟨#[]⟩ w5 (by decide) (hm.kept G5)).mono ?_
  rintro e w6 ⟨p6, c6, rfl, r6, g6, c6'⟩
  rw [show hashes (chunks (ByteArray.data ⟨#[]⟩).toList) = [] from rfl] at r6 ⊢
  rw [show ((ByteArray.size ⟨#[]⟩ : Nat) : Int) = 0 from rfl]
  have s7 := ShB.new w6 0 (.slice p6 0 c6)
  have g7 := World.grownBy_alloc w6 (.cells #[.int .i64 0, .slice p6 0 c6] 30) none
  have s8 := s5.keep (grow_none g6 g7)
  have r7 := r6.kept g7
  have G7 := grow_none (grow_none G5 g6) g7
  have x0 := s8.c0
  have x1 := s8.c1
  have y0 := s7.c0
  have y1 := s7.c1
  have hp := Pack_any 0 p6 c6 [] _ r7 (by omega) (by decide)
  rw [aw_p] at hp
  have HP := Lib.hid hp
  have S8 := Lib.hid s8
  have HG7 := Lib.hid G7
  have hli : ((L.length : Nat) : Int) = 1 := by rw [HL.out]; rfl
  clear s5 s7 s8 r6 r7 g6 g7 G5 G7 hp c6'
  go_wp2_with fail
  refine HP.out.mono ?_
  rintro e w8 ⟨rfl, g8⟩
  have x1 := (S8.out.keep g8).c1
  have G8 := Lib.hid (grow_none HG7.out g8)
  clear g8 y0 y1 x0
  go_wp2
  go_ret
  exact ⟨rfl, G8.out⟩
def mkN (s : ByteArray) : Int := if s.size ≤ 512 then s.size else 0
def mkL (s : ByteArray) : List ByteArray := if s.size ≤ 512 then hashes (chunks s.data.toList) else []
def mkE (s : ByteArray) : Int := if s.size ≤ 512 then 0 else 4
set_option maxRecDepth 100000 in
theorem MakeX_any (s : ByteArray) (w : World) (hs : s.size ≤ 1000000) (hm : Tb w) :
    Calls Tryd.prog 15 #[.string s] w fun e w' => Made (mkN s) (mkL s) (mkE s) e w w' := by
  by_cases h : s.size ≤ 512
  · have e1 : mkN s = s.size := by unfold mkN; rw [if_pos h]
    have e2 : mkL s = hashes (chunks s.data.toList) := by unfold mkL; rw [if_pos h]
    have e3 : mkE s = 0 := by unfold mkE; rw [if_pos h]
    rw [e1, e2, e3]
    exact Make_any s w h hm
  · have HN : Hid (mkN s = 0) := by show _ = _; unfold mkN; rw [if_neg h]
    have HL : Hid (mkL s = []) := by show _ = _; unfold mkL; rw [if_neg h]
    have HE : Hid (mkE s = 4) := by show _ = _; unfold mkE; rw [if_neg h]
    have hsi : decide ((512 : Int) < s.size) = true := decide_eq_true (by omega)
    have sa := ShB.new w 0 (.slice none 0 0)
    have GA := Lib.hid (World.grownBy_alloc w (.cells #[.int .i64 0, .slice none 0 0] 30) none)
    obtain ⟨a, ha⟩ : ∃ a, a = w.heap.size := ⟨_, rfl⟩
    rw [← ha] at sa
    have HA := Lib.hid ha
    have SA := Lib.hid sa
    have x0 := sa.c0
    have x1 := sa.c1
    have f0 := sa.fr 0
    have f1 := sa.fr 1
    clear h hs sa ha
    go_enter Tryd.func15, Tryd.ntmps15
    go_upto_region 2 with (fail)
    rw [← HA.out]
    go_wp2
    refine bodyPost_ret (res_sheet (fn := Tryd.f15) rfl _ _ a 0 (.slice none 0 0) rfl (SA.out.set01 _ _)) rfl ?_
    refine ⟨none, 0, by rw [HN.out, HL.out, HE.out]; rfl, ?_, grow_setnew (a := ⟨a, 1, none⟩) (grow_setnew (a := ⟨a, 0, none⟩) GA.out (by rw [HA.out]; exact Nat.le_refl _) _) (by rw [HA.out]; exact Nat.le_refl _) _, ?_⟩
    · rw [HL.out]; exact ⟨none, 0, rfl, .inl rfl⟩
    · rw [HL.out]; exact capok_lit _ _
set_option maxRecDepth 100000 in
theorem refMakeX_any (s : ByteArray) (w : World) (hs : s.size ≤ 1000000) (hm : Tb w) :
    Calls Tryd.prog 16 #[.string s] w fun e w' => Made (mkN s) (mkL s) (mkE s) e w w' := by
  by_cases h : s.size ≤ 512
  · have e1 : mkN s = s.size := by unfold mkN; rw [if_pos h]
    have e2 : mkL s = hashes (chunks s.data.toList) := by unfold mkL; rw [if_pos h]
    have e3 : mkE s = 0 := by unfold mkE; rw [if_pos h]
    rw [e1, e2, e3]
    exact refMake_any s w h hm
  · have HN : Hid (mkN s = 0) := by show _ = _; unfold mkN; rw [if_neg h]
    have HL : Hid (mkL s = []) := by show _ = _; unfold mkL; rw [if_neg h]
    have HE : Hid (mkE s = 4) := by show _ = _; unfold mkE; rw [if_neg h]
    have hsi : decide ((512 : Int) < s.size) = true := decide_eq_true (by omega)
    have sa := ShB.new w 0 (.slice none 0 0)
    have GA := Lib.hid (World.grownBy_alloc w (.cells #[.int .i64 0, .slice none 0 0] 30) none)
    obtain ⟨a, ha⟩ : ∃ a, a = w.heap.size := ⟨_, rfl⟩
    rw [← ha] at sa
    have HA := Lib.hid ha
    have SA := Lib.hid sa
    have x0 := sa.c0
    have x1 := sa.c1
    have f0 := sa.fr 0
    have f1 := sa.fr 1
    clear h hs sa ha
    go_enter Tryd.func16, Tryd.ntmps16
    go_upto_region 2 with (fail)
    rw [← HA.out]
    go_wp2
    refine bodyPost_ret (res_sheet (fn := Tryd.f16) rfl _ _ a 0 (.slice none 0 0) rfl (SA.out.set01 _ _)) rfl ?_
    refine ⟨none, 0, by rw [HN.out, HL.out, HE.out]; rfl, ?_, grow_setnew (a := ⟨a, 1, none⟩) (grow_setnew (a := ⟨a, 0, none⟩) GA.out (by rw [HA.out]; exact Nat.le_refl _) _) (by rw [HA.out]; exact Nat.le_refl _) _, ?_⟩
    · rw [HL.out]; exact ⟨none, 0, rfl, .inl rfl⟩
    · rw [HL.out]; exact capok_lit _ _
theorem textsB_cons (s : ByteArray) (l : List ByteArray) : textsB (s :: l) = numB s.size ++ s.data.toList ++ textsB l := by simp only [textsB, List.flatMap_cons]
theorem textsB_ge (l : List ByteArray) : l.length ≤ (textsB l).length := by
  induction l with
  | nil => simp
  | cons s l ih =>
    rw [textsB_cons, List.length_append, List.length_append, List.length_cons]
    have := numB_pos (s.size : Int)
    omega
theorem st_pack (l : List ByteArray) (hs : ∀ s ∈ l, s.size ≤ 9223372036854775807) : ∀ k, k ≤ l.length → stT (bs (textsB l)) false k = (bs (textsB (l.drop k)), false) ∧ txT (bs (textsB l)) false k = l.take k
  | 0, _ => ⟨rfl, rfl⟩
  | k + 1, hk => by
    obtain ⟨e1, e2⟩ := st_pack l hs k (by omega)
    have hlt : k < l.length := by omega
    have hd : l.drop k = l[k] :: l.drop (k + 1) := List.drop_eq_getElem_cons hlt
    have ht := text_back l[k] (hs _ (List.getElem_mem hlt)) (textsB (l.drop (k + 1)))
    rw [← textsB_cons, ← hd] at ht
    obtain ⟨h1, h2, h3⟩ := ht
    constructor
    · show (rTextS (stT (bs (textsB l)) false k).1 (stT (bs (textsB l)) false k).2, rCountB (stT (bs (textsB l)) false k).1 (stT (bs (textsB l)) false k).2) = _
      rw [e1, h2, h3]
    · have e3 : txT (bs (textsB l)) false (k + 1) = txT (bs (textsB l)) false k ++ [rText (stT (bs (textsB l)) false k).1 (stT (bs (textsB l)) false k).2] := by
        unfold txT; rw [List.range_succ]; simp
      rw [e3, e2, e1, h1, List.take_succ_eq_append_getElem hlt]
theorem pack_parts (n : Int) (l : List ByteArray) : packB n l = numB n ++ (numB (l.length : Int) ++ textsB l) := by
  unfold packB numsB
  simp
theorem ok_bounds {n : Int} {l : List ByteArray} (h : okS n l = true) : 0 ≤ n ∧ n ≤ 512 ∧ (l.length : Int) = cntI n ∧ ∀ s ∈ l, s.size = 32 := by
  unfold okS at h
  simp only [Bool.and_eq_true, decide_eq_true_eq, List.all_eq_true] at h
  exact ⟨h.1.1.1, h.1.1.2, h.1.2, h.2⟩
theorem ok_len {n : Int} {l : List ByteArray} (h : okS n l = true) : l.length ≤ 8 := by
  obtain ⟨h1, h2, h3, _⟩ := ok_bounds h
  unfold cntI at h3
  split at h3 <;> omega
theorem parse_pack {n : Int} {l : List ByteArray} (h : okS n l = true) : prN (bs (packB n l)) = n ∧ prL (bs (packB n l)) = l ∧ psOk (bs (packB n l)) = true := by
  obtain ⟨h1, h2, _, h4⟩ := ok_bounds h
  have hlen := ok_len h
  have hn : -9223372036854775808 ≤ n ∧ n ≤ 9223372036854775807 := by omega
  have hm : -9223372036854775808 ≤ (l.length : Int) ∧ (l.length : Int) ≤ 9223372036854775807 := by omega
  obtain ⟨a1, a2, a3⟩ := num_back hn (numB (l.length : Int) ++ textsB l)
  obtain ⟨b1, b2, b3⟩ := num_back hm (textsB l)
  rw [← pack_parts] at a1 a2 a3
  have e1 : psN (bs (packB n l)) = n := a1
  have e2 : nextS (bs (packB n l)) = bs (numB (l.length : Int) ++ textsB l) := a2
  have e3 : nextBad (bs (packB n l)) = false := by simpa [rNumB] using a3
  have f1 : (getN (bs (numB (l.length : Int) ++ textsB l))).1 = l.length := b1
  have f2 : nextS (bs (numB (l.length : Int) ++ textsB l)) = bs (textsB l) := b2
  have f3 : nextBad (bs (numB (l.length : Int) ++ textsB l)) = false := by simpa [rNumB] using b3
  have hge := textsB_ge l
  have hc : rCountB (nextS (bs (packB n l))) (nextBad (bs (packB n l))) = false := by
    rw [e2, e3]
    unfold rCountB sizeBad
    rw [f1, f2, f3, bs_size]
    simp only [Bool.false_or, Bool.or_false, Bool.or_eq_false_iff, decide_eq_false_iff_not]
    omega
  obtain ⟨_, c1, c2, _, _⟩ := ps_good hc
  rw [e2, f1] at c1
  rw [e2, f2] at c2
  have c3 : psC (bs (packB n l)) = l.length := by rw [c1]; omega
  obtain ⟨s1, s2⟩ := st_pack l (fun s hs => by rw [h4 s hs]; omega) l.length (Nat.le_refl _)
  have d1 : psT (bs (packB n l)) (psC (bs (packB n l))) = (bs (textsB (l.drop l.length)), false) := by
    unfold psT
    rw [e2, c2, ← e2, hc, c3, s1]
  have d2 : psL (bs (packB n l)) (psC (bs (packB n l))) = l := by
    unfold psL
    rw [e2, c2, ← e2, hc, c3, s2, List.take_length]
  have hok : psOk (bs (packB n l)) = true := by
    unfold psOk
    rw [d1, d2, e1, h, Bool.and_true, List.drop_length]
    exact (done_iff _ _).2 ⟨rfl, rfl⟩
  refine ⟨?_, ?_, hok⟩
  · unfold prN; rw [if_pos hok, e1]
  · unfold prL; rw [if_pos hok, d2]
theorem pack_size {n : Int} {l : List ByteArray} (h : okS n l = true) : (bs (packB n l)).size ≤ 1000000 ∧ roomB l ≤ 1000000000000 := by
  obtain ⟨h1, h2, _, h4⟩ := ok_bounds h
  have hlen := ok_len h
  have hr : roomB l = 42 * l.length := by
    clear hlen
    induction l with
    | nil => rfl
    | cons s l ih =>
      have e1 : roomB (s :: l) = s.size + 10 + roomB l := by simp only [roomB, List.map_cons, List.sum_cons]
      have e2 : roomB l = 42 * l.length := by
        clear ih h
        have key : ∀ m : List ByteArray, (∀ s ∈ m, s.size = 32) → roomB m = 42 * m.length := by
          intro m
          induction m with
          | nil => intro _; rfl
          | cons x m ihm =>
            intro hx
            have e3 : roomB (x :: m) = x.size + 10 + roomB m := by simp only [roomB, List.map_cons, List.sum_cons]
            rw [e3, hx x (List.mem_cons_self ..), ihm (fun y hy => hx y (List.mem_cons_of_mem _ hy)), List.length_cons]
            omega
        exact key l (fun y hy => h4 y (List.mem_cons_of_mem _ hy))
      rw [e1, e2, h4 s (List.mem_cons_self ..), List.length_cons]
      omega
  have ht := textsB_room l (fun s hs => by rw [h4 s hs]; omega)
  have hb := numsB_len [n, (l.length : Int)] (by
    intro x hx
    simp only [List.mem_cons, List.not_mem_nil, or_false] at hx
    rcases hx with rfl | rfl <;> omega)
  refine ⟨?_, by omega⟩
  rw [bs_size]
  unfold packB
  rw [List.length_append]
  have : [n, (l.length : Int)].length = 2 := rfl
  omega
/-- No two unlike ones have one digest. -/
def InjH (l : List ByteArray) : Prop := ∀ x ∈ l, ∀ y ∈ l, hashB x = hashB y → x = y
def PairOk (l : List ByteArray) (i : Nat) : Prop := ∀ a, a < i → ∀ b, b < a → hashB (l.getD b ⟨#[]⟩) = hashB (l.getD a ⟨#[]⟩) → l.getD b ⟨#[]⟩ = l.getD a ⟨#[]⟩
def OneOk (l : List ByteArray) (i k : Nat) : Prop := ∀ b, b < k → hashB (l.getD b ⟨#[]⟩) = hashB (l.getD i ⟨#[]⟩) → l.getD b ⟨#[]⟩ = l.getD i ⟨#[]⟩
theorem PairOk.step {l : List ByteArray} {i : Nat} (h : PairOk l i) (k : OneOk l i i) : PairOk l (i + 1) := by
  intro a ha b hb
  rcases Nat.eq_or_lt_of_le (Nat.le_of_lt_succ ha) with rfl | ha
  · exact k b hb
  · exact h a ha b hb
theorem OneOk.step {l : List ByteArray} {i k : Nat} (h : OneOk l i k) (e : hashB (l.getD k ⟨#[]⟩) = hashB (l.getD i ⟨#[]⟩) → l.getD k ⟨#[]⟩ = l.getD i ⟨#[]⟩) : OneOk l i (k + 1) := by
  intro b hb
  rcases Nat.eq_or_lt_of_le (Nat.le_of_lt_succ hb) with rfl | hb
  · exact e
  · exact h b hb
theorem PairOk.all {l : List ByteArray} (h : PairOk l l.length) : InjH l := by
  intro x hx y hy e
  obtain ⟨i, hi, rfl⟩ := List.getElem_of_mem hx
  obtain ⟨j, hj, rfl⟩ := List.getElem_of_mem hy
  have gi : l.getD i ⟨#[]⟩ = l[i] := by rw [List.getD, List.getElem?_eq_getElem hi]; rfl
  have gj : l.getD j ⟨#[]⟩ = l[j] := by rw [List.getD, List.getElem?_eq_getElem hj]; rfl
  rcases Nat.lt_trichotomy i j with h1 | h1 | h1
  · have := h j hj i h1
    rw [gi, gj] at this
    exact this e
  · subst h1; rfl
  · have := h i hi j h1
    rw [gi, gj] at this
    exact (this e.symm).symm
def ClashE (l : List ByteArray) (w : World) (e : Ending) (w' : World) : Prop := ∃ t : Bool, e = .returned (.bool t) ∧ (t = false → InjH l) ∧ w.grownBy w' none
theorem hashes_getD (l : List ByteArray) (i j : Nat) (hj : j < i) (hi : i ≤ l.length) : (hashes (l.take i)).getD j ⟨#[]⟩ = hashB (l.getD j ⟨#[]⟩) := by
  unfold hashes
  rw [List.getD, List.getD, List.getElem?_map, List.getElem?_take, if_pos hj, List.getElem?_eq_getElem (by omega)]; rfl
theorem bytes_ne' {s t : ByteArray} (h : s ≠ t) : (s.toList == t.toList) = false := by
  have := bytes_ne h
  simpa using this
set_option maxRecDepth 100000 in
set_option maxHeartbeats 4000000 in
theorem Clash_any (v : Value) (l : List ByteArray) (w : World) (hr : RowAt w v (l.map Value.string)) (hl : l.length ≤ 1000) (hs : ∀ s ∈ l, s.size ≤ 100000000) :
    Calls Tryd.prog 29 #[v] w (ClashE l w) := by
  obtain ⟨i0, hi, hz0, hz1, hz2⟩ := info_parts Tryd.infoS_string
  obtain ⟨p, c, rfl⟩ := row_form hr
  have HR := Lib.hid hr
  have HL := Lib.hid hl
  have HS := Lib.hid hs
  have hli : (l.length : Int) ≤ 1000 := by omega
  clear hr hl hs
  go_enter Tryd.func29, Tryd.ntmps29
  go_wp2
  go_loopw [3, 4] (fun d i wr => ∃ k : Nat, k ≤ l.length ∧ i = .int .i64 k ∧ wr.ownsRow 0 9 1 d k ((hashes (l.take k)).map Value.string) ∧ NewBlk w d ∧ PairOk l k ∧ w.grownBy wr none) (fun _ i _ => l.length - (intOf i).toNat)
  case atStart => exact ⟨0, Nat.zero_le _, rfl, ⟨by simp [hashes], .inl ⟨rfl, rfl⟩⟩, fun k hk => by simp [Value.ownBlock] at hk, fun a ha => by omega, grow_refl _ _⟩
  case round =>
    obtain ⟨k, hk, rfl, ho, hn, hp, hg⟩ := hrel
    by_cases hlt : k < l.length
    · have hki : (k : Int) < l.length := by omega
      have hk8 : (k : Int) < 1000 := by omega
      obtain ⟨bb, off, rfl, hcell, hbb⟩ := row_string (HR.out.kept hg) rfl hlt
      have HSN := Lib.hid (hashes_snoc l k hlt)
      have hx8 : (l[k]).size ≤ 100000000 := HS.out _ (List.getElem_mem hlt)
      have hge : l.getD k ⟨#[]⟩ = l[k] := by rw [List.getD, List.getElem?_eq_getElem hlt]; rfl
      rw [hge] at hcell
      obtain ⟨x, hx⟩ : ∃ x, x = l[k] := ⟨_, rfl⟩
      rw [← hx] at hcell hx8 HSN hge
      have HX8 := Lib.hid hx8
      have HGE := Lib.hid hge
      have HO := Lib.hid ho
      have HN := Lib.hid hn
      have HP := Lib.hid hp
      have HG := Lib.hid hg
      have HK := Lib.hid hlt
      clear hx hx8 hge ho hn hp hg hlt hk
      go_wp2_with fail
      refine (refSum_any x wr HX8.out).mono ?_
      rintro e w1 ⟨rfl, g1⟩
      rw [show (⟨(shaS x).toArray⟩ : ByteArray) = hashB x from rfl]
      have g2 := World.grownBy_alloc w1 (.cells #[.string (hashB x)] 9) none
      have o2 := own_keep (own_keep HO.out g1) g2
      have r2 := RowAt.lit w1 [.string (hashB x)] 9 1 1 rfl
      have G2 := Lib.hid (grow_none (grow_none HG.out g1) g2)
      clear g1 g2 hcell
      go_wp2_with (at_builtin; refine wpList_append_row _ rfl (.tmp 12) (.tmp 18) 22 (by with_reducible rfl) 9 i0 (.string ⟨#[]⟩) 16 Tryd.underlying22 hi hz0 hz1 hz2 rfl _ _ _ rfl o2 _ [.string (hashB x)] rfl r2 (onesS [hashB x]) (by show k + 1 ≤ 2^63-1; omega) (by show (k + 1) * 16 ≤ _; omega) ?_)
      intro v4 w4 o4 g4 m4
      obtain ⟨pv, cv, rfl⟩ := own_form o4
      have N4 := Lib.hid (HN.out.moved G2.out.size m4)
      have X4 := Lib.hid (grow_newblk G2.out HN.out g4)
      have O4 : Hid (w4.ownsRow 0 9 1 (.slice pv (k + 1) cv) (k + 1) ((hashes (l.take (k + 1))).map Value.string)) := by
        show w4.ownsRow _ _ _ _ _ _
        rw [HSN.out]
        exact o4
      clear o4 g4 m4 o2 r2
      go_wp2
      go_loopw [5] (fun i wr => ∃ j : Nat, j ≤ k ∧ i = .int .i64 j ∧ OneOk l k j ∧ w4.grownBy wr none) (fun i _ => k - (intOf i).toNat)
      case atStart => exact ⟨0, Nat.zero_le _, rfl, fun b hb => by omega, grow_refl _ _⟩
      case round =>
        obtain ⟨j, hj, rfl, hone, hg⟩ := hrel
        by_cases hjk : j < k
        · have hji : (j : Int) < k := by omega
          have hjl : j < l.length := by have := HK.out; omega
          have hjli : (j : Int) < l.length := by omega
          obtain ⟨pb, po, hpe, hcj, hpb⟩ := row_string (HR.out.kept (grow_none X4.out hg)) rfl hjl
          obtain ⟨pb2, po2, hpe2, hck, _⟩ := row_string (HR.out.kept (grow_none X4.out hg)) rfl HK.out
          rw [hpe] at hpe2
          injection hpe2 with hpe2
          injection hpe2 with hq1 hq2
          subst hq1 hq2
          rw [HGE.out] at hck
          have rd := RowAt.of_own (own_keep O4.out hg)
          have hdl : (hashes (l.take (k + 1))).length = k + 1 := by rw [hashes_len, List.length_take]; have := HK.out; omega
          obtain ⟨db, dof, hde, hdj, hdb⟩ := row_string rd hdl (show j < k + 1 by omega)
          obtain ⟨db2, do2, hde2, hdk, _⟩ := row_string rd hdl (show k < k + 1 by omega)
          rw [hde] at hde2
          injection hde2 with hde2
          injection hde2 with hq3 hq4
          subst hq3 hq4
          rw [hashes_getD l (k + 1) j (by omega) (by have := HK.out; omega)] at hdj
          rw [hashes_getD l (k + 1) k (by omega) (by have := HK.out; omega), HGE.out] at hdk
          have HST := Lib.hid (fun e => hone.step e)
          rw [HGE.out] at HST
          obtain ⟨y, hy⟩ : ∃ y, y = l.getD j ⟨#[]⟩ := ⟨_, rfl⟩
          rw [← hy] at hcj hdj HST
          have hk1 : (k : Int) < ((k + 1 : Nat) : Int) := by omega
          have hj1 : (j : Int) < ((k + 1 : Nat) : Int) := by omega
          have hk2 : (k : Int) < (k : Int) + 1 := by omega
          have hj2 : (j : Int) < (k : Int) + 1 := by omega
          injection hpe with hpe
          injection hpe with hr1 hr2
          subst hr1 hr2 hde
          have HCJ : Hid (∀ W, wr.grownBy W none → W.cell? ⟨bb, off + j, none⟩ = some (.string y) ∧ W.cell? ⟨bb, off + k, none⟩ = some (.string x) ∧ W.cell? ⟨db, dof + j, none⟩ = some (.string (hashB y)) ∧ W.cell? ⟨db, dof + k, none⟩ = some (.string (hashB x))) := fun W hW => by
            exact ⟨(World.cell?_of_block (a := ⟨bb, off + j, none⟩) (hW.block bb hpb (by simp))).trans hcj, (World.cell?_of_block (a := ⟨bb, off + k, none⟩) (hW.block bb hpb (by simp))).trans hck,
              (World.cell?_of_block (a := ⟨db, dof + j, none⟩) (hW.block db hdb (by simp))).trans hdj, (World.cell?_of_block (a := ⟨db, dof + k, none⟩) (hW.block db hdb (by simp))).trans hdk⟩
          have HG := Lib.hid hg
          have HJ := Lib.hid hjk
          clear hcj hck hdj hdk rd hdl hy hone hg hpb hdb hjl hjk hj
          by_cases hh : hashB y = hashB x
          · by_cases hxy : y = x
            · have HXY := Lib.hid hxy
              obtain ⟨h, hhx⟩ : ∃ h, h = hashB x := ⟨_, rfl⟩
              rw [hh, ← hhx, hxy] at HCJ
              clear hh hhx hxy
              go_wp2
              refine wp_region_rel (fun W => wr.grownBy W none) (fun W W' => W.grownBy W' none) (by kernel_rfl) (by kernel_rfl) (fun W => grow_refl W none) (grow_drawn (grow_refl _ _)) ?_
              iterate 20 (refine wpRel_det ?_; apply Exists.intro; refine ⟨fun W hI => ?_, ?_⟩; focus (obtain ⟨c1, c2, c3, c4⟩ := HCJ.out W hI; go_simp; first | exact ⟨rfl, grow_refl _ _⟩ | exact ⟨rfl, hI, grow_refl _ _⟩ | exact rfl))
              refine wpRel_nil ?_
              intro w5 hI5
              have G5 := Lib.hid (grow_none HG.out hI5)
              clear hI5
              go_simp
              go_wp2
              go_roundw
              case rel => exact ⟨j + 1, by have := HJ.out; omega, by go_num, HST.out (fun _ => HXY.out), G5.out⟩
              case measure => have := HJ.out; simp [intOf]; omega
            · have hbe := bytes_ne hxy
              have hbf := bytes_ne' hxy
              obtain ⟨h, hhx⟩ : ∃ h, h = hashB x := ⟨_, rfl⟩
              rw [hh, ← hhx] at HCJ
              clear hh hhx hxy
              go_wp2
              refine wp_region_rel (fun W => wr.grownBy W none) (fun W W' => W.grownBy W' none) (by kernel_rfl) (by kernel_rfl) (fun W => grow_refl W none) (grow_drawn (grow_refl _ _)) ?_
              iterate 20 (refine wpRel_det ?_; apply Exists.intro; refine ⟨fun W hI => ?_, ?_⟩; focus (obtain ⟨c1, c2, c3, c4⟩ := HCJ.out W hI; go_simp; first | exact ⟨rfl, grow_refl _ _⟩ | exact ⟨rfl, hI, grow_refl _ _⟩ | exact rfl))
              refine wpRel_nil ?_
              intro w5 hI5
              have G5 := Lib.hid (grow_none (grow_none X4.out HG.out) hI5)
              clear hI5
              go_simp
              go_wp2
              go_ret
              exact ⟨true, rfl, (fun h => by cases h), G5.out⟩
          · have hbe := bytes_ne hh
            have hbf := bytes_ne' hh
            have HH := Lib.hid hh
            clear hh
            go_wp2
            refine wp_region_rel (fun W => wr.grownBy W none) (fun W W' => W.grownBy W' none) (by kernel_rfl) (by kernel_rfl) (fun W => grow_refl W none) (grow_drawn (grow_refl _ _)) ?_
            iterate 20 (refine wpRel_det ?_; apply Exists.intro; refine ⟨fun W hI => ?_, ?_⟩; focus (obtain ⟨c1, c2, c3, c4⟩ := HCJ.out W hI; go_simp; first | exact ⟨rfl, grow_refl _ _⟩ | exact ⟨rfl, hI, grow_refl _ _⟩ | exact rfl))
            refine wpRel_nil ?_
            intro w5 hI5
            have G5 := Lib.hid (grow_none HG.out hI5)
            clear hI5
            go_simp
            go_wp2
            go_roundw
            case rel => exact ⟨j + 1, by have := HJ.out; omega, by go_num, HST.out (fun e => absurd e HH.out), G5.out⟩
            case measure => have := HJ.out; simp [intOf]; omega
        · have hji : (k : Int) ≤ (j : Int) := by omega
          have hjk2 : j = k := by omega
          have PK : Hid (PairOk l (k + 1)) := HP.out.step (by rw [hjk2] at hone; exact hone)
          have HG := Lib.hid (grow_none X4.out hg)
          have O5 := Lib.hid (own_keep O4.out hg)
          clear hone hg hjk2 hjk hj
          go_wp2
          go_roundw
          case rel => exact ⟨k + 1, by have := HK.out; omega, by go_num, O5.out, N4.out, PK.out, HG.out⟩
          case measure => have := HK.out; simp [intOf]; omega
    · have hki : (l.length : Int) ≤ (k : Int) := by omega
      have HI : Hid (InjH l) := PairOk.all (by rw [show l.length = k by omega]; exact hp)
      have HG := Lib.hid hg
      clear ho hn hp hg hlt hk
      go_wp2
      go_ret
      exact ⟨false, rfl, fun _ => HI.out, HG.out⟩
/-- A list of the call's own, with its room. -/
def CutO (w0 : World) (l : List ByteArray) (e : Ending) (w' : World) : Prop := ∃ v, e = .returned v ∧ w'.ownsRow 0 9 1 v l.length (l.map Value.string) ∧ NewBlk w0 v ∧ w0.grownBy w' none
set_option maxRecDepth 100000 in
set_option maxHeartbeats 1000000 in
theorem CutO_any (s : ByteArray) (w : World) (hs : s.size ≤ 1000000) :
    Calls Tryd.prog 28 #[.string s] w (CutO w (chunks s.data.toList)) := by
  obtain ⟨i0, hi, hz0, hz1, hz2⟩ := info_parts Tryd.info07_string
  have hsi : (s.size : Int) ≤ 1000000 := by omega
  obtain ⟨l, hl⟩ : ∃ l, l = s.data.toList := ⟨_, rfl⟩
  have hln : l.length = s.size := by rw [hl, Array.length_toList]; rfl
  have hc : cntI (s.size : Int) = ((cntN l.length : Nat) : Int) := by
    unfold cntI cntN
    rw [hln]
    split <;> omega
  have hcb : cntN l.length ≤ 20000 := by unfold cntN; omega
  obtain ⟨c, hcc⟩ : ∃ c, c = cntN l.length := ⟨_, rfl⟩
  rw [← hcc] at hc hcb
  have hmk : ∀ W : World, (Instr.makeSlice 22 (.int .i64 0) (.int .i64 (c : Int))).run Tryd.prog W = .ok (.slice (some ⟨W.heap.size, 0, none⟩) 0 c) (W.alloc (.cells (List.replicate c (Value.string ⟨#[]⟩)).toArray 9)) :=
    fun W => run_make_one (P := Tryd.prog) 22 9 i0 (.string ⟨#[]⟩) 16 Tryd.underlying22 hi hz0 rfl hz1 hz2 .i64 .i64 0 c (Nat.zero_le _) (by omega) (by omega) W
  have t0 : CutAt l w (.string s) (.slice (some ⟨w.heap.size, 0, none⟩) 0 c) (w.alloc (.cells (List.replicate c (Value.string ⟨#[]⟩)).toArray 9)) :=
    ⟨0, by rw [hl, restC_zero], Nat.zero_le _, own_made w _ _ c (by show _ ≤ 2^63-1; omega), newblk_at w w.heap.size 0 c (Nat.le_refl _) 0, World.grownBy_alloc _ _ _⟩
  have HC := Lib.hid hc
  have HCC := Lib.hid hcc
  have HLN := Lib.hid hln
  rw [← hl]
  have HLL := Lib.hid hl
  clear hc hcc hln hl
  go_enter Tryd.func28, Tryd.ntmps28
  go_wp2_with fail
  refine (CountC_any _ _ (by omega)).mono ?_
  rintro e w1 ⟨rfl, rfl⟩
  rw [HC.out]
  go_wp2
  go_loopw [0, 3] (fun d v wr => CutAt l w d v wr) (fun d _ _ => sizeV d)
  case atStart => exact t0
  case round =>
    clear t0 hmk
    obtain ⟨k, rfl, hk, ho, hn, hg⟩ := hrel
    have hrs := restC_size l k
    obtain ⟨t, ht⟩ : ∃ t, t = restC l k := ⟨_, rfl⟩
    rw [← ht] at hrs ⊢
    have HT := Lib.hid ht
    clear ht
    have hti : (t.size : Int) ≤ 1000000 := by have := HLN.out; omega
    by_cases h0 : l.length ≤ 64 * k
    · have hz : t = ⟨#[]⟩ := empty_size (by omega)
      have hkk : k = cntN l.length := by
        unfold cntN at hk ⊢
        omega
      subst hz
      have HF : Hid (((List.range k).map (chS l)) = chunks l) := by show _ = _; unfold chunks; rw [hkk]
      have HR : Hid (∃ q : Nat, q = (chunks l).length ∧ wr.ownsRow 0 9 1 _ q ((chunks l).map Value.string)) := ⟨k, by rw [← HF.out, List.length_map, List.length_range], by rw [← HF.out]; exact ho⟩
      clear hkk ho
      go_wp2
      go_ret
      obtain ⟨q, hq, ho⟩ := HR.out
      exact ⟨_, rfl, by rw [← hq]; exact ho, hn, hg⟩
    · have h1 : 1 ≤ t.size := by omega
      have he := isEmpty_no h1
      have hkn : k < cntN l.length := by unfold cntN; omega
      have hkb : k ≤ 20000 := by have := HCC.out; omega
      have HRS := Lib.hid hrs
      have HGT : Hid (64 * k < l.length) := by show _ < _; omega
      by_cases h64 : 64 ≤ t.size
      · have h64i : (64 : Int) ≤ t.size := by omega
        have hx1 : t.extract 0 64 = chS l k := by rw [HT.out]; exact restC_take l k 64 (by rw [← hrs]; omega)
        have hx2 : t.extract 64 t.size = restC l (k + 1) := by rw [hrs, HT.out]; exact restC_drop l k 64 (by rw [← hrs]; omega)
        have hmin : min (64 : Int) t.size = 64 := by omega
        clear h0 h64 hrs
        go_wp2_with (at_builtin; refine wpList_append_row _ rfl _ _ 22 rfl 9 i0 (.string ⟨#[]⟩) 16 Tryd.underlying22 hi hz0 hz1 hz2 rfl _ _ _ rfl (ho.alloc _) _ [Value.string (chS l k)] rfl (RowAt.lit wr [Value.string (chS l k)] _ _ _ rfl) (ones_str [chS l k]) (by show k + 1 ≤ 2^63-1; omega) (by show (k + 1) * 16 ≤ _; omega) ?_)
        intro v3 w3 o3 g3 mv3
        have X3 := grow_newblk (grow_none hg (World.grownBy_alloc wr (.cells #[Value.string (chS l k)] 9) none)) hn g3
        have N3 := hn.moved (grow_none hg (World.grownBy_alloc wr (.cells #[Value.string (chS l k)] 9) none)).size mv3
        go_wp2
        go_roundw
        case rel => exact ⟨k + 1, rfl, by omega, by rw [cnt_step, List.map_map]; exact o3, N3, X3⟩
        case measure => simp only [sizeV]; rw [restC_size, HRS.out]; have := HGT.out; omega
      · have h64i : (t.size : Int) < 64 := by omega
        have hx1 : t.extract 0 t.size = chS l k := by rw [hrs, HT.out]; exact restC_take l k _ (by omega)
        have HRE : Hid (restC l (k + 1) = ByteArray.empty) := by show _ = _; unfold restC; rw [List.drop_of_length_le (by omega)]; rfl
        have hmin : min (64 : Int) t.size = t.size := by omega
        clear h0 h64 hrs
        go_wp2_with (at_builtin; refine wpList_append_row _ rfl _ _ 22 rfl 9 i0 (.string ⟨#[]⟩) 16 Tryd.underlying22 hi hz0 hz1 hz2 rfl _ _ _ rfl (ho.alloc _) _ [Value.string (chS l k)] rfl (RowAt.lit wr [Value.string (chS l k)] _ _ _ rfl) (ones_str [chS l k]) (by show k + 1 ≤ 2^63-1; omega) (by show (k + 1) * 16 ≤ _; omega) ?_)
        intro v3 w3 o3 g3 mv3
        have X3 := grow_newblk (grow_none hg (World.grownBy_alloc wr (.cells #[Value.string (chS l k)] 9) none)) hn g3
        have N3 := hn.moved (grow_none hg (World.grownBy_alloc wr (.cells #[Value.string (chS l k)] 9) none)).size mv3
        go_wp2
        go_roundw
        case rel => exact ⟨k + 1, by rw [HRE.out], by omega, by rw [cnt_step, List.map_map]; exact o3, N3, X3⟩
        case measure => show 0 < t.size; omega
theorem wpList_append_row_g {P : Program} (w : World) {ops : Array Oper} {rest : List Oper} {o : Oper} {a : Act} {Q : Exit → Act → World → Prop} (hw : Region.wanted o (yielded ops a.tmps) = true) (s x : Operand) (t : TypeId)
    (ho : o.op = .call { callee := .builtin .append, args := #[s, x], argTypes := #[t, t] })
    (e : TypeId) (i : TypeInfo) (z : Value) (bytes : Nat) (ht : P.underlying t = some (.slice e)) (hi : P.info? e = some i) (hz : i.zero = some z)
    (hsize : i.size = 1) (hby : i.bytes = bytes) (hzs : z.cells.size = 1)
    (v : Value) (n : Nat) (xs : List Value) (hs : a.eval s = v) (hown : w.ownsRow 0 e 1 v n xs)
    (vs : Value) (news : List Value) (hx : a.eval x = vs) (hr : RowAt w vs news) (h1 : ∀ u ∈ news, u.oneCell' = true)
    (h63 : n + news.length ≤ maxLen) (hbytes : (n + news.length) * bytes ≤ 140737488355328)
    (h : ∀ v' w', w'.ownsRow 0 e 1 v' (n + news.length) (xs ++ news) → w.grownBy w' v.ownBlock → Moved w v v' → wpList P ops Q rest (a.put o.dst v') w') : wpList P ops Q (o :: rest) a w := by
  obtain ⟨v', w', hrun, h2, h3, h4⟩ := run_append_row (P := P) w t o.type e i z bytes ht hi hz hsize hby hzs v n xs hown vs news hr h1 h63 hbytes
  refine wpList_step fun K hK => ?_
  rw [if_pos hw]
  unfold Oper.wp execOp
  simp only [ho, resolve, invoke, builtin, Sem.run_bind, Sem.run_pure, Result.andThen_ok, List.map_toArray, List.map_cons, List.map_nil, hs, hx, hrun]
  exact hK _ _ (h v' w' h2 h3 h4)
theorem data_inj {a b : ByteArray} (h : a.data.toList = b.data.toList) : a = b := ByteArray.ext (Array.ext' h)
/-- Where no two unlike ones have one digest, texts with the same digests are the same. -/
theorem hashes_inj {l m : List ByteArray} (h : InjH (l ++ m)) (e : hashes l = hashes m) : l = m := by
  have hl : l.length = m.length := by have := congrArg List.length e; rwa [hashes_len, hashes_len] at this
  apply List.ext_getElem hl
  intro i h1 h2
  have e2 : (hashes l)[i]'(by rw [hashes_len]; exact h1) = (hashes m)[i]'(by rw [hashes_len]; exact h2) := by simp [e]
  unfold hashes at e2
  rw [List.getElem_map, List.getElem_map] at e2
  exact h _ (List.mem_append_left _ (List.getElem_mem h1)) _ (List.mem_append_right _ (List.getElem_mem h2)) e2
theorem chunks_inj {a b : ByteArray} (h : chunks a.data.toList = chunks b.data.toList) : a = b := by
  have := congrArg allB h
  rw [chunks_all, chunks_all] at this
  exact data_inj this
theorem made_same {a b : ByteArray} (h : InjH (chunks a.data.toList ++ chunks b.data.toList)) : sameS a.size (hashes (chunks a.data.toList)) b.size (hashes (chunks b.data.toList)) = decide (a = b) := by
  by_cases hab : a = b
  · subst hab
    unfold sameS
    rw [decide_eq_true rfl, decide_eq_true rfl, decide_eq_true rfl]; rfl
  · rw [decide_eq_false hab]
    unfold sameS
    rw [decide_eq_false (p := hashes (chunks a.data.toList) = hashes (chunks b.data.toList)), Bool.and_false]
    intro e
    exact hab (chunks_inj (hashes_inj h e))
theorem str_eq (a b : ByteArray) : (a.toList == b.toList) = decide (a = b) := by
  by_cases hab : a = b
  · subst hab; rw [decide_eq_true rfl]; simp
  · rw [decide_eq_false hab]; exact bytes_ne' hab
theorem pack_same {a b : ByteArray} (ha : a.size ≤ 512) (hb : b.size ≤ 512) (h : InjH (chunks a.data.toList ++ chunks b.data.toList)) :
    ((bs (packB a.size (hashes (chunks a.data.toList)))).toList == (bs (packB b.size (hashes (chunks b.data.toList)))).toList) = decide (a = b) := by
  rw [str_eq]
  by_cases hab : a = b
  · subst hab; rw [decide_eq_true rfl, decide_eq_true rfl]
  · rw [decide_eq_false hab]
    apply decide_eq_false
    intro e
    obtain ⟨_, e1, _⟩ := parse_pack (made_ok ha)
    obtain ⟨_, e2, _⟩ := parse_pack (made_ok hb)
    rw [e, e2] at e1
    exact hab (chunks_inj (hashes_inj h e1.symm))
theorem chunks_few {s : ByteArray} (h : s.size ≤ 512) : (chunks s.data.toList).length ≤ 8 := by rw [chunks_len', data_len]; unfold cntN; omega
theorem mod_posS (a : Int) (m : Nat) (h0 : 0 < m) (hm : m ≤ 1000000000) : ∃ k : Nat, k < m ∧ (IntKind.u64.wrap a).tmod (m : Int) = (k : Int) := by
  have e : IntKind.u64.wrap a = a % 18446744073709551616 := by simp [IntKind.wrap, IntKind.signed, IntKind.bits]
  have h1 : 0 ≤ IntKind.u64.wrap a := by rw [e]; omega
  rw [Int.tmod_eq_emod_of_nonneg h1]
  have h2 := Int.emod_nonneg (IntKind.u64.wrap a) (b := (m : Int)) (by omega)
  have h3 := Int.emod_lt_of_pos (IntKind.u64.wrap a) (b := (m : Int)) (by omega)
  exact ⟨((IntKind.u64.wrap a) % (m : Int)).toNat, by omega, by omega⟩
theorem mod_posT (a : Int) (m : Nat) (h0 : 0 < m) (hm : m ≤ 1000000000) (ha : 0 ≤ a) : ∃ k : Nat, k < m ∧ a.tmod (m : Int) = (k : Int) := by
  rw [Int.tmod_eq_emod_of_nonneg ha]
  have h2 := Int.emod_nonneg a (b := (m : Int)) (by omega)
  have h3 := Int.emod_lt_of_pos a (b := (m : Int)) (by omega)
  exact ⟨(a % (m : Int)).toNat, by omega, by omega⟩
/-- Two that stand in each other's place. -/
def swapL (l : List ByteArray) (i k : Nat) : List ByteArray := (l.set i (l.getD k ⟨#[]⟩)).set k (l.getD i ⟨#[]⟩)
theorem swapL_len (l : List ByteArray) (i k : Nat) : (swapL l i k).length = l.length := by unfold swapL; rw [List.length_set, List.length_set]
theorem swap_ne {l : List ByteArray} {i k : Nat} (hi : i < l.length) (hk : k < l.length) (h : InjH l) (hne : l.getD i ⟨#[]⟩ ≠ l.getD k ⟨#[]⟩) : hashes (swapL l i k) ≠ hashes l := by
  intro e
  apply hne
  have gi : l.getD i ⟨#[]⟩ = l[i] := by rw [List.getD, List.getElem?_eq_getElem hi]; rfl
  have gk : l.getD k ⟨#[]⟩ = l[k] := by rw [List.getD, List.getElem?_eq_getElem hk]; rfl
  have e2 : (hashes (swapL l i k))[k]? = (hashes l)[k]? := by rw [e]
  unfold hashes at e2
  rw [List.getElem?_map, List.getElem?_map, List.getElem?_eq_getElem hk] at e2
  unfold swapL at e2
  rw [List.getElem?_set_self (by rw [List.length_set]; exact hk)] at e2
  simp only [Option.map_some, Option.some.injEq] at e2
  rw [gi, gk]
  rw [gi] at e2
  exact h _ (List.getElem_mem hi) _ (List.getElem_mem hk) e2
theorem swap_all {l : List ByteArray} {i k : Nat} (hi : i < l.length) (hk : k < l.length) : ∀ s ∈ swapL l i k, s ∈ l := by
  intro s hs
  have gi : l.getD i ⟨#[]⟩ = l[i] := by rw [List.getD, List.getElem?_eq_getElem hi]; rfl
  have gk : l.getD k ⟨#[]⟩ = l[k] := by rw [List.getD, List.getElem?_eq_getElem hk]; rfl
  unfold swapL at hs
  rw [gi, gk] at hs
  rcases List.mem_or_eq_of_mem_set hs with hs | rfl
  · rcases List.mem_or_eq_of_mem_set hs with hs | rfl
    · exact hs
    · exact List.getElem_mem hk
  · exact List.getElem_mem hi
theorem allB_bound : ∀ (l : List ByteArray), (∀ s ∈ l, s.size ≤ 64) → (allB l).length ≤ 64 * l.length
  | [], _ => by simp [allB]
  | s :: l, h => by
    have ih := allB_bound l (fun x hx => h x (List.mem_cons_of_mem _ hx))
    have h1 := h s (List.mem_cons_self ..)
    have e : allB (s :: l) = s.data.toList ++ allB l := by unfold allB; rw [List.flatMap_cons]
    rw [e, List.length_append, data_len, List.length_cons]; omega
/-- Another byte at one place. -/
def turnT (s : ByteArray) (k : Nat) (v : UInt8) : ByteArray := bs (s.data.toList.set k v)
theorem turnT_size (s : ByteArray) (k : Nat) (v : UInt8) : (turnT s k v).size = s.size := by unfold turnT; rw [bs_size, List.length_set, data_len]
theorem turnT_ne {s : ByteArray} {k : Nat} {v : UInt8} (hk : k < s.data.toList.length) (h : v ≠ s.data.toList[k]) : turnT s k v ≠ s := by
  intro e
  apply h
  have e2 : (turnT s k v).data.toList[k]? = s.data.toList[k]? := by rw [e]
  unfold turnT at e2
  rw [bs_list, List.getElem?_set_self hk, List.getElem?_eq_getElem hk] at e2
  exact Option.some.inj e2
theorem xor_byte (y : UInt8) (n : Int) (h0 : 0 ≤ n) (h1 : n ≤ 255) (hn : n ≠ 0) : ∃ v : UInt8, bits .xor .u8 (y.toNat : Int) n = (v.toNat : Int) ∧ v ≠ y := by
  obtain ⟨m, rfl⟩ : ∃ m : Nat, n = (m : Int) := ⟨n.toNat, by omega⟩
  have hm : m < 256 := by omega
  have hlt : y.toNat ^^^ m < 256 := Nat.xor_lt_two_pow (n := 8) y.toNat_lt hm
  refine ⟨UInt8.ofNat (y.toNat ^^^ m), ?_, ?_⟩
  · rw [u8_xor_nat _ _ y.toNat_lt hm, UInt8.toNat_ofNat', Nat.mod_eq_of_lt hlt]
  · intro e
    have e2 := congrArg UInt8.toNat e
    rw [UInt8.toNat_ofNat', Nat.mod_eq_of_lt hlt] at e2
    have e3 : y.toNat ^^^ (y.toNat ^^^ m) = y.toNat ^^^ y.toNat := by rw [e2]
    rw [← Nat.xor_assoc, Nat.xor_self, Nat.zero_xor] at e3
    omega
/-- Chunks of other bytes are refused. -/
theorem else_turn {s t : ByteArray} (hs : s.size ≤ 512) (hz : t.size = s.size) (hne : t ≠ s) (hI : InjH (chunks t.data.toList ++ chunks s.data.toList)) :
    buildV s.size (hashes (chunks s.data.toList)) (chunks t.data.toList) = .tuple #[.string ⟨#[]⟩, .int .i64 101] := by
  refine build_hash (made_ok hs) ?_ ?_
  · rw [hashes_len, chunks_len', chunks_len', data_len, data_len, hz]
  · intro e
    exact hne (chunks_inj (hashes_inj hI e))
theorem else_swap {s : ByteArray} {i k : Nat} (hs : s.size ≤ 512) (hi : i < (chunks s.data.toList).length) (hk : k < (chunks s.data.toList).length) (hI : InjH (chunks s.data.toList)) (hne : (chunks s.data.toList).getD i ⟨#[]⟩ ≠ (chunks s.data.toList).getD k ⟨#[]⟩) :
    buildV s.size (hashes (chunks s.data.toList)) (swapL (chunks s.data.toList) i k) = .tuple #[.string ⟨#[]⟩, .int .i64 101] :=
  build_hash (made_ok hs) (by rw [swapL_len, hashes_len]) (swap_ne hi hk hI hne)
theorem else_less {s : ByteArray} (hs : s.size ≤ 512) (m : List ByteArray) (h : m.length ≠ (chunks s.data.toList).length) :
    buildV s.size (hashes (chunks s.data.toList)) m = .tuple #[.string ⟨#[]⟩, .int .i64 1] :=
  build_len (made_ok hs) (by rw [hashes_len]; exact h)
theorem add_offS (b off k : Nat) : (⟨b, off, none⟩ : Addr).add k = ⟨b, off + k, none⟩ := by unfold Addr.add; split <;> simp_all
theorem row_dropS {w : World} {p : Option Addr} {n c k : Nat} {l : List ByteArray} (h : RowAt w (.slice p n c) (l.map Value.string)) (hk : k ≤ n) (hn : l.length = n) (hc : n ≤ c) : RowAt w (.slice (if c = k then p else p.map (·.add k)) (n - k) (c - k)) ((l.drop k).map Value.string) := by
  obtain ⟨a, c', e, h⟩ := h
  injection e with e1 e2 e3
  subst e1 e3
  have hl : ((l.drop k).map Value.string).length = n - k := by rw [List.length_map, List.length_drop]; omega
  refine ⟨_, _, by rw [hl], ?_⟩
  rcases h with h | ⟨b, off, rfl, hb, hcell⟩
  · have : l = [] := by simpa using h
    subst this
    left; simp
  · by_cases hck : c = k
    · left
      rw [List.drop_of_length_le (by omega)]; rfl
    · right
      rw [if_neg hck]
      refine ⟨b, off + k, ?_, hb, fun j hj => ?_⟩
      · exact congrArg some (add_offS b off k)
      · rw [hl] at hj
        have hj2 : k + j < l.length := by omega
        rw [show off + k + j = off + (k + j) by omega, hcell (k + j) (by rw [List.length_map]; exact hj2)]
        simp [List.getD, List.getElem?_drop]
theorem Cut_relS {w0 : World} (s : ByteArray) (w : World) (hs : s.size ≤ 1000000) (hI : w0.grownBy w none) :
    Calls Tryd.prog 28 #[.string s] w fun e w' => ∃ u, e = .returned u ∧ VC ((chunks s.data.toList).map Value.string) u w' ∧ w0.grownBy w' none ∧ w.grownBy w' none :=
  (Cut_any s w hs).mono fun e w' ⟨v, he, hr, hn, g, hc⟩ => ⟨v, he, ⟨hc, hr⟩, grow_none hI g, g⟩
theorem drop_one {W : World} {g n cap : Nat} {l : List ByteArray} (h : RowAt W (.slice (some ⟨g, 0, none⟩) n cap) (l.map Value.string)) (hn : l.length = n) (h1 : 1 ≤ n) (h2 : n ≤ cap) :
    RowAt W (.slice (if cap = 1 then some ⟨g, 0, none⟩ else some ⟨g, 1, none⟩) (n - 1) (cap - 1)) ((l.drop 1).map Value.string) := by
  have := row_dropS (k := 1) h h1 hn h2
  rw [show (Option.map (fun x => Addr.add x 1) (some (⟨g, 0, none⟩ : Addr))) = some ⟨g, 1, none⟩ from congrArg some (add_offS g 0 1)] at this
  exact this
theorem own_atS {w : World} {e : TypeId} {n g cap : Nat} {xs : List Value} (h : w.ownsRow 0 e 1 (.slice (some ⟨g, 0, none⟩) n cap) n xs) {j : Nat} (hj : j < n) :
    w.cell? ⟨g, j, none⟩ = some (xs.getD j undef) ∧ w.frozen? ⟨g, j, none⟩ = false := by
  obtain ⟨g1, cap1, hv, hc, hf, _⟩ := own_at h hj
  injection hv with hv _ _
  injection hv with hv
  injection hv with hv _ _
  subst hv
  exact ⟨hc, hf⟩
/-- The worlds of two stores: ahead of the first one, and behind it. -/
def PE (w8 : World) (g i : Nat) (y : ByteArray) (j : Nat) (W : World) : Prop := if j ≤ 1 then w8.grownBy W none else ∃ W0, w8.grownBy W0 none ∧ (W0.setCell ⟨g, i, none⟩ (.string y)).grownBy W none
theorem PE.at01 {w8 W : World} {g i j : Nat} {y : ByteArray} (h : PE w8 g i y j W) (hj : j ≤ 1) : w8.grownBy W none := by
  unfold PE at h
  rwa [if_pos hj] at h
theorem PE.of01 {w8 W : World} {g i j : Nat} {y : ByteArray} (h : w8.grownBy W none) (hj : j ≤ 1) : PE w8 g i y j W := by
  unfold PE
  rwa [if_pos hj]
theorem PE.at2 {w8 W : World} {g i : Nat} {y : ByteArray} (h : PE w8 g i y 2 W) : ∃ W0, w8.grownBy W0 none ∧ (W0.setCell ⟨g, i, none⟩ (.string y)).grownBy W none := h
theorem PE.cell {w8 W : World} {g i k j : Nat} {x y : ByteArray} (hne : i ≠ k) (hc : w8.cell? ⟨g, k, none⟩ = some (.string x)) (h : PE w8 g i y j W) : W.cell? ⟨g, k, none⟩ = some (.string x) := by
  have hg := World.block_lt_of_cell? _ _ hc
  unfold PE at h
  split at h
  · exact (World.cell?_of_block (a := ⟨g, k, none⟩) (h.block g hg (by simp))).trans hc
  · obtain ⟨W0, h1, h2⟩ := h
    have e0 : W0.cell? ⟨g, k, none⟩ = some (.string x) := (World.cell?_of_block (a := ⟨g, k, none⟩) (h1.block g hg (by simp))).trans hc
    have e1 : (W0.setCell ⟨g, i, none⟩ (.string y)).cell? ⟨g, k, none⟩ = some (.string x) := by
      exact (World.cell?_setCell_other W0 ⟨g, i, none⟩ ⟨g, k, none⟩ _ (by intro e; injection e with _ e _; exact hne e)).trans e0
    exact (World.cell?_of_block (a := ⟨g, k, none⟩) (h2.block g (World.block_lt_of_cell? _ _ e1) (by simp))).trans e1
end Go.Proofs.YtgcdfoadegojcaaDoor
