/- Several texts in one: FrE FrF FrG FrM FrH. -/
import Derived.Test.YtphljjgjpkdpmaaGreatDoorK10
import Derived.Test.YtphljjgjpkdpmaaGreatDoorK7
import Derived.Test.YtphljjgjpkdpmaaGreatDoorK4
/- Stage 4: Seal. -/
namespace Go.Proofs.YtphljjgjpkdpmaaGreatDoor
open Go.RowKit
set_option linter.unusedVariables false
theorem own_base {w : World} {e : TypeId} {n B : Nat} {v : Value} {xs : List Value} (h : w.ownsRow 0 e 1 v n xs) (hb : ∀ k, v.ownBlock = some k → B ≤ k) : w.ownsRow B e 1 v n xs := by
  refine ⟨h.1, ?_⟩
  rcases h.2 with h2 | ⟨g, cap, cur, rfl, _, rest⟩
  · exact .inl h2
  · exact .inr ⟨g, cap, cur, rfl, hb g rfl, rest⟩
theorem String_any (b : Nat) (xs : List UInt8) (w0 w : World) (h : BuildAt b xs w0 w) :
    Calls Tryz.prog 98 #[.pointer (some ⟨b, 0, none⟩)] w fun e w' => e = .returned (.string ⟨xs.toArray⟩) ∧ w0.grownBy w' none := by
  obtain ⟨p, v, hb, hp, ho, hne, hb0, hn, hg⟩ := h
  have hB : Lib.IsBuilder 136 5 w0.heap.size b (Lib.byteCells xs) w := by
    have hl : (Lib.byteCells xs).length = xs.length := by simp [Lib.byteCells]
    have key : ∀ p, Blk w b 136 [p, v] → Lib.BuilderAt 136 5 w0.heap.size b p (Lib.byteCells xs) w :=
      fun p hb => ⟨hb0, v, hb, by rw [hl]; exact own_base ho hn, hne⟩
    rcases hp with rfl | rfl
    · exact .inl (key _ hb)
    · exact .inr (key _ hb)
  refine (Tryz.Builder_String_any w0.heap.size b xs w hB hg.size).mono ?_
  rintro e w' ⟨rfl, bel⟩
  exact ⟨rfl, bel.os.trans hg.os, bel.tape.trans hg.tape, bel.output.trans hg.output, Nat.le_trans hg.size bel.size, fun i hi hn' => (bel.block i hi).trans (hg.block i hi hn')⟩
theorem BuildAt.kept {b : Nat} {xs : List UInt8} {w0 w w' : World} (h : BuildAt b xs w0 w) (g : w.grownBy w' none) : BuildAt b xs w0 w' := by
  obtain ⟨p, v, hb, hp, ho, hne, hb0, hn, hg⟩ := h
  exact ⟨p, v, hb.keep g, hp, ho.kept g (Classical.em _), hne, hb0, hn, grow_none hg g⟩
theorem BuildAt.grow {b : Nat} {xs : List UInt8} {w0 w : World} (h : BuildAt b xs w0 w) : w0.grownBy w none := by
  obtain ⟨_, _, _, _, _, _, _, _, hg⟩ := h
  exact hg
set_option maxRecDepth 100000 in
set_option maxHeartbeats 1000000 in
theorem Seal_wide (v : Value) (l : List ByteArray) (w : World) (hm : Mv w) (hr : RowAt w v (l.map Value.string)) (hl : l.length ≤ 20000) (hs : ∀ s ∈ l, s.size ≤ 1048576) :
    Calls Tryz.prog 76 #[v] w fun e w' => e = .returned (.tuple #[.string ⟨(framesB l).toArray⟩, .int .i64 0]) ∧ w.grownBy w' none := by
  obtain ⟨a, c, rfl⟩ := hr.len
  rw [List.length_map] at hr ⊢
  have hli : (l.length : Int) ≤ 20000 := by omega
  have HS := Lib.hid hs
  clear hs
  go_enter Tryz.func76, Tryz.ntmps76
  go_wp2
  go_loop [11] (fun i => ∃ k : Nat, k ≤ l.length ∧ i = .int .i64 k) (fun i => l.length - (intOf i).toNat)
  case atStart => exact ⟨0, Nat.zero_le _, rfl⟩
  case round =>
    obtain ⟨k, hk, rfl⟩ := hrel
    by_cases hlt : k < l.length
    · obtain ⟨bb, off, rfl, hcell⟩ := row_str hr hlt
      have hsz := HS.out l[k] (List.getElem_mem hlt)
      have h1 : decide ((1048576 : Int) < l[k].size) = false := decide_eq_false (by omega)
      have hki : (k : Int) < l.length := by omega
      go_wp2
      go_round
      case rel => exact ⟨k + 1, by omega, by go_num⟩
      case measure => simp [intOf]; omega
    · obtain rfl : k = l.length := by omega
      have hb : Blk (w.alloc (.cells #[.pointer none, .slice none 0 0] 136)) w.heap.size 136 [.pointer none, .slice none 0 0] := Blk.new _ _ _
      have t0 : BuildAt w.heap.size [] w (w.alloc (.cells #[.pointer none, .slice none 0 0] 136)) := ⟨_, _, hb, .inl rfl, World.ownsRow_nil _ _ _ _, by simp [Value.ownBlock], Nat.le_refl _, newblk_nil _, World.grownBy_alloc _ _ _⟩
      obtain ⟨b, hbe⟩ : ∃ b, b = w.heap.size := ⟨_, rfl⟩
      rw [← hbe] at t0
      have HBE := Lib.hid hbe
      clear hb hbe
      go_wp2
      rw [← HBE.out]
      go_loopw [21] (fun i wr => ∃ k : Nat, k ≤ l.length ∧ i = .int .i64 k ∧ BuildAt b (framesB (l.take k)) w wr) (fun i _ => l.length - (intOf i).toNat)
      case atStart => exact ⟨0, Nat.zero_le _, rfl, by simpa [framesB] using t0⟩
      case round =>
        obtain ⟨k, hk, rfl, ho⟩ := hrel
        clear t0
        have hg : w.grownBy wr none := by obtain ⟨_, _, _, _, _, _, _, _, hg⟩ := ho; exact hg
        by_cases hlt : k < l.length
        · obtain ⟨bb, off, rfl, hcell⟩ := row_str (hr.kept hg) hlt
          have hsz := HS.out l[k] (List.getElem_mem hlt)
          have hle := frames_len l HS.out k hk
          have HT := Lib.hid (frames_snoc l k hlt)
          have hki : (k : Int) < l.length := by omega
          go_wp2_with fail
          have hnl : (numsB [(l[k].size : Int)]).length ≤ 10 := by
            have := numB_len (n := (l[k].size : Int)) (by omega)
            simpa [numsB] using this
          have r1 := RowAt.lit wr ([(l[k].size : Int)].map i64v) 3 1 1 rfl
          have gA := World.grownBy_alloc wr (.cells ([(l[k].size : Int)].map i64v).toArray 3) none
          have b1 := ho.kept gA
          obtain ⟨F, hF⟩ : ∃ F, F = framesB (l.take k) := ⟨_, rfl⟩
          rw [← hF] at b1 hle
          have HF := Lib.hid hF
          obtain ⟨p, hp⟩ : ∃ p, p = l[k] := ⟨_, rfl⟩
          rw [← hp] at hcell hsz hnl r1 gA b1 ⊢
          have HP := Lib.hid hp
          clear hF hp ho
          refine (Nums_any _ [(p.size : Int)] _ r1 (by intro n hn; rw [List.mem_singleton] at hn; subst hn; omega) (by simp)).mono ?_
          rintro e w2 ⟨rfl, g2⟩
          have b2 := b1.kept g2
          have hz1 : (⟨(numsB [(p.size : Int)]).toArray⟩ : ByteArray).size = (numsB [(p.size : Int)]).length := by show (numsB [(p.size : Int)]).toArray.size = _; simp
          have HZ1 := Lib.hid hz1
          clear hz1 r1 b1 g2 gA
          go_wp2_with fail
          refine (WriteString_any b F _ w _ b2 (by rw [HZ1.out]; omega)).mono ?_
          rintro e w3 ⟨rfl, b3⟩
          clear b2
          have m3 := hm.kept b3.grow
          go_wp2_with fail
          refine (sumBytes_any p _ m3 (by unfold maxLen; omega)).mono ?_
          rintro e w4 ⟨rfl, g4⟩
          have b4 := b3.kept g4
          have hz2 : (⟨(sumB (crcN p)).toArray⟩ : ByteArray).size = 4 := rfl
          have HZ2 := Lib.hid hz2
          clear b3 g4 hz2
          go_wp2_with fail
          refine (WriteString_any b _ _ w _ b4 (by rw [HZ2.out, List.length_append]; show F.length + (numsB [(p.size : Int)]).length + 4 ≤ _; omega)).mono ?_
          rintro e w5 ⟨rfl, b5⟩
          clear b4
          go_wp2_with fail
          refine (WriteString_any b _ _ w _ b5 (by rw [List.length_append, List.length_append]; show F.length + (numsB [(p.size : Int)]).length + 4 + p.size ≤ _; omega)).mono ?_
          rintro e w6 ⟨rfl, b6⟩
          clear b5
          have HFIN : Hid (F ++ (⟨(numsB [(p.size : Int)]).toArray⟩ : ByteArray).data.toList ++ (⟨(sumB (crcN p)).toArray⟩ : ByteArray).data.toList ++ p.data.toList = framesB (l.take (k + 1))) := by
            show _ = _
            rw [HT.out, ← HF.out, ← HP.out]
            unfold frB
            show F ++ numsB [(p.size : Int)] ++ sumB (crcN p) ++ p.data.toList = _
            rw [show numsB [(p.size : Int)] = numB (p.size : Int) by simp [numsB]]
            simp only [List.append_assoc]
          rw [HFIN.out] at b6
          go_wp2
          go_roundw
          case rel => exact ⟨k + 1, by omega, by go_num, b6⟩
          case measure => simp [intOf]; omega
        · obtain rfl : k = l.length := by omega
          have hT : l.take l.length = l := List.take_length
          rw [hT] at ho
          go_wp2_with fail
          refine (String_any b _ w _ ho).mono ?_
          rintro e w2 ⟨rfl, g2⟩
          go_wp2
          go_ret2
          exact ⟨rfl, g2⟩
theorem Seal_any (v : Value) (l : List ByteArray) (w : World) (hm : Mv w) (hr : RowAt w v (l.map Value.string)) (hl : l.length ≤ 8192) (hs : ∀ s ∈ l, s.size ≤ 1048576) :
    Calls Tryz.prog 76 #[v] w fun e w' => e = .returned (.tuple #[.string ⟨(framesB l).toArray⟩, .int .i64 0]) ∧ w.grownBy w' none :=
  Seal_wide v l w hm hr (by omega) hs
end Go.Proofs.YtphljjgjpkdpmaaGreatDoor
/- Stage 4: Open. -/
namespace Go.Proofs.YtphljjgjpkdpmaaGreatDoor
open Go.RowKit
set_option linter.unusedVariables false
/-- The payload that the length tells, and what stands behind it. -/
def payN (s : ByteArray) : Nat := (getN s).1.toNat
def payB (s : ByteArray) : ByteArray := (nextS s).extract 4 (4 + payN s)
def behB (s : ByteArray) : ByteArray := (nextS s).extract (4 + payN s) (nextS s).size
/-- The length is one that may be. -/
def lenOk (s : ByteArray) : Prop := nextBad s = false ∧ 0 ≤ (getN s).1 ∧ (getN s).1 ≤ 1048576 ∧ 4 + (getN s).1 ≤ (nextS s).size
instance (s : ByteArray) : Decidable (lenOk s) := by unfold lenOk; infer_instance
def openOk (s : ByteArray) : Prop := lenOk s ∧ (nextS s).extract 0 4 = ⟨(sumB (crcN (payB s))).toArray⟩
theorem sumBytes_rel {w0 : World} (p : ByteArray) (w : World) (hm : Mv w0) (hp : p.size ≤ maxLen) (hI : w0.grownBy w none) :
    Calls Tryz.prog 97 #[.string p] w fun e w' => ∃ u, e = .returned u ∧ u = .string ⟨(sumB (crcN p)).toArray⟩ ∧ w0.grownBy w' none ∧ w.grownBy w' none :=
  (sumBytes_any p w (hm.kept hI) hp).mono fun e w' ⟨he, g⟩ => ⟨_, he, rfl, grow_none hI g, g⟩
theorem nextS_size (s : ByteArray) : (nextS s).size = s.size - (getN s).2 := by
  have := getN_used s
  unfold nextS
  rw [ByteArray.size_extract]; omega
theorem nextS_left (s : ByteArray) : s.extract (s.size - (nextS s).size) s.size = nextS s := by
  have := getN_used s
  rw [nextS_size, show s.size - (s.size - (getN s).2) = (getN s).2 by omega]
  rfl
set_option maxRecDepth 100000 in
set_option maxHeartbeats 1000000 in
theorem Open_no (s : ByteArray) (w : World) (hs : s.size ≤ 1000000000) (h : ¬ lenOk s) :
    Calls Tryz.prog 91 #[.string s] w fun e w' => e = .returned (.tuple #[.string ⟨#[]⟩, .string ⟨#[]⟩, .int .i64 3]) ∧ w.grownBy w' none := by
  have hnb := getN_bd s
  obtain ⟨n, hn⟩ : ∃ n, n = (getN s).1 := ⟨_, rfl⟩
  obtain ⟨t, ht⟩ : ∃ t, t = nextBad s := ⟨_, rfl⟩
  have hL : (rLeft (nextS s) t : Int) = if t then 0 else ((nextS s).size : Int) := by unfold rLeft; cases t <;> simp
  have hc : t = true ∨ (t = false ∧ decide (n < 0) = true) ∨ (t = false ∧ decide (n < 0) = false ∧ decide (1048576 < n) = true) ∨ (t = false ∧ decide (n < 0) = false ∧ decide (1048576 < n) = false ∧ decide (((nextS s).size : Int) < 4 + n) = true) := by
    unfold lenOk at h
    rw [← hn, ← ht] at h
    cases t
    · simp only [decide_eq_true_eq, decide_eq_false_iff_not]
      simp only [true_and] at h
      right
      by_cases h1 : n < 0
      · exact .inl ⟨trivial, h1⟩
      · by_cases h2 : 1048576 < n
        · exact .inr (.inl ⟨trivial, h1, h2⟩)
        · exact .inr (.inr ⟨trivial, h1, h2, by omega⟩)
    · exact .inl rfl
  rw [← hn] at hnb
  have hsz : (nextS s).size ≤ 1000000000 := by rw [nextS_size]; omega
  have hszi : ((nextS s).size : Int) ≤ 1000000000 := by omega
  have HN := Lib.hid hn
  have HT := Lib.hid ht
  have HLF := Lib.hid hL
  clear hn ht h hL
  rcases hc with rfl | ⟨rfl, e1⟩ | ⟨rfl, e1, e2⟩ | ⟨rfl, e1, e2, e3⟩
  all_goals
    go_enter Tryz.func91, Tryz.ntmps91
    go_wp2_with fail
    refine (Read_any s _).mono ?_
    rintro e w2 ⟨b, rfl, x2, g2, hb0⟩
    go_wp2_with fail
    refine (Num_good b s _ x2 (by omega)).mono ?_
    rintro e w3 ⟨rfl, x3, g3⟩
    have G3 := grow_new g2 hb0 g3
    rw [← HN.out]
    rw [← HT.out] at x3
    go_wp2_with fail
    refine (Good_any b _ _ _ x3).mono ?_
    rintro e w4 ⟨rfl, x4, g4⟩
    have G4 := grow_new G3 hb0 g4
    clear g2 g3 g4 G3 x2 x3
  · go_wp2
    refine bodyPost_ret (v := .tuple #[.string ⟨#[]⟩, .string ⟨#[]⟩, .int .i64 3]) ?_ ?_ ?_
    · simp [results, go_sem]
    · rfl
    · exact ⟨rfl, G4⟩
  · go_wp2
    refine bodyPost_ret (v := .tuple #[.string ⟨#[]⟩, .string ⟨#[]⟩, .int .i64 3]) ?_ ?_ ?_
    · simp [results, go_sem]
    · rfl
    · exact ⟨rfl, G4⟩
  · go_wp2
    refine bodyPost_ret (v := .tuple #[.string ⟨#[]⟩, .string ⟨#[]⟩, .int .i64 3]) ?_ ?_ ?_
    · simp [results, go_sem]
    · rfl
    · exact ⟨rfl, G4⟩
  · have hn0 : 0 ≤ n := by have := of_decide_eq_false e1; omega
    have hn1 : n ≤ 1048576 := by have := of_decide_eq_false e2; omega
    have hl : ((rLeft (nextS s) false : Nat) : Int) = ((nextS s).size : Int) := by rw [HLF.out]; rfl
    go_wp2_with fail
    refine (Left_any b _ _ _ x4 (by omega)).mono ?_
    rintro e w5 ⟨rfl, x5, g5⟩
    have G5 := grow_new G4 hb0 g5
    rw [hl]
    clear hl
    go_wp2
    refine bodyPost_ret (v := .tuple #[.string ⟨#[]⟩, .string ⟨#[]⟩, .int .i64 3]) ?_ ?_ ?_
    · simp [results, go_sem]
    · rfl
    · exact ⟨rfl, G5⟩
end Go.Proofs.YtphljjgjpkdpmaaGreatDoor
/- Stage 4: Open, where the length is one that may be. -/
namespace Go.Proofs.YtphljjgjpkdpmaaGreatDoor
open Go.RowKit
set_option linter.unusedVariables false
set_option maxRecDepth 100000 in
set_option maxHeartbeats 1000000 in
theorem Open_len (s : ByteArray) (w : World) (hm : Mv w) (hs : s.size ≤ 1000000000) (h : lenOk s) (q : Bool) (hq : q = !(((nextS s).extract 0 4).toList == (⟨(sumB (crcN (payB s))).toArray⟩ : ByteArray).toList)) :
    Calls Tryz.prog 91 #[.string s] w fun e w' => e = .returned (if q then .tuple #[.string ⟨#[]⟩, .string ⟨#[]⟩, .int .i64 3] else .tuple #[.string (payB s), .string (behB s), .int .i64 0]) ∧ w.grownBy w' none := by
  obtain ⟨h0, h1, h2, h3⟩ := h
  obtain ⟨n, hn⟩ : ∃ n : Nat, (n : Int) = (getN s).1 := ⟨(getN s).1.toNat, by omega⟩
  rw [← hn] at h2 h3
  have hpay : payN s = n := by unfold payN; omega
  have hsz : (nextS s).size ≤ s.size := by rw [nextS_size]; omega
  have hle := nextS_left s
  obtain ⟨R, hR⟩ : ∃ R, R = nextS s := ⟨_, rfl⟩
  obtain ⟨P, hP⟩ : ∃ P, P = payB s := ⟨_, rfl⟩
  obtain ⟨B, hB⟩ : ∃ B, B = behB s := ⟨_, rfl⟩
  have hP2 : R.extract 4 (4 + n) = P := by rw [hP, hR]; unfold payB; rw [hpay]
  have hB2 : R.extract (4 + n) R.size = B := by rw [hB, hR]; unfold behB; rw [hpay]
  rw [← hR] at h3 hsz hle hq
  rw [← hP] at hq ⊢
  rw [← hB]
  have hPs : P.size ≤ maxLen := by rw [← hP2, ByteArray.size_extract]; unfold maxLen; omega
  have hsi : (s.size : Int) ≤ 1000000000 := by omega
  have hRi : (R.size : Int) ≤ s.size := by omega
  have hR0 : (0 : Int) ≤ (s.size : Int) - R.size := by omega
  have hni : (n : Int) ≤ 1048576 := h2
  have hn0 : (0 : Int) ≤ n := by omega
  have h4 : (4 : Int) + n ≤ R.size := h3
  have hex : s.extract ((s.size : Int) - (R.size : Int)).toNat s.size = R := by
    rw [show ((s.size : Int) - (R.size : Int)).toNat = s.size - R.size by omega]; exact hle
  have h44 : (4 : Int) ≤ R.size := by omega
  have h45 : (4 : Int) ≤ 4 + (n : Int) := by omega
  have h46 : (0 : Int) ≤ 4 + (n : Int) := by omega
  have hex2 : s.extract (s.size - R.size) s.size = R := hle
  have htn : ((4 : Int) + (n : Int)).toNat = 4 + n := by omega
  have d1 : decide ((n : Int) < 0) = false := decide_eq_false (by omega)
  have d2 : decide ((1048576 : Int) < n) = false := decide_eq_false (by omega)
  have d3 : decide ((R.size : Int) < 4 + (n : Int)) = false := decide_eq_false (by omega)
  have hl : ((rLeft R false : Nat) : Int) = (R.size : Int) := rfl
  have HN := Lib.hid hn
  have HT := Lib.hid h0
  have HR := Lib.hid hR
  have HL := Lib.hid hl
  have HQ := Lib.hid hq
  clear hn h0 h1 h2 h3 hR hP hB hpay hle hl hq
  go_enter Tryz.func91, Tryz.ntmps91
  go_wp2_with fail
  refine (Read_any s _).mono ?_
  rintro e w2 ⟨b, rfl, x2, g2, hb0⟩
  go_wp2_with fail
  refine (Num_good b s _ x2 (by omega)).mono ?_
  rintro e w3 ⟨rfl, x3, g3⟩
  have G3 := grow_new g2 hb0 g3
  rw [← HN.out]
  rw [HT.out, ← HR.out] at x3
  go_wp2_with fail
  refine (Good_any b _ _ _ x3).mono ?_
  rintro e w4 ⟨rfl, x4, g4⟩
  have G4 := grow_new G3 hb0 g4
  clear g2 g3 g4 G3 x2 x3
  go_wp2_with fail
  refine (Left_any b _ _ _ x4 (by omega)).mono ?_
  rintro e w5 ⟨rfl, x5, g5⟩
  have G5 := grow_new G4 hb0 g5
  rw [HL.out]
  clear x4 g5 G4
  go_wp2_with fail
  refine (Left_any b _ _ _ x5 (by omega)).mono ?_
  rintro e w6 ⟨rfl, x6, g6⟩
  have G6 := grow_new G5 hb0 g6
  rw [HL.out]
  clear x5 g6 G5 x6
  have m6 := hm.kept G6
  have hqe : (!((R.extract 0 4).toList == (⟨(sumB (crcN P)).toArray⟩ : ByteArray).toList)) = q := HQ.out.symm
  have he : (⟨(sumB (crcN P)).toArray⟩ : ByteArray).toList = sumB (crcN P) := by rw [ByteArray.toList_eq]
  rw [he] at hqe
  clear he
  have htw : IntKind.i64.wrap ((4 : Int) + n) = 4 + n := by rw [IntKind.wrap_i64]; omega
  have hsg : Hid (P.size ≤ maxLen) := hPs
  clear hPs
  go_wp2
  refine wp_region_rel (fun W => w6.grownBy W none) (fun W W' => W.grownBy W' none) (by kernel_rfl) (by kernel_rfl) (fun W => grow_refl W none) (grow_drawn (grow_refl _ _)) ?_
  repeat (refine wpRel_det ?_; apply Exists.intro; refine ⟨fun W hI => ?_, ?_⟩; focus (go_simp; first | exact ⟨rfl, grow_refl _ _⟩ | exact sumBytes_rel P _ m6 hsg.out hI))
  refine wpRel_nil ?_
  intro w7 hI
  have G7 := grow_none G6 hI
  go_simp
  cases q with
  | true =>
    go_wp2
    refine bodyPost_ret (v := .tuple #[.string ⟨#[]⟩, .string ⟨#[]⟩, .int .i64 3]) ?_ ?_ ?_
    · simp [results, go_sem]
    · rfl
    · exact ⟨rfl, G7⟩
  | false =>
    go_wp2
    refine wp_region_rel (fun W => w7.grownBy W none) (fun W W' => W.grownBy W' none) (by kernel_rfl) (by kernel_rfl) (fun W => grow_refl W none) (grow_drawn (grow_refl _ _)) ?_
    repeat (refine wpRel_det ?_; apply Exists.intro; refine ⟨fun W hI => ?_, ?_⟩; focus (go_simp; exact ⟨rfl, grow_refl _ _⟩))
    refine wpRel_nil ?_
    intro w8 hI8
    have G8 := grow_none G7 hI8
    go_simp
    go_wp2
    refine bodyPost_ret (v := .tuple #[.string P, .string B, .int .i64 0]) ?_ ?_ ?_
    · simp [results, go_sem]
    · rfl
    · exact ⟨rfl, G8⟩
end Go.Proofs.YtphljjgjpkdpmaaGreatDoor
/- Stage 4: frames, as plain lists: what opens, what doesn't. -/
namespace Go.Proofs.YtphljjgjpkdpmaaGreatDoor
open Go.RowKit
set_option linter.unusedVariables false
/-- A list of bytes as a string. -/
def bs (l : List UInt8) : ByteArray := ⟨l.toArray⟩
theorem bs_size (l : List UInt8) : (bs l).size = l.length := by show l.toArray.size = _; simp
theorem bs_list (l : List UInt8) : (bs l).data.toList = l := by simp [bs]
theorem bs_self (s : ByteArray) : bs s.data.toList = s := by obtain ⟨⟨l⟩⟩ := s; rfl
theorem bs_inj {x y : List UInt8} (h : bs x = bs y) : x = y := by rw [← bs_list x, h, bs_list]
theorem extract_bs (l : List UInt8) (a b : Nat) : (bs l).extract a b = bs ((l.drop a).take (b - a)) := ByteArray.extract_mk l a b
theorem len_bs (s : ByteArray) : s.data.toList.length = s.size := by rw [Array.length_toList]; rfl
theorem sumB_len (x : Nat) : (sumB x).length = 4 := rfl
theorem frB_size (p : ByteArray) : (frB p).length = (numB (p.size : Int)).length + 4 + p.size := by
  unfold frB; rw [List.length_append, List.length_append, sumB_len, len_bs]; omega
/-- A frame stands first. -/
def opB (s : ByteArray) : Bool := decide (lenOk s) && (((nextS s).extract 0 4).toList == (⟨(sumB (crcN (payB s))).toArray⟩ : ByteArray).toList)
theorem open_app (p : ByteArray) (hp : p.size ≤ 1048576) (more : List UInt8) : opB (bs (frB p ++ more)) = true ∧ payB (bs (frB p ++ more)) = p ∧ behB (bs (frB p ++ more)) = bs more := by
  have hn : -9223372036854775808 ≤ (p.size : Int) ∧ (p.size : Int) ≤ 9223372036854775807 := by omega
  have e : frB p ++ more = numB (p.size : Int) ++ (sumB (crcN p) ++ p.data.toList ++ more) := by unfold frB; simp only [List.append_assoc]
  have hg : getN (bs (frB p ++ more)) = ((p.size : Int), (numB (p.size : Int)).length) := by rw [e]; exact getN_back hn _
  have hx : nextS (bs (frB p ++ more)) = bs (sumB (crcN p) ++ p.data.toList ++ more) := by rw [e]; exact nextS_back hn _
  have hpn : payN (bs (frB p ++ more)) = p.size := by unfold payN; rw [hg]; rfl
  have h4 : (sumB (crcN p)).length = 4 := rfl
  have hpay : payB (bs (frB p ++ more)) = p := by
    unfold payB
    rw [hx, hpn, extract_bs, List.append_assoc, List.drop_append_of_le_length (by rw [h4]; omega), show (sumB (crcN p)).drop 4 = [] from rfl, List.nil_append, Nat.add_sub_cancel_left, List.take_left' (len_bs p), bs_self]
  have hbeh : behB (bs (frB p ++ more)) = bs more := by
    unfold behB
    rw [hx, hpn, extract_bs, bs_size, List.drop_left' (by rw [List.length_append, h4, len_bs]), List.take_of_length_le]
    rw [List.length_append, List.length_append, h4, len_bs]; omega
  refine ⟨?_, hpay, hbeh⟩
  unfold opB
  have hl : lenOk (bs (frB p ++ more)) := by
    unfold lenOk nextBad
    rw [hg, hx, bs_size, List.length_append, List.length_append, h4, len_bs]
    have := numB_pos (p.size : Int)
    refine ⟨?_, by simp only; omega, by simp only; omega, by simp only; omega⟩
    simp only
    rw [beq_eq_false_iff_ne]; omega
  rw [decide_eq_true hl, hpay, hx, extract_bs]
  simp only [List.drop_zero, Nat.sub_zero, Bool.true_and]
  rw [List.append_assoc, List.take_left' h4]
  show ((bs _).toList == (bs _).toList) = true
  rw [beq_self_eq_true]
theorem beq_bytes {a b : ByteArray} : (a.toList == b.toList) = true ↔ a = b := by
  constructor
  · intro h
    have h2 : a.toList = b.toList := by simpa using h
    rw [ByteArray.toList_eq, ByteArray.toList_eq] at h2
    exact ByteArray.ext (Array.ext' h2)
  · intro h; rw [h, beq_self_eq_true]
/-- What lies where the length says. -/
theorem len_sound {s : ByteArray} (h : lenOk s) : ∃ a b : List UInt8, a.length = 4 ∧ ((payB s).size : Int) = (getN s).1 ∧ (payB s).size ≤ 1048576 ∧ (nextS s).extract 0 4 = bs a ∧ s.data.toList = numB ((payB s).size : Int) ++ (a ++ ((payB s).data.toList ++ b)) ∧ behB s = bs b ∧ (getN s).2 = (numB ((payB s).size : Int)).length := by
  obtain ⟨h0, h1, h2, h3⟩ := h
  have hne : (getN s).2 ≠ 0 := by
    intro e
    unfold nextBad at h0
    rw [e] at h0
    cases h0
  obtain ⟨hs1, hs2⟩ := getN_sound hne
  have hx : nextS s = bs (s.data.toList.drop (getN s).2) := nextS_list s
  obtain ⟨r, hr⟩ : ∃ r, r = s.data.toList.drop (getN s).2 := ⟨_, rfl⟩
  rw [← hr] at hx hs1
  rw [hx, bs_size] at h3
  obtain ⟨n, hn⟩ : ∃ n : Nat, (n : Int) = (getN s).1 := ⟨(getN s).1.toNat, by omega⟩
  have hpn : payN s = n := by unfold payN; omega
  have hpay : payB s = bs ((r.drop 4).take n) := by
    unfold payB
    rw [hx, hpn, extract_bs, Nat.add_sub_cancel_left]
  have hps : (payB s).size = n := by rw [hpay, bs_size, List.length_take, List.length_drop]; omega
  refine ⟨r.take 4, r.drop (4 + n), by rw [List.length_take]; omega, by rw [hps]; exact hn, by omega, ?_, ?_, ?_, ?_⟩
  · rw [hx, extract_bs, List.drop_zero]
  · rw [hps, hn, hpay, bs_list]
    conv => lhs; rw [hs1]
    congr 1
    rw [← List.drop_drop, List.take_append_drop, List.take_append_drop]
  · unfold behB
    rw [hx, hpn, extract_bs, bs_size, List.take_of_length_le]
    rw [List.length_drop]; omega
  · rw [hps, hn]; exact hs2
theorem open_sound {s : ByteArray} (h : opB s = true) : s.data.toList = frB (payB s) ++ (behB s).data.toList ∧ (payB s).size ≤ 1048576 := by
  unfold opB at h
  rw [Bool.and_eq_true] at h
  obtain ⟨hl, hsum⟩ := h
  obtain ⟨a, b, ha, hp1, hp2, hx, hs, hb, _⟩ := len_sound (of_decide_eq_true hl)
  refine ⟨?_, hp2⟩
  have e := beq_bytes.1 hsum
  rw [hx] at e
  have ea : a = sumB (crcN (payB s)) := bs_inj e
  rw [hs, hb, bs_list, ea]
  unfold frB
  simp only [List.append_assoc]
theorem frB_inj {p q : ByteArray} {x y : List UInt8} (hp : p.size ≤ 1048576) (hq : q.size ≤ 1048576) (h : frB p ++ x = frB q ++ y) : p = q ∧ x = y := by
  obtain ⟨_, h1, h2⟩ := open_app p hp x
  obtain ⟨_, h3, h4⟩ := open_app q hq y
  rw [h] at h1 h2
  exact ⟨h1.symm.trans h3, bs_inj (h2.symm.trans h4)⟩
theorem open_cut (p : ByteArray) (hp : p.size ≤ 1048576) (k : Nat) (hk : k < (frB p).length) : opB (bs ((frB p).take k)) = false := by
  by_cases h : opB (bs ((frB p).take k)) = true
  · exfalso
    obtain ⟨h1, h2⟩ := open_sound h
    rw [bs_list] at h1
    have h3 : frB p ++ [] = frB (payB (bs ((frB p).take k))) ++ ((behB (bs ((frB p).take k))).data.toList ++ (frB p).drop k) := by
      rw [← List.append_assoc, ← h1, List.take_append_drop, List.append_nil]
    obtain ⟨_, h4⟩ := frB_inj hp h2 h3
    have h5 : ((frB p).drop k).length = 0 := by
      have := congrArg List.length h4
      rw [List.length_append] at this
      simp only [List.length_nil] at this
      omega
    rw [List.length_drop] at h5
    omega
  · simpa using h
theorem open_less {s : ByteArray} (h : opB s = true) : (behB s).size + 5 ≤ s.size := by
  obtain ⟨h1, _⟩ := open_sound h
  have h2 := congrArg List.length h1
  rw [List.length_append, len_bs, len_bs, frB_size] at h2
  have := numB_pos ((payB s).size : Int)
  omega
/-- The payloads of the frames that stand there, and what is left behind them. -/
inductive Scans : ByteArray → List ByteArray → ByteArray → Prop
  | stop (s : ByteArray) : opB s = false → Scans s [] s
  | go (s : ByteArray) (l : List ByteArray) (c : ByteArray) : opB s = true → Scans (behB s) l c → Scans s (payB s :: l) c
theorem Scans.same {s c d : ByteArray} {l m : List ByteArray} (h : Scans s l c) (k : Scans s m d) : l = m ∧ c = d := by
  induction h generalizing m d with
  | stop s h =>
    cases k with
    | stop => exact ⟨rfl, rfl⟩
    | go _ _ _ h2 => rw [h] at h2; cases h2
  | go s l c h _ ih =>
    cases k with
    | stop _ h2 => rw [h] at h2; cases h2
    | go _ _ _ h2 k2 =>
      obtain ⟨e1, e2⟩ := ih k2
      exact ⟨by rw [e1], e2⟩
theorem Scans.ahead {more : List UInt8} {m : List ByteArray} {c : ByteArray} (h : Scans (bs more) m c) : ∀ l : List ByteArray, (∀ s ∈ l, s.size ≤ 1048576) → Scans (bs (framesB l ++ more)) (l ++ m) c
  | [], _ => by simpa [framesB] using h
  | p :: l, hl => by
    have e : framesB (p :: l) ++ more = frB p ++ (framesB l ++ more) := by unfold framesB; simp only [List.flatMap_cons, List.append_assoc]
    obtain ⟨h1, h2, h3⟩ := open_app p (hl p (List.mem_cons_self ..)) (framesB l ++ more)
    have ih := Scans.ahead h l (fun s hs => hl s (List.mem_cons_of_mem _ hs))
    rw [← h3] at ih
    have := Scans.go _ _ _ h1 ih
    rw [h2] at this
    rw [e]
    exact this
end Go.Proofs.YtphljjgjpkdpmaaGreatDoor
/- Stage 4: Open, of all bytes; the document's Open. -/
namespace Go.Proofs.YtphljjgjpkdpmaaGreatDoor
open Go.RowKit
set_option linter.unusedVariables false
theorem opB_len {s : ByteArray} (h : lenOk s) : opB s = (((nextS s).extract 0 4).toList == (⟨(sumB (crcN (payB s))).toArray⟩ : ByteArray).toList) := by
  unfold opB; rw [decide_eq_true h, Bool.true_and]
theorem opB_no {s : ByteArray} (h : ¬ lenOk s) : opB s = false := by
  unfold opB; rw [decide_eq_false h, Bool.false_and]
theorem Open_yes (s : ByteArray) (w : World) (hm : Mv w) (hs : s.size ≤ 1000000000) (h : opB s = true) :
    Calls Tryz.prog 91 #[.string s] w fun e w' => e = .returned (.tuple #[.string (payB s), .string (behB s), .int .i64 0]) ∧ w.grownBy w' none := by
  by_cases hl : lenOk s
  · have hq : false = !(((nextS s).extract 0 4).toList == (⟨(sumB (crcN (payB s))).toArray⟩ : ByteArray).toList) := by rw [← opB_len hl, h]; rfl
    exact Open_len s w hm hs hl false hq
  · rw [opB_no hl] at h; cases h
theorem Open_not (s : ByteArray) (w : World) (hm : Mv w) (hs : s.size ≤ 1000000000) (h : opB s = false) :
    Calls Tryz.prog 91 #[.string s] w fun e w' => e = .returned (.tuple #[.string ⟨#[]⟩, .string ⟨#[]⟩, .int .i64 3]) ∧ w.grownBy w' none := by
  by_cases hl : lenOk s
  · have hq : true = !(((nextS s).extract 0 4).toList == (⟨(sumB (crcN (payB s))).toArray⟩ : ByteArray).toList) := by rw [← opB_len hl, h]; rfl
    exact Open_len s w hm hs hl true hq
  · exact Open_no s w hs hl
theorem rest_zero (s : ByteArray) : rest s 0 = s := by
  unfold rest; rw [List.drop_zero]
theorem Rr.new (w : World) (s : ByteArray) : Rr (w.alloc (.cells #[.string s, .int .i64 0, .bool false] 118)) w.heap.size s 0 false := heap_alloc_new w _
set_option maxRecDepth 100000 in
set_option maxHeartbeats 1000000 in
theorem refOpen_no (s : ByteArray) (w : World) (hs : s.size ≤ 1000000000) (h : ¬ lenOk s) :
    Calls Tryz.prog 86 #[.string s] w fun e w' => e = .returned (.tuple #[.string ⟨#[]⟩, .string ⟨#[]⟩, .bool false]) ∧ w.grownBy w' none := by
  have hnb := getN_bd s
  have hu := getN_used s
  have hns := nextS_size s
  obtain ⟨n, hn⟩ : ∃ n, n = (getN s).1 := ⟨_, rfl⟩
  obtain ⟨t, ht⟩ : ∃ t, t = nextBad s := ⟨_, rfl⟩
  obtain ⟨u, hue⟩ : ∃ u, u = (getN s).2 := ⟨_, rfl⟩
  rw [← hue] at hu hns
  have hc : t = true ∨ (t = false ∧ decide (n < 0) = true) ∨ (t = false ∧ decide (n < 0) = false ∧ decide (1048576 < n) = true) ∨ (t = false ∧ decide (n < 0) = false ∧ decide (1048576 < n) = false ∧ decide ((s.size : Int) - (u : Int) - 4 < n) = true) := by
    unfold lenOk at h
    rw [← hn, ← ht, hns] at h
    cases t
    · simp only [decide_eq_true_eq, decide_eq_false_iff_not]
      simp only [true_and] at h
      right
      by_cases h1 : n < 0
      · exact .inl ⟨trivial, h1⟩
      · by_cases h2 : 1048576 < n
        · exact .inr (.inl ⟨trivial, h1, h2⟩)
        · exact .inr (.inr ⟨trivial, h1, h2, by omega⟩)
    · exact .inl rfl
  have hr := Rr.new w s
  have gA := World.grownBy_alloc w (.cells #[.string s, .int .i64 0, .bool false] 118) none
  rw [← hn] at hnb
  have hui : (u : Int) ≤ s.size := by omega
  have hsi : (s.size : Int) ≤ 1000000000 := by omega
  have HN := Lib.hid hn
  have HT := Lib.hid ht
  have HU := Lib.hid hue
  have HZ := Lib.hid (rest_zero s)
  clear hn ht h hns hue hu
  rcases hc with rfl | ⟨rfl, e1⟩ | ⟨rfl, e1, e2⟩ | ⟨rfl, e1, e2, e3⟩
  all_goals
    go_enter Tryz.func86, Tryz.ntmps86
    go_wp2_with fail
    refine (refRNum_good _ s 0 _ hr (Nat.zero_le _) (by omega)).mono ?_
    rintro e w2 ⟨rfl, x2, g2⟩
    rw [HZ.out] at x2 ⊢
    rw [Nat.zero_add, ← HT.out, ← HU.out] at x2
    rw [← HN.out]
    have G2 := grow_new gA (Nat.le_refl _) g2
    have c1 := x2.c1
    have c2 := x2.c2
    clear gA g2 hr
    go_wp2
    refine bodyPost_ret (v := .tuple #[.string ⟨#[]⟩, .string ⟨#[]⟩, .bool false]) ?_ ?_ ?_
    · simp [results, go_sem]
    · rfl
    · exact ⟨rfl, G2⟩
theorem One_rel {w0 : World} (p : ByteArray) (w : World) {A : ByteArray} (hA : A = ⟨(frB p).toArray⟩) (hp : p.size ≤ 1000000000) (hI : w0.grownBy w none) :
    Calls Tryz.prog 58 #[.string p] w fun e w' => ∃ u, e = .returned u ∧ u = .string A ∧ w0.grownBy w' none ∧ w.grownBy w' none :=
  (One_any p w hp).mono fun e w' ⟨he, g⟩ => ⟨_, he, by rw [hA], grow_none hI g, g⟩
theorem open_doc {s : ByteArray} (h : lenOk s) : opB s = (((bs (frB (payB s))).toList) == (s.extract 0 ((getN s).2 + 4 + payN s)).toList) := by
  obtain ⟨a, b, ha, hp1, hp2, hx, hs, hb, hu⟩ := len_sound h
  have hpn : payN s = (payB s).size := by unfold payN; omega
  have hcut : s.extract 0 ((getN s).2 + 4 + payN s) = bs (numB ((payB s).size : Int) ++ (a ++ (payB s).data.toList)) := by
    obtain ⟨P, hP⟩ : ∃ P, P = payB s := ⟨_, rfl⟩
    rw [hpn, hu]
    rw [← hP] at hs ⊢
    conv => lhs; rw [← bs_self s]
    rw [extract_bs, List.drop_zero, Nat.sub_zero, hs, ← List.append_assoc, ← List.append_assoc, List.take_left', ← List.append_assoc]
    rw [List.length_append, List.length_append, ha, len_bs]
  rw [opB_len h, hcut, hx, Bool.eq_iff_iff, beq_bytes, beq_bytes]
  constructor
  · intro e
    have ea : a = sumB (crcN (payB s)) := bs_inj e
    rw [ea]; rfl
  · intro e
    have e2 := bs_inj e
    unfold frB at e2
    rw [List.append_cancel_left_eq, List.append_cancel_right_eq] at e2
    rw [← e2]; rfl
theorem extract_self (s : ByteArray) (a b : Nat) : s.extract a b = bs ((s.data.toList.drop a).take (b - a)) := by
  have h := extract_bs s.data.toList a b
  rw [bs_self] at h; exact h
theorem len_pay {s : ByteArray} (h : lenOk s) : s.extract ((getN s).2 + 4) ((getN s).2 + 4 + payN s) = payB s ∧ s.extract ((getN s).2 + 4 + payN s) s.size = behB s := by
  have hns := nextS_size s
  have hu := getN_used s
  obtain ⟨h0, h1, h2, h3⟩ := h
  have hx : nextS s = bs (s.data.toList.drop (getN s).2) := nextS_list s
  have hl : s.data.toList.length = s.size := len_bs s
  constructor
  · unfold payB
    rw [extract_self s, hx, extract_bs, List.drop_drop, Nat.add_sub_cancel_left, Nat.add_sub_cancel_left]
  · unfold behB
    have hsz : (nextS s).size = s.size - (getN s).2 := hns
    rw [hsz, extract_self s, hx, extract_bs, List.drop_drop, List.take_of_length_le, List.take_of_length_le]
    · congr 2; omega
    · rw [List.length_drop, hl]; omega
    · rw [List.length_drop, hl]; omega
set_option maxRecDepth 100000 in
set_option maxHeartbeats 1000000 in
theorem refOpen_len (s : ByteArray) (w : World) (hs : s.size ≤ 1000000000) (h : lenOk s) (q : Bool) (hq : q = !opB s) :
    Calls Tryz.prog 86 #[.string s] w fun e w' => e = .returned (if q then .tuple #[.string ⟨#[]⟩, .string ⟨#[]⟩, .bool false] else .tuple #[.string (payB s), .string (behB s), .bool true]) ∧ w.grownBy w' none := by
  obtain ⟨hx1, hx2⟩ := len_pay h
  rw [open_doc h] at hq
  have hu := getN_used s
  have hns := nextS_size s
  obtain ⟨h0, h1, h2, h3⟩ := h
  obtain ⟨n, hn⟩ : ∃ n : Nat, (n : Int) = (getN s).1 := ⟨(getN s).1.toNat, by omega⟩
  have hpn : payN s = n := by unfold payN; omega
  obtain ⟨u, hue⟩ : ∃ u, u = (getN s).2 := ⟨_, rfl⟩
  rw [← hue] at hu hns hx1 hx2 hq
  rw [hpn] at hx1 hx2 hq
  rw [hns] at h3
  rw [← hn] at h2 h3
  obtain ⟨P, hP⟩ : ∃ P, P = payB s := ⟨_, rfl⟩
  obtain ⟨B, hB⟩ : ∃ B, B = behB s := ⟨_, rfl⟩
  obtain ⟨F, hF⟩ : ∃ F, F = bs (frB P) := ⟨_, rfl⟩
  rw [← hP] at hx1 hq ⊢
  rw [← hB] at hx2 ⊢
  rw [← hF] at hq
  have hPs : P.size ≤ 1000000000 := by rw [← hx1, ByteArray.size_extract]; omega
  obtain ⟨C, hC⟩ : ∃ C, C = s.extract 0 (u + 4 + n) := ⟨_, rfl⟩
  rw [← hC] at hq
  have hr := Rr.new w s
  have gA := World.grownBy_alloc w (.cells #[.string s, .int .i64 0, .bool false] 118) none
  have hsi : (s.size : Int) ≤ 1000000000 := by omega
  have hui : (u : Int) + 4 + (n : Int) ≤ s.size := by omega
  have hu4 : (u : Int) + 4 ≤ s.size := by omega
  have d1 : decide ((n : Int) < 0) = false := decide_eq_false (by omega)
  have d2 : decide ((1048576 : Int) < n) = false := decide_eq_false (by omega)
  have d3 : decide ((s.size : Int) - (u : Int) - 4 < (n : Int)) = false := decide_eq_false (by omega)
  have hni : (n : Int) ≤ 1048576 := h2
  have hun : (u : Int) ≤ s.size := by omega
  have HN := Lib.hid hn
  have HT := Lib.hid h0
  have HU := Lib.hid hue
  have HZ := Lib.hid (rest_zero s)
  have HX1 := Lib.hid hx1
  have HX2 := Lib.hid hx2
  have HC := Lib.hid hC
  have HF : Hid (F = ⟨(frB P).toArray⟩) := hF
  have HQ := Lib.hid hq
  have HPS := Lib.hid hPs
  clear hn h0 hns hue h1 h2 h3 hu hP hB hF hC hq hx1 hx2 hpn hPs
  go_enter Tryz.func86, Tryz.ntmps86
  go_wp2_with fail
  refine (refRNum_good _ s 0 _ hr (Nat.zero_le _) (by omega)).mono ?_
  rintro e w2 ⟨rfl, x2, g2⟩
  rw [HZ.out] at x2 ⊢
  rw [Nat.zero_add, HT.out, ← HU.out] at x2
  rw [← HN.out]
  have G2 := grow_new gA (Nat.le_refl _) g2
  have c1 := x2.c1
  have c2 := x2.c2
  clear gA g2 hr
  have q1 : IntKind.i64.wrap ((u : Int) + 4) = (u : Int) + 4 := IntWalk.i64_in _ (by omega)
  have q2 : (0 : Int) ≤ (u : Int) + 4 := by omega
  have q3 : ((u : Int) + 4).toNat = u + 4 := by omega
  have q4 : IntKind.i64.wrap ((u : Int) + 4 + (n : Int)) = (u : Int) + 4 + (n : Int) := IntWalk.i64_in _ (by omega)
  have q5 : (0 : Int) ≤ (u : Int) + 4 + (n : Int) := by omega
  have q6 : ((u : Int) + 4 + (n : Int)).toNat = u + 4 + n := by omega
  have q7 : (u : Int) + 4 ≤ (u : Int) + 4 + (n : Int) := by omega
  have hx1 := HX1.out
  go_wp2
  go_quiet (fail)
  clear hx1
  go_wp2
  have hc0 := HC.out.symm
  refine wp_region_rel (fun W => w2.grownBy W none) (fun W W' => W.grownBy W' none) (by kernel_rfl) (by kernel_rfl) (fun W => grow_refl W none) (grow_drawn (grow_drawnN _ (grow_refl _ _))) ?_
  repeat (refine wpRel_det ?_; apply Exists.intro; refine ⟨fun W hI => ?_, ?_⟩; focus (go_simp; first | exact ⟨rfl, grow_refl _ _⟩ | exact One_rel P _ HF.out HPS.out hI))
  refine wpRel_nil ?_
  intro w7 hI
  have G7 := grow_none G2 hI
  have hq' : (!(F.toList == C.toList)) = q := HQ.out.symm
  go_simp
  have hx2 := HX2.out
  cases q with
  | true =>
    go_wp2
    refine bodyPost_ret (v := .tuple #[.string ⟨#[]⟩, .string ⟨#[]⟩, .bool false]) ?_ ?_ ?_
    · simp [results, go_sem]
    · rfl
    · exact ⟨rfl, G7⟩
  | false =>
    go_wp2
    go_quiet (fail)
    go_wp2
    refine bodyPost_ret (v := .tuple #[.string P, .string B, .bool true]) ?_ ?_ ?_
    · simp [results, go_sem]
    · rfl
    · exact ⟨rfl, grow_drawnN _ G7⟩
theorem refOpen_yes (s : ByteArray) (w : World) (hs : s.size ≤ 1000000000) (h : opB s = true) :
    Calls Tryz.prog 86 #[.string s] w fun e w' => e = .returned (.tuple #[.string (payB s), .string (behB s), .bool true]) ∧ w.grownBy w' none := by
  by_cases hl : lenOk s
  · exact refOpen_len s w hs hl false (by rw [h]; rfl)
  · rw [opB_no hl] at h; cases h
theorem refOpen_not (s : ByteArray) (w : World) (hs : s.size ≤ 1000000000) (h : opB s = false) :
    Calls Tryz.prog 86 #[.string s] w fun e w' => e = .returned (.tuple #[.string ⟨#[]⟩, .string ⟨#[]⟩, .bool false]) ∧ w.grownBy w' none := by
  by_cases hl : lenOk s
  · exact refOpen_len s w hs hl true (by rw [h]; rfl)
  · exact refOpen_no s w hs hl
end Go.Proofs.YtphljjgjpkdpmaaGreatDoor
