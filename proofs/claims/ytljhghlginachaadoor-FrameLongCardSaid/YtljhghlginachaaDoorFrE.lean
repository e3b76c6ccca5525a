/- Stage 4: Seal. -/
import Derived.Test.YtljhghlginachaaDoorFrD
import Derived.Test.YtljhghlginachaaDoorPkC
import Derived.Test.YtljhghlginachaaDoorShelf
namespace Go.Proofs.YtljhghlginachaaDoor
open Go.RowKit
set_option linter.unusedVariables false
theorem own_base {w : World} {e : TypeId} {n B : Nat} {v : Value} {xs : List Value} (h : w.ownsRow 0 e 1 v n xs) (hb : ∀ k, v.ownBlock = some k → B ≤ k) : w.ownsRow B e 1 v n xs := by
  refine ⟨h.1, ?_⟩
  rcases h.2 with h2 | ⟨g, cap, cur, rfl, _, rest⟩
  · exact .inl h2
  · exact .inr ⟨g, cap, cur, rfl, hb g rfl, rest⟩
theorem String_any (b : Nat) (xs : List UInt8) (w0 w : World) (h : BuildAt b xs w0 w) :
    Calls Tryd.prog 21 #[.pointer (some ⟨b, 0, none⟩)] w fun e w' => e = .returned (.string ⟨xs.toArray⟩) ∧ w0.grownBy w' none := by
  obtain ⟨p, v, hb, hp, ho, hne, hb0, hn, hg⟩ := h
  have hB : Lib.IsBuilder 45 5 w0.heap.size b (Lib.byteCells xs) w := by
    have hl : (Lib.byteCells xs).length = xs.length := by simp [Lib.byteCells]
    have key : ∀ p, Blk w b 45 [p, v] → Lib.BuilderAt 45 5 w0.heap.size b p (Lib.byteCells xs) w :=
      fun p hb => ⟨hb0, v, hb, by rw [hl]; exact own_base ho hn, hne⟩
    rcases hp with rfl | rfl
    · exact .inl (key _ hb)
    · exact .inr (key _ hb)
  refine (Tryd.Builder_String_any w0.heap.size b xs w hB hg.size).mono ?_
  rintro e w' ⟨rfl, bel⟩
  exact ⟨rfl, bel.os.trans hg.os, bel.tape.trans hg.tape, bel.output.trans hg.output, Nat.le_trans hg.size bel.size, fun i hi hn' => (bel.block i hi).trans (hg.block i hi hn')⟩
theorem BuildAt.kept {b : Nat} {xs : List UInt8} {w0 w w' : World} (h : BuildAt b xs w0 w) (g : w.grownBy w' none) : BuildAt b xs w0 w' := by
  obtain ⟨p, v, hb, hp, ho, hne, hb0, hn, hg⟩ := h
  exact ⟨p, v, hb.keep g, hp, ho.kept g (Classical.em _), hne, hb0, hn, grow_none hg g⟩
theorem BuildAt.grow {b : Nat} {xs : List UInt8} {w0 w : World} (h : BuildAt b xs w0 w) : w0.grownBy w none := by
  obtain ⟨_, _, _, _, _, _, _, _, hg⟩ := h
  exact hg
set_option maxRecDepth 100000 in
set_option maxHeartbeats 1000000 in
theorem Seal_any (v : Value) (l : List ByteArray) (w : World) (hm : Mv w) (hr : RowAt w v (l.map Value.string)) (hl : l.length ≤ 8192) (hs : ∀ s ∈ l, s.size ≤ 1048576) :
    Calls Tryd.prog 11 #[v] w fun e w' => e = .returned (.tuple #[.string ⟨(framesB l).toArray⟩, .int .i64 0]) ∧ w.grownBy w' none := by
  obtain ⟨a, c, rfl⟩ := hr.len
  rw [List.length_map] at hr ⊢
  have hli : (l.length : Int) ≤ 8192 := by omega
  have HS := Lib.hid hs
  clear hs
  go_enter Tryd.func11, Tryd.ntmps11
  go_wp2
  go_loop [11] (fun i => ∃ k : Nat, k ≤ l.length ∧ i = .int .i64 k) (fun i => l.length - (intOf i).toNat)
  case atStart => exact ⟨0, Nat.zero_le _, rfl⟩
  case round =>
    obtain ⟨k, hk, rfl⟩ := hrel
    by_cases hlt : k < l.length
    · obtain ⟨bb, off, rfl, hcell⟩ := row_str hr hlt
      have hsz := HS.out l[k] (List.getElem_mem hlt)
      have h1 : decide ((1048576 : Int) < l[k].size) = false := decide_eq_false (by omega)
      have hki : (k : Int) < l.length := by omega
      go_wp2
      go_round
      case rel => exact ⟨k + 1, by omega, by go_num⟩
      case measure => simp [intOf]; omega
    · obtain rfl : k = l.length := by omega
      have hb : Blk (w.alloc (.cells #[.pointer none, .slice none 0 0] 45)) w.heap.size 45 [.pointer none, .slice none 0 0] := Blk.new _ _ _
      have t0 : BuildAt w.heap.size [] w (w.alloc (.cells #[.pointer none, .slice none 0 0] 45)) := ⟨_, _, hb, .inl rfl, World.ownsRow_nil _ _ _ _, by simp [Value.ownBlock], Nat.le_refl _, newblk_nil _, World.grownBy_alloc _ _ _⟩
      obtain ⟨b, hbe⟩ : ∃ b, b = w.heap.size := ⟨_, rfl⟩
      rw [← hbe] at t0
      have HBE := Lib.hid hbe
      clear hb hbe
      go_wp2
      rw [← HBE.out]
      go_loopw [21] (fun i wr => ∃ k : Nat, k ≤ l.length ∧ i = .int .i64 k ∧ BuildAt b (framesB (l.take k)) w wr) (fun i _ => l.length - (intOf i).toNat)
      case atStart => exact ⟨0, Nat.zero_le _, rfl, by simpa [framesB] using t0⟩
      case round =>
        obtain ⟨k, hk, rfl, ho⟩ := hrel
        clear t0
        have hg : w.grownBy wr none := by obtain ⟨_, _, _, _, _, _, _, _, hg⟩ := ho; exact hg
        by_cases hlt : k < l.length
        · obtain ⟨bb, off, rfl, hcell⟩ := row_str (hr.kept hg) hlt
          have hsz := HS.out l[k] (List.getElem_mem hlt)
          have hle := frames_len l HS.out k hk
          have HT := Lib.hid (frames_snoc l k hlt)
          have hki : (k : Int) < l.length := by omega
          go_wp2_with fail
          have hnl : (numsB [(l[k].size : Int)]).length ≤ 10 := by
            have := numB_len (n := (l[k].size : Int)) (by omega)
            simpa [numsB] using this
          have r1 := RowAt.lit wr ([(l[k].size : Int)].map i64v) 3 1 1 rfl
          have gA := World.grownBy_alloc wr (.cells ([(l[k].size : Int)].map i64v).toArray 3) none
          have b1 := ho.kept gA
          obtain ⟨F, hF⟩ : ∃ F, F = framesB (l.take k) := ⟨_, rfl⟩
          rw [← hF] at b1 hle
          have HF := Lib.hid hF
          obtain ⟨p, hp⟩ : ∃ p, p = l[k] := ⟨_, rfl⟩
          rw [← hp] at hcell hsz hnl r1 gA b1 ⊢
          have HP := Lib.hid hp
          clear hF hp ho
          refine (Nums_any _ [(p.size : Int)] _ r1 (by intro n hn; rw [List.mem_singleton] at hn; subst hn; omega) (by simp)).mono ?_
          rintro e w2 ⟨rfl, g2⟩
          have b2 := b1.kept g2
          have hz1 : (⟨(numsB [(p.size : Int)]).toArray⟩ : ByteArray).size = (numsB [(p.size : Int)]).length := by show (numsB [(p.size : Int)]).toArray.size = _; simp
          have HZ1 := Lib.hid hz1
          clear hz1 r1 b1 g2 gA
          go_wp2_with fail
          refine (WriteString_any b F _ w _ b2 (by rw [HZ1.out]; omega)).mono ?_
          rintro e w3 ⟨rfl, b3⟩
          clear b2
          have m3 := hm.kept b3.grow
          go_wp2_with fail
          refine (sumBytes_any p _ m3 (by unfold maxLen; omega)).mono ?_
          rintro e w4 ⟨rfl, g4⟩
          have b4 := b3.kept g4
          have hz2 : (⟨(sumB (crcN p)).toArray⟩ : ByteArray).size = 4 := rfl
          have HZ2 := Lib.hid hz2
          clear b3 g4 hz2
          go_wp2_with fail
          refine (WriteString_any b _ _ w _ b4 (by rw [HZ2.out, List.length_append]; show F.length + (numsB [(p.size : Int)]).length + 4 ≤ _; omega)).mono ?_
          rintro e w5 ⟨rfl, b5⟩
          clear b4
          go_wp2_with fail
          refine (WriteString_any b _ _ w _ b5 (by rw [List.length_append, List.length_append]; show F.length + (numsB [(p.size : Int)]).length + 4 + p.size ≤ _; omega)).mono ?_
          rintro e w6 ⟨rfl, b6⟩
          clear b5
          have HFIN : Hid (F ++ (⟨(numsB [(p.size : Int)]).toArray⟩ : ByteArray).data.toList ++ (⟨(sumB (crcN p)).toArray⟩ : ByteArray).data.toList ++ p.data.toList = framesB (l.take (k + 1))) := by
            show _ = _
            rw [HT.out, ← HF.out, ← HP.out]
            unfold frB
            show F ++ numsB [(p.size : Int)] ++ sumB (crcN p) ++ p.data.toList = _
            rw [show numsB [(p.size : Int)] = numB (p.size : Int) by simp [numsB]]
            simp only [List.append_assoc]
          rw [HFIN.out] at b6
          go_wp2
          go_roundw
          case rel => exact ⟨k + 1, by omega, by go_num, b6⟩
          case measure => simp [intOf]; omega
        · obtain rfl : k = l.length := by omega
          have hT : l.take l.length = l := List.take_length
          rw [hT] at ho
          go_wp2_with fail
          refine (String_any b _ w _ ho).mono ?_
          rintro e w2 ⟨rfl, g2⟩
          go_wp2
          go_ret2
          exact ⟨rfl, g2⟩
end Go.Proofs.YtljhghlginachaaDoor
