/- The law DiskFull: its walk. -/
import Derived.Test.YtgfmmchmkfboaaaDkQ
import Derived.Test.YtgfmmchmkfboaaaStep
namespace Go.Proofs.Ytgfmmchmkfboaaa
open Go.RowKit
set_option linter.unusedVariables false
theorem mod_posN (a : Int) (m : Nat) (h0 : 0 < m) (hm : m ≤ 1000000000) : ∃ k : Nat, k < m ∧ (IntKind.u64.wrap a).tmod (m : Int) = (k : Int) := by
  have e : IntKind.u64.wrap a = a % 18446744073709551616 := by simp [IntKind.wrap, IntKind.signed, IntKind.bits]
  have h1 : 0 ≤ IntKind.u64.wrap a := by rw [e]; omega
  rw [Int.tmod_eq_emod_of_nonneg h1]
  have h2 := Int.emod_nonneg (IntKind.u64.wrap a) (b := (m : Int)) (by omega)
  have h3 := Int.emod_lt_of_pos (IntKind.u64.wrap a) (b := (m : Int)) (by omega)
  exact ⟨((IntKind.u64.wrap a) % (m : Int)).toNat, by omega, by omega⟩
theorem info_u805 : (Try.prog.info? 5).map (fun i => (i.zero, i.size, i.bytes)) = some (some (.int .u8 0), 1, 1) := by kernel_rfl
/-- A row of noughts, made in whatever world. -/
theorem make_zeros (k : Nat) (hk : k ≤ 1048577) : ∃ o : Obj, (∀ W : World, (Instr.makeSlice 49 (.int .i64 (k : Int)) (.int .i64 (k : Int))).run Try.prog W = .ok (.slice (some ⟨W.heap.size, 0, none⟩) k k) (W.alloc o)) ∧
    (∀ (W : World) (g : Nat), W.heap[g]? = some o → (convert 49 9 (.slice (some ⟨g, 0, none⟩) k k)).run Try.prog W = .ok (.string (zeros k)) W) ∧ ∃ xs, o = .cells xs 5 (0, 0) := by
  obtain ⟨i0, hi, hz0, hz1, hz2⟩ := info_parts info_u805
  refine ⟨Obj.cells (List.replicate k (Value.int .u8 0)).toArray 5, fun W => run_make_one (P := Try.prog) 49 5 i0 (.int .u8 0) 1 Try.underlying49 hi hz0 rfl hz1 hz2 .i64 .i64 k k (Nat.le_refl _) (by omega) (by omega) W, fun W g hg => ?_, _, rfl⟩
  have hb : Blk W g 5 ((List.replicate k (0 : UInt8)).map c8) := by rw [← replicate_c8]; exact hg
  have hown := hb.own k (by rw [List.length_map, List.length_replicate]) (by unfold maxLen; omega)
  exact run_str_buf (P := Try.prog) W Try.underlying49 Try.underlying5 Try.underlying9 hown
theorem DEnd.keepObj {w w' : World} {b mb n n0 : Nat} {G : ByteArray → Option Nat} {d d0 : Dk} (h0 : DAt w b mb n0 G d0) (h : DEnd b mb G n d w w') {o : Obj} (ho : ∃ xs, o = .cells xs 5 (0, 0)) (g : Nat) (hg : w.heap[g]? = some o) : w'.heap[g]? = some o := by
  obtain ⟨xs, rfl⟩ := ho
  obtain ⟨G', _, c, _⟩ := h
  rw [c.block g (Array.getElem?_eq_some_iff.1 hg).1 (fun hs => ?_)]
  · exact hg
  · rcases hs with y | y | ⟨t, y⟩
    · subst y
      have hb : w.heap[g]? = some (.cells _ 57 (0, 0)) := h0.blk
      rw [hg] at hb; injection hb with hb; have := Obj.cells.inj hb; exact absurd this.2.1 (by decide)
    · subst y
      obtain ⟨D, ⟨es, clock, hb, _⟩, _⟩ := h0.map
      rw [hg] at hb; injection hb with hb; cases hb
    · obtain ⟨e, _, hb, _⟩ := h0.ent t g y
      have hb' : w.heap[g]? = some (.cells _ 72 (0, 0)) := hb
      rw [hg] at hb'; injection hb' with hb'; have := Obj.cells.inj hb'; exact absurd this.2.1 (by decide)
theorem obj1 (W : World) (o1 o2 : Obj) : ((W.alloc o1).alloc o2).heap[W.heap.size]? = some o1 := by
  rw [Below.heap_alloc _ _ _ (by simp)]; exact heap_alloc_new W o1
theorem obj2 (W : World) (o1 o2 : Obj) : ((W.alloc o1).alloc o2).heap[W.heap.size + 1]? = some o2 := by
  have := heap_alloc_new (W.alloc o1) o2
  simpa using this
theorem obj0d (W : World) (o : Obj) : (W.alloc o).drew.heap[W.heap.size]? = some o := heap_alloc_new W o
theorem obj0N (W : World) (o : Obj) (k : Nat) : ((W.alloc o).drewN k).heap[W.heap.size]? = some o := heap_alloc_new W o
theorem obj1d (W : World) (o1 o2 : Obj) : ((W.alloc o1).alloc o2).drew.heap[W.heap.size]? = some o1 := obj1 W o1 o2
theorem obj1N (W : World) (o1 o2 : Obj) (k : Nat) : (((W.alloc o1).alloc o2).drewN k).heap[W.heap.size]? = some o1 := obj1 W o1 o2
theorem obj2d (W : World) (o1 o2 : Obj) : ((W.alloc o1).alloc o2).drew.heap[W.heap.size + 1]? = some o2 := obj2 W o1 o2
theorem obj2N (W : World) (o1 o2 : Obj) (k : Nat) : (((W.alloc o1).alloc o2).drewN k).heap[W.heap.size + 1]? = some o2 := obj2 W o1 o2
theorem cBk {k g : Nat} {o : Obj} {z : ByteArray} (c : ∀ (W : World) (g : Nat), W.heap[g]? = some o → (convert 49 9 (.slice (some ⟨g, 0, none⟩) k k)).run Try.prog W = .ok (.string z) W) (W : World) (h : W.heap[g]? = some o) :
    (∀ n, (convert 49 9 (.slice (some ⟨g, 0, none⟩) k k)).run Try.prog (W.drewN n) = .ok (.string z) (W.drewN n)) ∧ (convert 49 9 (.slice (some ⟨g, 0, none⟩) k k)).run Try.prog W.drew = .ok (.string z) W.drew ∧ (convert 49 9 (.slice (some ⟨g, 0, none⟩) k k)).run Try.prog W = .ok (.string z) W :=
  ⟨fun n => c (W.drewN n) g h, c W.drew g h, c W g h⟩
set_option maxRecDepth 100000 in
set_option maxHeartbeats 8000000 in
theorem law_DiskFull (n : Int) (hn : -9223372036854775808 ≤ n ∧ n ≤ 9223372036854775807) {w : World} :
    Calls Try.prog 7 #[.int .i64 n] w fun e w' => e = .returned (.bool true) ∧ Below w.heap.size w w' := by
  obtain ⟨m, hm, hmod⟩ := mod_posN n 1000 (by decide) (by decide)
  have hmod3 : (IntKind.u64.wrap n).tmod 1000 = (m : Int) := hmod
  have FF := Lib.hid (full_facts m hm)
  obtain ⟨kA, hkA⟩ : ∃ kA, kA = 1048576 - m := ⟨_, rfl⟩
  obtain ⟨kB, hkB⟩ : ∃ kB, kB = m + 1 := ⟨_, rfl⟩
  have eA : (1048576 : Int) - (m : Int) = (kA : Int) := by omega
  have eB : (m : Int) + 1 = (kB : Int) := by omega
  obtain ⟨oA, mA, cA, xA⟩ := make_zeros kA (by omega)
  obtain ⟨oB, mB, cB, xB⟩ := make_zeros kB (by omega)
  obtain ⟨oC, mC, cC, xC⟩ := make_zeros m (by omega)
  have zsA := zeros_size kA
  have zsB := zeros_size kB
  have zsC := zeros_size m
  have FA : Hid (appC newD sF (zeros kA) = 0 ∧ full1 m = appD newD sF (zeros kA)) := by rw [hkA]; exact ⟨FF.out.1, rfl⟩
  have FB' : Hid (appC (full1 m) sF (zeros kB) = 52 ∧ appD (full1 m) sF (zeros kB) = full1 m) := by rw [hkB]; exact ⟨FF.out.2.1, FF.out.2.2.1⟩
  obtain ⟨zA, hzA⟩ : ∃ z, z = zeros kA := ⟨_, rfl⟩
  obtain ⟨zB, hzB⟩ : ∃ z, z = zeros kB := ⟨_, rfl⟩
  obtain ⟨zC, hzC⟩ : ∃ z, z = zeros m := ⟨_, rfl⟩
  rw [← hzA] at zsA cA FA
  rw [← hzB] at zsB cB FB'
  rw [← hzC] at zsC cC
  have HZ : Hid (zA.size ≤ maxLen ∧ zB.size ≤ maxLen ∧ zC.size ≤ maxLen) := by unfold maxLen; exact ⟨by omega, by omega, by omega⟩
  have HC := Lib.hid hzC
  have mI : (m : Int) < 1000 := by omega
  have XA := Lib.hid xA
  have XB := Lib.hid xB
  have XC := Lib.hid xC
  have wA : IntKind.i64.wrap (kA : Int) = (kA : Int) := by rw [IntKind.wrap_i64]; omega
  have wB : IntKind.i64.wrap (kB : Int) = (kB : Int) := by rw [IntKind.wrap_i64]; omega
  clear hzA hzB hzC hkA hkB hm zsA zsB zsC xA xB xC hmod hn
  go_enter Try.func7, Try.ntmps7
  go_wp2_with fail
  refine (New_any w).mono ?_
  rintro e w1 ⟨rfl, h1, g1⟩
  obtain ⟨b, hb⟩ : ∃ b, b = w.heap.size + 1 := ⟨_, rfl⟩
  obtain ⟨mb, hmb⟩ : ∃ mb, mb = w.heap.size := ⟨_, rfl⟩
  rw [← hb, ← hmb] at h1
  rw [← hb]
  have HBB : Hid (w.heap.size ≤ b ∧ w.heap.size ≤ mb) := ⟨by omega, by omega⟩
  have G1 := Lib.hid g1
  have H1 := Lib.hid h1
  clear h1 g1 hb hmb
  go_wp2_with fail
  have a1d := cA ((w1.alloc oA).drew) (w1.heap.size) (heap_alloc_new w1 oA)
  have a1N := fun k : Nat => cA ((w1.alloc oA).drewN k) (w1.heap.size) (heap_alloc_new w1 oA)
  have a2d := cA (((w1.alloc oA).alloc oB).drew) (w1.heap.size) (obj1 w1 oA oB)
  have a2N := fun k : Nat => cA (((w1.alloc oA).alloc oB).drewN k) (w1.heap.size) (obj1 w1 oA oB)
  have a3d := cA (((w1.alloc oB).alloc oA).drew) (w1.heap.size + 1) (obj2 w1 oB oA)
  have a3N := fun k : Nat => cA (((w1.alloc oB).alloc oA).drewN k) (w1.heap.size + 1) (obj2 w1 oB oA)
  have b1d := cB ((w1.alloc oB).drew) (w1.heap.size) (heap_alloc_new w1 oB)
  have b1N := fun k : Nat => cB ((w1.alloc oB).drewN k) (w1.heap.size) (heap_alloc_new w1 oB)
  have b2d := cB (((w1.alloc oB).alloc oA).drew) (w1.heap.size) (obj1 w1 oB oA)
  have b2N := fun k : Nat => cB (((w1.alloc oB).alloc oA).drewN k) (w1.heap.size) (obj1 w1 oB oA)
  have b3d := cB (((w1.alloc oA).alloc oB).drew) (w1.heap.size + 1) (obj2 w1 oA oB)
  have b3N := fun k : Nat => cB (((w1.alloc oA).alloc oB).drewN k) (w1.heap.size + 1) (obj2 w1 oA oB)
  have b4d := fun W : World => cB ((W.alloc oB).drew) (W.heap.size) (heap_alloc_new W oB)
  have b4N := fun (W : World) (k : Nat) => cB ((W.alloc oB).drewN k) (W.heap.size) (heap_alloc_new W oB)
  have b40 := fun W : World => cB (W.alloc oB) (W.heap.size) (heap_alloc_new W oB)
  have a10 := cA (w1.alloc oA) (w1.heap.size) (heap_alloc_new w1 oA)
  have a20 := cA ((w1.alloc oA).alloc oB) (w1.heap.size) (obj1 w1 oA oB)
  have a30 := cA ((w1.alloc oB).alloc oA) (w1.heap.size + 1) (obj2 w1 oB oA)
  have b20 := cB ((w1.alloc oB).alloc oA) (w1.heap.size) (obj1 w1 oB oA)
  have b30 := cB ((w1.alloc oA).alloc oB) (w1.heap.size + 1) (obj2 w1 oA oB)
  have CB := Lib.hid cB
  clear cA cB
  go_cut [4, 5] (fun x y wx => x = .int .i64 0 ∧ y = .int .i64 52 ∧ ∃ n3 wy, wy = wx ∧ n3 ≤ 2 ∧ DEnd b mb (fun _ => none) n3 (full1 m) w1 wy)
  case first =>
    go_region_law ((with_reducible show (if Region.wanted (Oper.mk _ (Op.call { callee := .value (.func 25), args := _, argTypes := _ }) _ _ _ _) _ = true then _ else _)); refine step_wanted rfl ?_; go_simp; go_at_call 25
                   first
                     | (with_reducible show Calls _ _ #[_, _, Value.string zA] _ _
                        refine Calls.mono (Append_any b mb 0 _ newD sF zA _ (H1.out.keep (by ((repeat (with_reducible first | refine grow_drawn ?_ | refine grow_drawnN _ ?_ | refine grow_then_none ?_ (World.grownBy_alloc _ _ none))); with_reducible exact grow_refl _ none))) (by decide) HZ.out.1 (by decide) (by decide)) ?_
                        rintro e w2 ⟨rfl, n2, hn2, hE2⟩
                        rw [FA.out.1]
                        rw [← FA.out.2] at hE2
                        try (have q1 := cBk CB.out _ (DEnd.keepObj (H1.out.keep (by ((repeat (with_reducible first | refine grow_drawn ?_ | refine grow_drawnN _ ?_ | refine grow_then_none ?_ (World.grownBy_alloc _ _ none))); with_reducible exact grow_refl _ none))) hE2 XB.out w1.heap.size (by with_reducible first | exact heap_alloc_new _ _ | exact obj0d _ _ | exact obj0N _ _ _ | exact obj1 _ _ _ | exact obj1d _ _ _ | exact obj1N _ _ _ _)))
                        try (have q2 := cBk CB.out _ (DEnd.keepObj (H1.out.keep (by ((repeat (with_reducible first | refine grow_drawn ?_ | refine grow_drawnN _ ?_ | refine grow_then_none ?_ (World.grownBy_alloc _ _ none))); with_reducible exact grow_refl _ none))) hE2 XB.out (w1.heap.size + 1) (by with_reducible first | exact obj2 _ _ _ | exact obj2d _ _ _ | exact obj2N _ _ _ _)))
                        have E2 : Hid (DEnd b mb (fun _ => none) n2 (full1 m) w1 w2) := DEnd.front (by ((repeat (with_reducible first | refine grow_drawn ?_ | refine grow_drawnN _ ?_ | refine grow_then_none ?_ (World.grownBy_alloc _ _ none))); with_reducible exact grow_refl _ none)) hE2
                        have N2 := Lib.hid hn2
                        obtain ⟨G2, h2, c2, x2⟩ := E2.out
                        have H2 := Lib.hid h2
                        have C2 := Lib.hid (show _ ∧ _ from ⟨c2, x2⟩)
                        clear hE2 hn2 h2 c2 x2)
                     | (with_reducible show Calls _ _ #[_, _, Value.string zB] _ _
                        refine Calls.mono (Append_any b mb n2 G2 (full1 m) sF zB _ (H2.out.keep (by ((repeat (with_reducible first | refine grow_drawn ?_ | refine grow_drawnN _ ?_ | refine grow_then_none ?_ (World.grownBy_alloc _ _ none))); with_reducible exact grow_refl _ none))) (by decide) HZ.out.2.1 (by rw [FF.out.2.2.2.2.2.2.2.1]; decide) (by have := N2.out; omega)) ?_
                        rintro e w3 ⟨rfl, n3, hn3, hE3⟩
                        rw [FB'.out.1]
                        rw [FB'.out.2] at hE3
                        have E3 : Hid (DEnd b mb (fun _ => none) n3 (full1 m) w1 w3) := DEnd.after C2.out.1 C2.out.2 (DEnd.front (by ((repeat (with_reducible first | refine grow_drawn ?_ | refine grow_drawnN _ ?_ | refine grow_then_none ?_ (World.grownBy_alloc _ _ none))); with_reducible exact grow_refl _ none)) hE3)
                        have N3 : Hid (n3 ≤ 2) := by have := N2.out; show _ ≤ _; omega
                        clear hE3 hn3))
    all_goals
      go_wp2
      go_meet
      exact ⟨rfl, rfl, n3, _, rfl, N3.out, DEnd.back E3.out (by ((repeat (with_reducible first | refine grow_drawn ?_ | refine grow_drawnN _ ?_ | refine grow_then_none ?_ (World.grownBy_alloc _ _ none))); with_reducible exact grow_refl _ none))⟩
  case rest =>
    obtain ⟨rfl, rfl, n3, wx, rfl, hn3, hE3⟩ := hcut
    have E3 := Lib.hid hE3
    have N3 := Lib.hid hn3
    obtain ⟨G3, h3, c3, x3⟩ := E3.out
    clear a1d a1N a2d a2N a3d a3N b1d b1N b2d b2N b3d b3N b4d b4N b40 a10 a20 a30 b20 b30 mA mB hE3 hn3
    have c40 := cC (wx.alloc oC) (wx.heap.size) (heap_alloc_new wx oC)
    have H3 := Lib.hid (h3.keep (World.grownBy_alloc wx oC none))
    have C3 := Lib.hid (show _ ∧ _ from ⟨c3, x3⟩)
    clear h3 c3 x3 cC
    have FC : Hid (appC (full1 m) sF zC = 0 ∧ appD (full1 m) sF zC = full3 m) := by rw [HC.out]; exact ⟨FF.out.2.2.2.1, rfl⟩
    go_wp2_with fail
    refine Calls.mono (Append_any b mb n3 G3 (full1 m) sF zC _ H3.out (by decide) HZ.out.2.2 (by rw [FF.out.2.2.2.2.2.2.2.1]; decide) (by have := N3.out; omega)) ?_
    rintro e w4 ⟨rfl, n4, hn4, hE4⟩
    rw [FC.out.1]
    rw [FC.out.2] at hE4
    have E4 : Hid (DEnd b mb (fun _ => none) n4 (full3 m) w1 w4) := DEnd.after C3.out.1 C3.out.2 (DEnd.front (World.grownBy_alloc wx oC none) hE4)
    have N4 : Hid (n4 ≤ 3) := by have := N3.out; show _ ≤ _; omega
    clear hE4 hn4
    obtain ⟨G4, h4, c4, x4⟩ := E4.out
    have H4 := Lib.hid h4
    have C4 := Lib.hid (show _ ∧ _ from ⟨c4, x4⟩)
    clear h4 c4 x4 c40
    go_wp2_with fail
    refine Calls.mono (Append_any b mb n4 G4 (full3 m) sF ⟨#[120]⟩ _ H4.out (by decide) (by decide) (by rw [FF.out.2.2.2.2.2.2.2.2]; decide) (by have := N4.out; omega)) ?_
    rintro e w5 ⟨rfl, n5, hn5, hE5⟩
    rw [FF.out.2.2.2.2.1]
    rw [FF.out.2.2.2.2.2.1] at hE5
    have E5 : Hid (DEnd b mb (fun _ => none) n5 (full3 m) w1 w5) := DEnd.after C4.out.1 C4.out.2 hE5
    clear hE5 hn5
    obtain ⟨G5, h5, c5, x5⟩ := E5.out
    have H5 := Lib.hid h5
    clear h5 c5 x5
    go_wp2_with fail
    refine Calls.mono (Read_any b mb n5 G5 (full3 m) sF w5 H5.out (by decide)) ?_
    rintro e w6 ⟨rfl, g6⟩
    obtain ⟨r, hr, hrs⟩ := FF.out.2.2.2.2.2.2.1
    rw [hr]
    have E6 := Lib.hid (DEnd.back E5.out g6)
    have H6 := Lib.hid (H5.out.keep g6)
    have hrs' : (r.size : Int) = 1048576 := by omega
    have hrb : ((r.size : Int) == 1048576) = true := by rw [hrs']; rfl
    clear g6 hr hrs hrs'
    go_wp2_with fail
    refine Calls.mono (awake_any w6) ?_
    rintro e w7 ⟨rfl, g7⟩
    have E7 := Lib.hid (DEnd.back E6.out g7)
    have H7 := Lib.hid (H6.out.keep g7)
    clear g7
    go_wp2_with fail
    refine Calls.mono (Steps_any b mb n5 G5 (full3 m) w7 H7.out) ?_
    rintro e w8 ⟨rfl, rfl⟩
    rw [FF.out.2.2.2.2.2.2.2.2]
    go_wp2_with fail
    go_ret
    exact ⟨rfl, below_of_none (E7.out.fresh G1.out HBB.out.1 HBB.out.2)⟩
end Go.Proofs.Ytgfmmchmkfboaaa
