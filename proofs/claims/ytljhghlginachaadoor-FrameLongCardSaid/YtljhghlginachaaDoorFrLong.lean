/- The law FrameLong: its walk. -/
import Derived.Test.YtljhghlginachaaDoorFrJ
import Derived.Test.YtljhghlginachaaDoorFrE2
import Derived.Outline
namespace Go.Proofs.YtljhghlginachaaDoor
open Go.RowKit
set_option linter.unusedVariables false
set_option maxRecDepth 100000 in
set_option maxHeartbeats 2000000 in
theorem law_FrameLong (p : ByteArray) (hp : p.size ≤ maxLen) {w : World} (hm : Mv w) :
    Calls Tryd.prog 8 #[.string p] w fun e w' => e = .returned (.bool true) ∧ Below w.heap.size w w' := by
  obtain ⟨i0, hi, hz0, hz1, hz2⟩ := info_parts Tryd.info04_uint8
  have hpi : (p.size : Int) ≤ 9223372036854775807 := by unfold maxLen at hp; omega
  clear hp
  by_cases h2 : 100 < p.size
  · have h2' : decide ((100 : Int) < p.size) = true := decide_eq_true (by omega)
    go_enter Tryd.func8, Tryd.ntmps8
    go_wp2_with fail
    refine (awake04_any _ hm).mono ?_
    rintro e w2 ⟨rfl, g2⟩
    have m2 := hm.kept g2
    go_wp2_with fail
    refine (awake04_any _ m2).mono ?_
    rintro e w3 ⟨rfl, g3⟩
    have G3 := grow_none g2 g3
    clear g2 g3
    go_wp2
    go_ret
    exact ⟨rfl, below_of_none G3⟩
  · have h2' : decide ((100 : Int) < p.size) = false := decide_eq_false (by omega)
    have hps : p.size ≤ 100 := by omega
    obtain ⟨o, ho⟩ : ∃ o, o = Obj.cells (List.replicate 1048576 (Value.int .u8 0)).toArray 5 := ⟨_, rfl⟩
    have hmk : ∀ W : World, (Instr.makeSlice 41 (.int .i64 1048576) (.int .i64 1048576)).run Tryd.prog W = .ok (.slice (some ⟨W.heap.size, 0, none⟩) 1048576 1048576) (W.alloc o) := fun W => by
      rw [ho]
      exact run_make_one (P := Tryd.prog) 41 5 i0 (.int .u8 0) 1 Tryd.underlying41 hi hz0 rfl hz1 hz2 .i64 .i64 1048576 1048576 (Nat.le_refl _) (by omega) (by omega) W
    obtain ⟨x, hx⟩ : ∃ x : ByteArray, x = ⟨(List.replicate 1048576 (0 : UInt8)).toArray⟩ := ⟨_, rfl⟩
    have hconv : ∀ W : World, (convert 41 9 (.slice (some ⟨W.heap.size, 0, none⟩) 1048576 1048576)).run Tryd.prog (W.alloc o) = .ok (.string x) (W.alloc o) := fun W => by
      have hb : Blk (W.alloc o) W.heap.size 5 ((List.replicate 1048576 (0 : UInt8)).map c8) := by
        rw [ho, replicate_c8]
        exact Blk.new _ _ _
      have hown := hb.own 1048576 (by rw [List.length_map, List.length_replicate]) (by unfold maxLen; omega)
      rw [hx]
      exact run_str_buf (P := Tryd.prog) (W.alloc o) Tryd.underlying41 Tryd.underlying5 Tryd.underlying9 hown
    have hxs : x.size = 1048576 := by rw [hx]; show (List.replicate 1048576 (0 : UInt8)).toArray.size = _; rw [List.size_toArray, List.length_replicate]
    have hgo : ∀ W : World, W.grownBy (W.alloc o) none := fun W => World.grownBy_alloc W o none
    clear ho hx
    obtain ⟨o1, o2, o3⟩ := open_app x (by omega) []
    rw [List.append_nil] at o1 o2 o3
    obtain ⟨X, hX⟩ : ∃ X : ByteArray, X = ⟨(framesB [x]).toArray⟩ := ⟨_, rfl⟩
    have hfx : framesB [x] = frB x := by unfold framesB; simp only [List.flatMap_cons, List.flatMap_nil, List.append_nil]
    have hXb : X = bs (frB x) := by rw [hX, hfx]; rfl
    rw [← hXb] at o1 o2 o3
    have hXs : X.size ≤ 1000000000 := by rw [hXb, bs_size]; have := frB_len x (by omega); omega
    have hsum : ¬ (9223372036854775807 < x.size + 1) := by omega
    have hsum2 : ¬ (9223372036854775807 < x.size + (⟨#[120]⟩ : ByteArray).size) := by show ¬ (_ < x.size + 1); omega
    obtain ⟨z, hz⟩ : ∃ z, z = x ++ (⟨#[120]⟩ : ByteArray) := ⟨_, rfl⟩
    have hzs : z.size = 1048577 := by rw [hz, ByteArray.size_append, hxs]; rfl
    have O1 := Lib.hid o1
    have O2 := Lib.hid o2
    have O3 : Hid (behB X = ⟨#[]⟩) := o3
    have HX := Lib.hid hX
    have HXS := Lib.hid hXs
    have HXZ := Lib.hid hxs
    have HZ := Lib.hid hz
    have HZS := Lib.hid hzs
    have hxq : ((x.size : Int) == (x.size : Int)) = true := by rw [beq_self_eq_true]
    have hxi : (x.size : Int) ≤ 2000000 := by omega
    clear o1 o2 o3 hX hfx hXb hXs hz hzs hxs h2
    go_enter Tryd.func8, Tryd.ntmps8
    go_wp2_with fail
    refine (awake04_any _ hm).mono ?_
    rintro e w2 ⟨rfl, g2⟩
    have gB := grow_none g2 (hgo w2)
    have hcw := hconv w2
    have hmkw := hmk w2
    clear hconv hmk
    go_wp2_with fail
    have gC := World.grownBy_alloc (w2.alloc o) (.cells #[Value.string x] 9) none
    have GC := grow_none gB gC
    have rC := RowAt.lit (w2.alloc o) ([x].map Value.string) 9 1 1 rfl
    rw [show (w2.alloc o).heap.size = w2.heap.size + 1 by simp] at rC
    simp only [List.map_cons, List.map_nil] at rC
    refine (Seal_any _ [x] _ (hm.kept GC) rC (by simp) (by intro s hs; rw [List.mem_singleton] at hs; rw [hs, HXZ.out]; omega)).mono ?_
    rintro e w3 ⟨rfl, g3⟩
    rw [← HX.out]
    have G3 := grow_none GC g3
    clear g2 gB gC g3 GC hcw hmkw
    go_wp2_with fail
    refine (Open_yes X _ (hm.kept G3) HXS.out O1.out).mono ?_
    rintro e w4 ⟨rfl, g4⟩
    rw [O2.out, O3.out]
    have G4 := grow_none G3 g4
    have gD := World.grownBy_alloc w4 (.cells #[Value.string p, Value.string z] 9) none
    have GD := grow_none G4 gD
    clear G3 g4
    go_wp2_with fail
    rw [← HZ.out]
    refine (Seal_long _ [p, z] _ (RowAt.lit w4 [Value.string p, Value.string z] _ _ _ rfl) (by simp) (by intro s hs; simp only [List.mem_cons, List.not_mem_nil, or_false] at hs; rcases hs with rfl | rfl <;> first | omega | (rw [HZS.out]; omega)) ⟨z, by simp, by rw [HZS.out]; omega⟩).mono ?_
    rintro e w5 ⟨rfl, g5⟩
    have G5 := grow_none GD g5
    clear G4 gD GD g5
    go_wp2
    go_ret
    exact ⟨rfl, below_of_none G5⟩
end Go.Proofs.YtljhghlginachaaDoor
