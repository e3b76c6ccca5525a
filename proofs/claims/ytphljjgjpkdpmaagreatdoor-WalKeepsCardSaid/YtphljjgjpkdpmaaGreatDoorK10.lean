/- Several texts in one: FrD. -/
import Derived.Test.YtphljjgjpkdpmaaGreatDoorK9
import Derived.Shelf.Strings.Builder1
/- Stage 4: strings.Builder: copyCheck, WriteString. -/
namespace Go.Proofs.YtphljjgjpkdpmaaGreatDoor
open Go.RowKit
set_option linter.unusedVariables false
theorem Tryz.builder_size : (Tryz.prog.info? 136).map (·.size) = some 2 := by kernel_rfl
theorem Tryz.builder_lies : liesAt Tryz.prog Tryz.prog.depth 136 (2 / Tryz.prog.cellsOf 136) 0 136 1 = true := by kernel_rfl
theorem Blk.shape {w : World} {g : Nat} {t : TypeId} {xs : List Value} (h : Blk w g t xs) : w.shape? g = some (t, xs.length) := by
  unfold Blk at h
  simp [World.shape?, h]
set_option maxRecDepth 100000 in
set_option maxHeartbeats 1000000 in
theorem copyCheck_used (b : Nat) (v : Value) (w : World) (h : Blk w b 136 [.pointer (some ⟨b, 0, none⟩), v]) :
    Calls Tryz.prog 114 #[.pointer (some ⟨b, 0, none⟩)] w fun e w' => e = .returned (.tuple #[]) ∧ w' = w := by
  obtain ⟨j, hj, _⟩ := Option.map_eq_some_iff.1 Tryz.builder_size
  have c0 := h.cell 0 (by simp)
  simp only [List.getD_cons_zero] at c0
  go_enter Tryz.func114, Tryz.ntmps114
  go_wp2
  rw [Lib.run_neq_ptr_same w _ Tryz.underlying134 hj]
  go_wp2
  go_end0
  exact ⟨rfl, rfl⟩
set_option maxRecDepth 100000 in
set_option maxHeartbeats 1000000 in
theorem copyCheck_fresh (b : Nat) (v : Value) (w : World) (h : Blk w b 136 [.pointer none, v]) :
    Calls Tryz.prog 114 #[.pointer (some ⟨b, 0, none⟩)] w fun e w' => e = .returned (.tuple #[]) ∧ w' = w.setCell ⟨b, 0, none⟩ (.pointer (some ⟨b, 0, none⟩)) := by
  obtain ⟨j, hj, hjs⟩ := Option.map_eq_some_iff.1 Tryz.builder_size
  have c0 := h.cell 0 (by simp)
  have f0 := h.frozen 0
  have hsh := h.shape
  simp only [List.getD_cons_zero] at c0
  go_enter Tryz.func114, Tryz.ntmps114
  go_wp2
  rw [Lib.run_to_unsafe w ⟨b, 0, none⟩ Tryz.underlying134 Tryz.underlying166 hj (by rw [hjs]; decide) hsh (Nat.zero_lt_succ 1)]
  simp only [Result.andThen]
  rw [Oper.upon_value]
  go_wp2
  rw [run_callFunc_extern Tryz.func137 (by kernel_rfl) (by kernel_rfl) (by kernel_rfl) (e := Extern.AbiNoEscape.same) (by kernel_rfl)]
  rw [Lib.run_noEscape]
  simp only [Result.andThen]
  rw [Oper.upon_value]
  go_wp2
  rw [Lib.run_from_unsafe w ⟨b, 0, none⟩ Tryz.underlying166 Tryz.underlying134 hj hsh Tryz.builder_lies]
  simp only [Result.andThen]
  rw [Oper.upon_value]
  go_wp2
  go_end0
  exact ⟨rfl, rfl⟩
/-- A builder of the call's own, that holds these bytes. -/
def BuildAt (b : Nat) (xs : List UInt8) (w0 w : World) : Prop :=
  ∃ p v, Blk w b 136 [p, v] ∧ (p = .pointer none ∨ p = .pointer (some ⟨b, 0, none⟩)) ∧ w.ownsRow 0 5 1 v xs.length (xs.map c8) ∧ v.ownBlock ≠ some b ∧ w0.heap.size ≤ b ∧ NewBlk w0 v ∧ w0.grownBy w none
theorem copyCheck_any (b : Nat) (p v : Value) (w : World) (h : Blk w b 136 [p, v]) (hp : p = .pointer none ∨ p = .pointer (some ⟨b, 0, none⟩)) :
    Calls Tryz.prog 114 #[.pointer (some ⟨b, 0, none⟩)] w fun e w' => e = .returned (.tuple #[]) ∧ Blk w' b 136 [.pointer (some ⟨b, 0, none⟩), v] ∧ w.grownBy w' (some b) ∧ (∀ w0 : World, w0.heap.size ≤ b → w0.grownBy w none → w0.grownBy w' none) := by
  rcases hp with rfl | rfl
  · refine (copyCheck_fresh b v w h).mono ?_
    rintro e w' ⟨rfl, rfl⟩
    exact ⟨rfl, h.set_ 0 _, grow_set _ _ _, fun w0 h0 g => grow_setnew g h0 _⟩
  · refine (copyCheck_used b v w h).mono ?_
    rintro e w' ⟨rfl, rfl⟩
    exact ⟨rfl, h, grow_refl _ _, fun w0 h0 g => g⟩
set_option maxRecDepth 100000 in
set_option maxHeartbeats 1000000 in
theorem WriteString_any (b : Nat) (xs : List UInt8) (s : ByteArray) (w0 w : World) (h : BuildAt b xs w0 w) (hlen : xs.length + s.size ≤ 1000000000000) :
    Calls Tryz.prog 96 #[.pointer (some ⟨b, 0, none⟩), .string s] w fun e w' => e = .returned (.tuple #[.int .i64 s.size, .nilIface]) ∧ BuildAt b (xs ++ s.data.toList) w0 w' := by
  obtain ⟨i0, hi, hz0, hz1, hz2⟩ := info_parts Tryz.info04_uint8
  obtain ⟨p, v, hb, hp, ho, hne, hb0, hn, hg⟩ := h
  have hsi : (s.size : Int) ≤ 1000000000000 := by omega
  have hds : s.data.toList.length = s.size := by rw [Array.length_toList]; rfl
  have HDS := Lib.hid hds
  clear hds
  go_enter Tryz.func96, Tryz.ntmps96
  go_wp2_with fail
  refine (copyCheck_any b p v _ hb hp).mono ?_
  rintro e w1 ⟨rfl, hb1, g1, k1⟩
  have G1 := k1 w0 hb0 hg
  have o1 := ho.kept g1 (.inr hne)
  have c1 := hb1.cell 1 (by simp)
  have f1 := hb1.frozen 1
  have hbl := hb1.lt
  simp only [List.getD_cons_succ, List.getD_cons_zero] at c1
  clear g1 k1 ho hb hp hg
  go_wp2_with (at_builtin; refine wpList_append_str _ rfl _ _ 50 9 rfl 5 i0 Tryz.underlying50 Tryz.underlying9 hi hz0 hz1 hz2 _ _ _ rfl o1 _ rfl (by show _ ≤ 2^63-1; omega) (by omega) ?_)
  intro v3 w3 o3 g3 m3
  obtain ⟨ua, ul, uc, rfl⟩ : ∃ a l c, v3 = .slice a l c := by
    obtain ⟨a', c', e⟩ := (RowAt.of_own o3).len
    exact ⟨_, _, _, e⟩
  have hb3 := hb1.kept g3 (fun e => hne e.symm)
  have f3 := hb3.frozen 1
  have c3 := hb3.cell 1 (by simp)
  simp only [List.getD_cons_succ, List.getD_cons_zero] at c3
  have G3 := grow_newblk G1 hn g3
  have N3 := hn.moved G1.size m3
  have hne3 : (Value.slice ua ul uc).ownBlock ≠ some b := by
    rcases m3 with m | ⟨j, hj, m⟩
    · rw [m]; exact hne
    · rw [m]; intro e; injection e with e; omega
  clear g3 m3 o1 c1 f1
  go_wp2
  go_ret2
  have hb4 := hb3.set_ 1 (.slice ua ul uc)
  have g4 : w3.grownBy (w3.setCell ⟨b, 1, none⟩ (.slice ua ul uc)) (some b) := grow_set _ _ _
  have o4 := o3.kept g4 (.inr hne3)
  refine ⟨rfl, .pointer (some ⟨b, 0, none⟩), .slice ua ul uc, hb4, .inr rfl, ?_, hne3, hb0, N3, grow_setnew G3 hb0 _⟩
  rw [List.length_append, HDS.out, List.map_append]
  exact o4
end Go.Proofs.YtphljjgjpkdpmaaGreatDoor
