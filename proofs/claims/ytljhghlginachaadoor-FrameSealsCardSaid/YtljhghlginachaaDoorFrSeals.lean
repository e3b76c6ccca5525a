/- The law FrameSeals: its walk. -/
import Derived.Test.YtljhghlginachaaDoorFrJ
namespace Go.Proofs.YtljhghlginachaaDoor
open Go.RowKit
set_option linter.unusedVariables false
set_option maxRecDepth 100000 in
set_option maxHeartbeats 1000000 in
theorem law_FrameSeals (v : Value) (l : List ByteArray) {w : World} (hr : RowAt w v (l.map Value.string)) (hs : ∀ s ∈ l, s.size ≤ maxLen) (hl : l.length ≤ maxLen) (hm : Mv w) :
    Calls Tryd.prog 3 #[v] w fun e w' => e = .returned (.bool true) ∧ Below w.heap.size w w' := by
  obtain ⟨i0, hi, hz0, hz1, hz2⟩ := info_parts Tryd.info04_string
  obtain ⟨av, cv, rfl⟩ := hr.len
  rw [List.length_map] at hr ⊢
  have HL := Lib.hid hl
  have HS := Lib.hid hs
  clear hl hs
  go_enter Tryd.func3, Tryd.ntmps3
  go_wp2_with fail
  refine (awake04_any _ hm).mono ?_
  rintro e w2 ⟨rfl, g2⟩
  have m2 := hm.kept g2
  go_wp2_with fail
  refine (many04_any _ l _ (hr.kept g2) HL.out HS.out).mono ?_
  rintro e w3 ⟨he, rfl⟩
  rcases he with rfl | ⟨rfl, hb⟩
  · go_wp2_with fail
    refine (awake04_any _ m2).mono ?_
    rintro e w3 ⟨rfl, g3⟩
    have G3 := grow_none g2 g3
    clear g2 g3
    go_wp2
    go_ret
    exact ⟨rfl, below_of_none G3⟩
  · obtain ⟨hl8, hsz⟩ := many_sizes hb
    have hsz2 : ∀ s ∈ l, s.size ≤ 1048576 := fun s hs => by have := hsz s hs; omega
    have HSZ := Lib.hid hsz2
    have r2 := (hr.kept g2).kept (World.grownBy_alloc w2 (.cells #[] 9) none)
    clear hb hsz hsz2
    go_wp2_with (at_builtin; refine wpList_append_row _ rfl _ _ 22 rfl 9 i0 (.string ⟨#[]⟩) 16 Tryd.underlying22 hi hz0 hz1 hz2 rfl _ _ _ rfl (own_empty _ _ _) _ (l.map Value.string) rfl r2 (ones_str l) (by rw [List.length_map]; show _ ≤ 2^63-1; omega) (by rw [List.length_map]; omega) ?_)
    intro v3 w3 o3 g3 mv3
    have X3 := grow_newblk (World.grownBy_alloc w2 (.cells #[] 9) none) (newblk_at w2 w2.heap.size 0 0 (Nat.le_refl _) 0) g3
    have m3 := m2.kept X3
    have G3 := grow_none g2 X3
    have r3 := RowAt.of_own o3
    clear g2 g3 X3 r2 m2 mv3 o3
    go_wp2_with fail
    refine (Seal_any v3 l _ m3 (by simpa using r3) hl8 HSZ.out).mono ?_
    rintro e w4 ⟨rfl, g4⟩
    have G4 := grow_none G3 g4
    go_wp2_with fail
    refine (refSeal_any _ l _ (hr.kept G4) hl8 HSZ.out).mono ?_
    rintro e w5 ⟨rfl, g5⟩
    have G5 := grow_none G4 g5
    obtain ⟨X, hX⟩ : ∃ X : ByteArray, X = ⟨(framesB l).toArray⟩ := ⟨_, rfl⟩
    rw [← hX]
    clear hX G4 g4 g5 G3 r3 m3
    go_wp2
    go_ret
    exact ⟨rfl, below_of_none G5⟩
end Go.Proofs.YtljhghlginachaaDoor
