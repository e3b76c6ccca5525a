/- The law ShaSums: its walk. -/
import Derived.Test.YtgcdfoadegojcaaDoorShU
import Derived.Test.YtgcdfoadegojcaaDoorShL
namespace Go.Proofs.YtgcdfoadegojcaaDoor
open Go.RowKit
set_option linter.unusedVariables false
theorem Tryd.infoS_string : (Tryd.prog.info? 9).map (fun i => (i.zero, i.size, i.bytes)) = some (some (.string ⟨#[]⟩), 1, 16) := by kernel_rfl
theorem onesS (l : List ByteArray) : ∀ u ∈ l.map Value.string, u.oneCell' = true := by
  intro u hu
  obtain ⟨x, _, rfl⟩ := List.mem_map.1 hu
  rfl
theorem own_capS {w : World} {e : TypeId} {n : Nat} {v : Value} {xs : List Value} (h : w.ownsRow 0 e 1 v n xs) : CapOk v := by
  rcases h.2 with ⟨rfl, rfl⟩ | ⟨g, cap, cur, rfl, _, _, h1, _⟩
  · intro p n c e; injection e with _ e2 e3; omega
  · intro p n' c e; injection e with _ e2 e3; omega
set_option maxRecDepth 100000 in
set_option maxHeartbeats 4000000 in
theorem law_ShaSums (v : Value) (l : List ByteArray) {w : World} (hr : RowAt w v (l.map Value.string)) (hs : ∀ s ∈ l, s.size ≤ maxLen) (hl : l.length ≤ maxLen) (hm : Tb w) :
    Calls Tryd.prog 3 #[v] w fun e w' => e = .returned (.bool true) ∧ Below w.heap.size w w' := by
  obtain ⟨i0, hi, hz0, hz1, hz2⟩ := info_parts Tryd.infoS_string
  have HL := Lib.hid hl
  have HS := Lib.hid hs
  obtain ⟨av, cv, rfl⟩ := hr.len
  rw [List.length_map] at hr ⊢
  clear hl hs
  go_enter Tryd.func3, Tryd.ntmps3
  go_wp2_with fail
  refine (joined_any _ l _ hr HS.out HL.out).mono ?_
  rintro e w1 ⟨t, ok, rfl, rfl, hok⟩
  go_wp2_with fail
  refine (awake03_any _ hm).mono ?_
  rintro e w2 ⟨rfl, g2⟩
  have m2 := hm.kept g2
  rcases ok with _ | _
  · clear hok
    go_wp2_with fail
    refine (awake03_any _ m2).mono ?_
    rintro e w3 ⟨rfl, g3⟩
    have G3 := grow_none g2 g3
    clear g2 g3
    go_wp2
    go_ret
    exact ⟨rfl, below_of_none G3⟩
  · obtain ⟨ht, hl3, hb⟩ := hok rfl
    clear hok
    have HT := Lib.hid ht
    have HB := Lib.hid hb
    have HL3 := Lib.hid hl3
    have r2 := (hr.kept g2).kept (World.grownBy_alloc w2 (.cells #[] 9) none)
    clear ht hb hl3
    go_wp2_with (at_builtin; refine wpList_append_row _ rfl _ _ 22 rfl 9 i0 (.string ⟨#[]⟩) 16 Tryd.underlying22 hi hz0 hz1 hz2 rfl _ _ _ rfl (own_empty _ _ _) _ (l.map Value.string) rfl r2 (onesS l) (by rw [List.length_map]; have := HL3.out; show _ ≤ 2^63-1; omega) (by rw [List.length_map]; have := HL3.out; omega) ?_)
    intro v3 w3 o3 g3 mv3
    have X3 := grow_newblk (World.grownBy_alloc w2 (.cells #[] 9) none) (newblk_at w2 w2.heap.size 0 0 (Nat.le_refl _) 0) g3
    have m3 := m2.kept X3
    have G3 := grow_none g2 X3
    have r3 := RowAt.of_own o3
    have c3 : CapOk v3 := own_capS o3
    clear g2 g3 X3 r2 m2 mv3 o3
    go_wp2_with fail
    refine (Sum_any v3 l w3 (by simpa using r3) c3 (by have := HL3.out; omega) (by have := HB.out; omega) m3.1 m3.2).mono ?_
    rintro e w4 ⟨rfl, g4⟩
    have G4 := grow_none G3 g4
    rw [← HT.out]
    go_wp2_with fail
    refine (refSum_any t w4 (by
      rw [HT.out]
      show (allB l).toArray.size ≤ _
      rw [List.size_toArray]
      have := HB.out; omega)).mono ?_
    rintro e w5 ⟨rfl, g5⟩
    have G5 := grow_none G4 g5
    obtain ⟨X, hX⟩ : ∃ X : ByteArray, X = ⟨(shaS t).toArray⟩ := ⟨_, rfl⟩
    rw [← hX]
    clear hX G4 g4 g5 G3 r3 m3 c3
    go_wp2
    go_ret
    exact ⟨rfl, below_of_none G5⟩
end Go.Proofs.YtgcdfoadegojcaaDoor
