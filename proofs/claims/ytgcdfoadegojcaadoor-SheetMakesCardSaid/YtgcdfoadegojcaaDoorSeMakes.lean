/- The law SheetMakes: its walk. -/
import Derived.Test.YtgcdfoadegojcaaDoorShtB
namespace Go.Proofs.YtgcdfoadegojcaaDoor
open Go.RowKit
set_option linter.unusedVariables false
theorem mkL_len (s : ByteArray) : (mkL s).length ≤ 8 := by
  unfold mkL
  split
  · rw [hashes_len, chunks_len', data_len]; unfold cntN; omega
  · simp
theorem same_self (n : Int) (l : List ByteArray) : sameS n l n l = true := by unfold sameS; rw [decide_eq_true rfl, decide_eq_true rfl]; rfl
set_option maxRecDepth 100000 in
set_option maxHeartbeats 4000000 in
theorem law_SheetMakes (s : ByteArray) (hs : s.size ≤ maxLen) {w : World} (hm : Tb w) :
    Calls Tryd.prog 4 #[.string s] w fun e w' => e = .returned (.bool true) ∧ Below w.heap.size w w' := by
  clear hs
  by_cases h2 : 2000 < s.size
  · have e1 : decide ((2000 : Int) < s.size) = true := decide_eq_true (by omega)
    clear h2
    go_enter Tryd.func4, Tryd.ntmps4
    go_wp2_with fail
    refine (awake08_any _ hm).mono ?_
    rintro e w2 ⟨rfl, g2⟩
    have m2 := hm.kept g2
    go_wp2_with fail
    refine (awake08_any _ m2).mono ?_
    rintro e w3 ⟨rfl, g3⟩
    have G3 := grow_none g2 g3
    clear g2 g3
    go_wp2
    go_ret
    exact ⟨rfl, below_of_none G3⟩
  · have e1 : decide ((2000 : Int) < s.size) = false := decide_eq_false (by omega)
    have hs6 : s.size ≤ 1000000 := by omega
    have hl := mkL_len s
    have hlm : (mkL s).length ≤ maxLen := Nat.le_trans hl (by decide)
    have hself := same_self (mkN s) (mkL s)
    have hMk := fun w => MakeX_any s w hs6
    have hRk := fun w => refMakeX_any s w hs6
    obtain ⟨N, hN⟩ : ∃ N, N = mkN s := ⟨_, rfl⟩
    obtain ⟨L, hL⟩ : ∃ L, L = mkL s := ⟨_, rfl⟩
    obtain ⟨E, hE⟩ : ∃ E, E = mkE s := ⟨_, rfl⟩
    rw [← hL] at hlm
    simp only [← hN, ← hL, ← hE] at hMk hRk hself
    have HM := Lib.hid hMk
    have HR := Lib.hid hRk
    have HS := Lib.hid hself
    have HL := Lib.hid hlm
    clear hMk hRk hself hN hL hE hl hlm hs6 h2
    go_enter Tryd.func4, Tryd.ntmps4
    go_wp2_with fail
    refine (awake08_any _ hm).mono ?_
    rintro e w2 ⟨rfl, g2⟩
    have m2 := hm.kept g2
    go_wp2_with fail
    refine (HM.out w2 m2).mono ?_
    rintro e w3 ⟨p, c, rfl, r3, g3, _⟩
    have g4 := World.grownBy_alloc w3 (.cells #[.int .i64 N, .slice p L.length c] 30) none
    have s4 := ShB.new w3 N (.slice p L.length c)
    have r4 := r3.kept g4
    have G4 := grow_none (grow_none g2 g3) g4
    have m4 := hm.kept G4
    clear g2 g3 g4 r3 m2
    go_wp2_with fail
    refine (HR.out _ m4).mono ?_
    rintro e w5 ⟨p', c', rfl, r5, g5, _⟩
    have g6 := World.grownBy_alloc w5 (.cells #[.int .i64 N, .slice p' L.length c'] 30) none
    have s6 := ShB.new w5 N (.slice p' L.length c')
    have s7 := (s4.keep g5).keep g6
    have R1 := Lib.hid ((r4.kept g5).kept g6)
    have R2 := Lib.hid (r5.kept g6)
    have G6 := Lib.hid (grow_none (grow_none G4 g5) g6)
    have x0 := s7.c0
    have x1 := s7.c1
    have y0 := s6.c0
    have y1 := s6.c1
    clear s4 r4 G4 m4 r5 g5 g6 s6 s7
    go_wp2_with fail
    refine (Same08_any N N p p' c c' L L _ R1.out R2.out HL.out HL.out).mono ?_
    rintro e w7 ⟨rfl, g7⟩
    rw [HS.out]
    have G7 := Lib.hid (grow_none G6.out g7)
    clear x0 x1 y0 y1 g7
    go_wp2
    go_ret
    exact ⟨rfl, below_of_none G7.out⟩
end Go.Proofs.YtgcdfoadegojcaaDoor
