/- Stage 6: any call of both; the document's fixed answers. -/
import Derived.Test.YtpmfgjhkdokcbaaPoM
namespace Go.Proofs.Ytpmfgjhkdokcbaa
open Go.RowKit
set_option linter.unusedVariables false
theorem done_any (b1 b2 : Nat) (v1 v2 : Value) (L : List Lt) (m : Nat) (o : Cl) (ns : List Int) (w : World) (h : Two w b1 v1 b2 v2 L m) (hr : RowAt w o.n (ns.map (Value.int .i64))) (hl : ns.length ≤ 2000) (hvn : ns ≠ [] → ∀ g, o.n.ownBlock = some g → ¬ PS b1 v1 g) :
    Calls Try.prog 11 #[.pointer (some ⟨b1, 0, none⟩), .pointer (some ⟨b2, 0, none⟩), o.val] w fun e w' => e = .returned (.bool true) ∧ TwoEnd b1 v1 b2 v2 (stepL L m o ns) m w w' := by
  unfold stepL
  by_cases h1 : o.kind = 1
  · rw [if_pos h1]; exact done_1 b1 b2 v1 v2 L m o ns w h h1
  · by_cases h2 : o.kind = 2
    · rw [if_neg h1, if_pos h2]; exact done_2 b1 b2 v1 v2 L m o ns w h h2
    · by_cases h3 : o.kind = 3
      · rw [if_neg h1, if_neg h2, if_pos h3]; exact done_3 b1 b2 v1 v2 L m o ns w h h3
      · by_cases h4 : o.kind = 4
        · rw [if_neg h1, if_neg h2, if_neg h3, if_pos h4]; exact done_4 b1 b2 v1 v2 L m o ns w h h4 hr hl hvn
        · rw [if_neg h1, if_neg h2, if_neg h3, if_neg h4]; exact done_5 b1 b2 v1 v2 L m o ns w h h1 h2 h3 h4
def la : Lt := ⟨0, 1, ⟨#[97]⟩⟩
def lb : Lt := ⟨1, 6, ⟨#[98]⟩⟩
def lz : Lt := ⟨0, 0, ⟨#[]⟩⟩
/-- The post is the call's own. -/
structure Mine (B : Nat) (w0 w : World) (b : Nat) (v : Value) (L : List Lt) (m : Nat) : Prop where
  at_ : PAt 58 w b v L m
  lo : B ≤ b
  own : ∀ g, v.ownBlock = some g → B ≤ g
  grown : w0.grownBy w none
theorem Mine.step {w0 w w' : World} {b : Nat} {v : Value} {L L' : List Lt} {m : Nat} (h : Mine w0.heap.size w0 w b v L m) (e : PEnd 58 b v L' m w w') : ∃ v', Mine w0.heap.size w0 w' b v' L' m := by
  obtain ⟨v', p, c, k⟩ := e
  refine ⟨v', p, h.lo, fun g hg => ?_, ?_⟩
  · rcases k g hg with x | x
    · exact h.own g x
    · exact Nat.le_trans h.grown.size x
  · have := (Chg.of_none h.grown (S := PS b v)).trans c (fun _ _ h => h)
    exact this.none fun i hi hs => by
      rcases hs with hs | hs
      · have := h.lo; omega
      · have := h.own i hs; omega
theorem Mine.keep {w0 w w' : World} {b : Nat} {v : Value} {L : List Lt} {m : Nat} (h : Mine w0.heap.size w0 w b v L m) (g : w.grownBy w' none) : Mine w0.heap.size w0 w' b v L m := ⟨h.at_.keep g, h.lo, h.own, grow_none h.grown g⟩
set_option maxRecDepth 100000 in
set_option maxHeartbeats 4000000 in
theorem awake06_any (w : World) : Calls Try.prog 9 #[] w fun e w' => e = .returned (.bool true) ∧ w.grownBy w' none := by
  have s1 : sendC [] 2 la = 0 ∧ sendL [] 2 la = [la] := ⟨rfl, rfl⟩
  have s2 : sendC [la] 2 lb = 0 ∧ sendL [la] 2 lb = [la, lb] := ⟨rfl, rfl⟩
  have s3 : sendC [la, lb] 2 lz = 52 ∧ sendL [la, lb] 2 lz = [la, lb] := ⟨rfl, rfl⟩
  have s4 : takeC [la, lb] 0 = 0 ∧ takeR [la, lb] 0 = [lb] ∧ atL [la, lb] 0 = la := ⟨rfl, rfl, rfl⟩
  have s5 : twinC [lb] 2 0 = 0 ∧ twinR [lb] 2 0 = [lb, lb] := ⟨rfl, rfl⟩
  have s6 : purgeC [6] [lb, lb] = 2 := rfl
  have S1 := Lib.hid s1
  have S2 := Lib.hid s2
  have S3 := Lib.hid s3
  have S4 := Lib.hid s4
  have S5 := Lib.hid s5
  have S6 := Lib.hid s6
  clear s1 s2 s3 s4 s5 s6
  go_enter Try.func9, Try.ntmps9
  go_wp2_with fail
  refine (New_any 2 w).mono ?_
  rintro e w1 hN
  rcases hN with ⟨_, rfl, p1, g1⟩ | ⟨hb, _, _⟩
  · have M1 : Hid (Mine w.heap.size w w1 w.heap.size (.slice none 0 0) [] 2) := ⟨p1, Nat.le_refl _, by simp [Value.ownBlock], g1⟩
    clear p1 g1
    go_wp2_with fail
    refine (Send_any 58 rfl w.heap.size _ [] 2 la w1 M1.out.at_).mono ?_
    rintro e w2 ⟨rfl, E2⟩
    rw [S1.out.1]
    rw [S1.out.2] at E2
    obtain ⟨v2, m2⟩ := M1.out.step E2
    have M2 := Lib.hid m2
    clear M1 E2 m2
    go_wp2_with fail
    refine (Send_any 58 rfl w.heap.size _ [la] 2 lb w2 M2.out.at_).mono ?_
    rintro e w3 ⟨rfl, E3⟩
    rw [S2.out.1]
    rw [S2.out.2] at E3
    obtain ⟨v3, m3⟩ := M2.out.step E3
    have M3 := Lib.hid m3
    clear M2 E3 m3
    go_wp2_with fail
    refine (Send_any 58 rfl w.heap.size _ [la, lb] 2 lz w3 M3.out.at_).mono ?_
    rintro e w4 ⟨rfl, E4⟩
    rw [S3.out.1]
    rw [S3.out.2] at E4
    obtain ⟨v4, m4⟩ := M3.out.step E4
    have M4 := Lib.hid m4
    clear M3 E4 m4
    go_wp2_with fail
    refine (Take_any 58 w.heap.size _ [la, lb] 2 0 w4 M4.out.at_).mono ?_
    rintro e w5 ⟨rfl, E5⟩
    rw [S4.out.1, S4.out.2.2]
    rw [S4.out.2.1] at E5
    obtain ⟨v5, m5⟩ := M4.out.step E5
    have g6 : w5.grownBy (w5.alloc (.cells #[.int .i64 0, .int .i64 1, .string ⟨#[97]⟩] 33)) none := World.grownBy_alloc _ _ _
    have M5 := Lib.hid (m5.keep g6)
    have B5 := Lib.hid (Blk.new w5 33 [.int .i64 0, .int .i64 1, .string ⟨#[97]⟩])
    have hq5 : w.heap.size < w5.heap.size := m5.at_.lt
    have HV5 := Lib.hid m5.own
    have HL5 := Lib.hid (fun g hg => m5.at_.own.lt (g := g) hg)
    clear M4 E5 m5 g6
    unfold la Lt.val
    go_wp2_with fail
    refine (Twin_any 58 rfl w.heap.size _ [lb] 2 0 _ M5.out.at_).mono ?_
    rintro e w6 ⟨rfl, E6⟩
    rw [S5.out.1]
    rw [S5.out.2] at E6
    have b6 : Blk w6 w5.heap.size 33 [.int .i64 0, .int .i64 1, .string ⟨#[97]⟩] := by
      obtain ⟨_, _, c, _⟩ := E6
      refine c.blk B5.out ?_
      rintro (x | x)
      · omega
      · have := HL5.out _ x; omega
    obtain ⟨v6, m6⟩ := M5.out.step E6
    have M6 := Lib.hid m6
    have B6 := Lib.hid b6
    clear M5 E6 m6 b6 B5
    go_wp2_with fail
    refine (New_any 513 w6).mono ?_
    rintro e w7 hN
    rcases hN with ⟨hb, _⟩ | ⟨_, rfl, g7⟩
    · exact absurd hb (by decide)
    · have M7 := Lib.hid (M6.out.keep g7)
      have b7 := B6.out.keep g7
      have k2 := b7.cell 2 (by simp)
      simp only [List.getD_cons_zero, List.getD_cons_succ] at k2
      clear M6 B6 g7
      go_wp2_with fail
      refine (Len_any 58 w.heap.size _ [lb, lb] 2 _ M7.out.at_).mono ?_
      rintro e w8 ⟨rfl, rfl⟩
      have g9 : w7.grownBy (w7.alloc (.cells #[.int .i64 6] 3)) none := World.grownBy_alloc _ _ _
      have M9 := Lib.hid (M7.out.keep g9)
      have R9 := Lib.hid (RowAt.lit w7 [.int .i64 6] 3 1 1 rfl)
      have HL7 := Lib.hid (fun g hg => M7.out.at_.own.lt (g := g) hg)
      clear g9
      go_wp2_with fail
      refine (Purge_any 58 w.heap.size _ [lb, lb] 2 _ [6] _ M9.out.at_ R9.out (by decide) (fun g hg hg' => by have := HL7.out g hg'; simp [Value.ownBlock] at hg; omega)).mono ?_
      rintro e w10 ⟨rfl, E10⟩
      rw [S6.out]
      obtain ⟨v10, m10⟩ := M9.out.step E10
      have G10 := Lib.hid m10.grown
      clear E10 m10
      go_wp2
      go_ret
      exact ⟨rfl, G10.out⟩
  · exact absurd hb (by decide)
end Go.Proofs.Ytpmfgjhkdokcbaa
