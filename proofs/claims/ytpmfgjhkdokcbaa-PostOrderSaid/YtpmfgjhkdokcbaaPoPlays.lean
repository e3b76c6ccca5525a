/- The law PostPlays: its walk. -/
import Derived.Test.YtpmfgjhkdokcbaaPoN
namespace Go.Proofs.Ytpmfgjhkdokcbaa
open Go.RowKit
set_option linter.unusedVariables false
/-- A script of calls. -/
structure Scr (w : World) (v : Value) (L : List Cl) : Prop where
  read : ReadK Cl.cells 6 w v L
  len : L.length ≤ maxLen
  each : ∀ o ∈ L, ∃ ns, ClOk w o ns
theorem ClOk.keep {w w' : World} {o : Cl} {ns : List Int} (h : ClOk w o ns) (g : w.grownBy w' none) : ClOk w' o ns := ⟨h.1.kept g, h.2⟩
theorem Scr.keep {w w' : World} {v : Value} {L : List Cl} (h : Scr w v L) (g : w.grownBy w' none) : Scr w' v L :=
  ⟨h.read.kept g, h.len, fun o ho => by obtain ⟨ns, hn⟩ := h.each o ho; exact ⟨ns, hn.keep g⟩⟩
theorem RowAt.lo {w : World} {v : Value} {xs : List Value} (h : RowAt w v xs) (hx : xs ≠ []) (g : Nat) (hg : v.ownBlock = some g) : g < w.heap.size := by
  obtain ⟨a, c, rfl, h⟩ := h
  rcases h with h | ⟨b, off, rfl, hb, _⟩
  · exact absurd h hx
  · simp [Value.ownBlock] at hg; omega
/-- Both posts are the call's own. -/
structure TwoMine (w0 w : World) (b1 : Nat) (v1 : Value) (b2 : Nat) (v2 : Value) (L : List Lt) (m : Nat) : Prop where
  two : Two w b1 v1 b2 v2 L m
  l1 : w0.heap.size ≤ b1
  l2 : w0.heap.size ≤ b2
  o1 : ∀ g, v1.ownBlock = some g → w0.heap.size ≤ g
  o2 : ∀ g, v2.ownBlock = some g → w0.heap.size ≤ g
  grown : w0.grownBy w none
theorem TwoMine.keep {w0 w w' : World} {b1 b2 m : Nat} {v1 v2 : Value} {L : List Lt} (h : TwoMine w0 w b1 v1 b2 v2 L m) (g : w.grownBy w' none) : TwoMine w0 w' b1 v1 b2 v2 L m :=
  ⟨h.two.keep g, h.l1, h.l2, h.o1, h.o2, grow_none h.grown g⟩
theorem TwoMine.step {w0 w w' : World} {b1 b2 m : Nat} {v1 v2 : Value} {L L' : List Lt} (h : TwoMine w0 w b1 v1 b2 v2 L m) (e : TwoEnd b1 v1 b2 v2 L' m w w') : ∃ v1' v2', TwoMine w0 w' b1 v1' b2 v2' L' m := by
  obtain ⟨v1', v2', t, c, k1, k2⟩ := e
  refine ⟨v1', v2', t, h.l1, h.l2, fun g hg => ?_, fun g hg => ?_, ?_⟩
  · rcases k1 g hg with x | x
    · exact h.o1 g x
    · exact Nat.le_trans h.grown.size x
  · rcases k2 g hg with x | x
    · exact h.o2 g x
    · exact Nat.le_trans h.grown.size x
  · have := (Chg.of_none h.grown (S := PT b1 v1 b2 v2)).trans c (fun _ _ h => h)
    refine this.none fun i hi hs => ?_
    rcases hs with (x | x) | (x | x)
    · have := h.l1; omega
    · have := h.o1 i x; omega
    · have := h.l2; omega
    · have := h.o2 i x; omega
theorem TwoMine.new {w w1 w2 : World} {m : Nat} (p1 : PAt 58 w1 w.heap.size (.slice none 0 0) [] m) (g1 : w.grownBy w1 none) (p2 : PAt 48 w2 w1.heap.size (.slice none 0 0) [] m) (g2 : w1.grownBy w2 none) :
    TwoMine w w2 w.heap.size (.slice none 0 0) w1.heap.size (.slice none 0 0) [] m :=
  ⟨⟨p1.keep g2, p2, by have := p1.lt; omega, by simp [Value.ownBlock], by simp [Value.ownBlock], by simp [Value.ownBlock]⟩, Nat.le_refl _, g1.size, by simp [Value.ownBlock], by simp [Value.ownBlock], grow_none g1 g2⟩
/-- A call of the script is played. -/
theorem done_mine {w0 w : World} {b1 b2 m : Nat} {v1 v2 : Value} {L : List Lt} (h : TwoMine w0 w b1 v1 b2 v2 L m) (o : Cl) (ns : List Int) (ok : ClOk w0 o ns) (hl : ns.length ≤ 2000) :
    Calls Try.prog 11 #[.pointer (some ⟨b1, 0, none⟩), .pointer (some ⟨b2, 0, none⟩), o.val] w fun e w' => e = .returned (.bool true) ∧ ∃ L' v1' v2', TwoMine w0 w' b1 v1' b2 v2' L' m :=
  (done_any b1 b2 v1 v2 L m o ns w h.two (ok.1.kept h.grown) hl (fun hx g hg => by
    have h1 := ok.1.lo (by simpa using hx) g hg
    rintro (x | x)
    · have := h.l1; omega
    · have := h.o1 g x; omega)).mono fun e w' ⟨he, t⟩ => by
      obtain ⟨v1', v2', t'⟩ := h.step t
      exact ⟨he, _, v1', v2', t'⟩
set_option maxRecDepth 100000 in
set_option maxHeartbeats 4000000 in
theorem law_PostPlays (most : Int) (hmost : -9223372036854775808 ≤ most ∧ most ≤ 9223372036854775807) (v : Value) (S : List Cl) {w : World} (hs : Scr w v S) :
    Calls Try.prog 3 #[.int .i64 most, v] w fun e w' => e = .returned (.bool true) ∧ Below w.heap.size w w' := by
  obtain ⟨av, cv, rfl⟩ := hs.read.len
  have il : (S.length : Int) ≤ 9223372036854775807 := by have := hs.len; unfold maxLen at this; omega
  have HS := Lib.hid hs
  clear hs
  go_enter Try.func3, Try.ntmps3
  go_wp2_with fail
  refine (New_any most w).mono ?_
  rintro e w1 hN
  rcases hN with ⟨hm, rfl, p1, g1⟩ | ⟨hm, rfl, g1⟩
  · have P1 := Lib.hid p1
    have G1 := Lib.hid g1
    have HM := Lib.hid hm
    clear p1 g1 hm
    go_wp2_with fail
    refine (refNew_any most w1).mono ?_
    rintro e w2 hN
    rcases hN with ⟨_, rfl, p2, g2⟩ | ⟨hb, _, _⟩
    · have T2 := Lib.hid (TwoMine.new P1.out G1.out p2 g2)
      have HNE : Hid (w1.heap.size ≠ w.heap.size) := by have := P1.out.lt; show _ ≠ _; omega
      obtain ⟨m, hmn⟩ : ∃ m, m = most.toNat := ⟨_, rfl⟩
      rw [← hmn] at T2
      clear p2 g2 P1 G1 hmn
      obtain ⟨q1, hq1⟩ : ∃ q, q = w.heap.size := ⟨_, rfl⟩
      obtain ⟨q2, hq2⟩ : ∃ q, q = w1.heap.size := ⟨_, rfl⟩
      go_wp2_with fail
      refine (awake06_any w2).mono ?_
      rintro e w3 ⟨rfl, g3⟩
      have T3 := Lib.hid (T2.out.keep g3)
      clear T2 g3 hq1 hq2
      go_wp2_with fail
      refine (great_any _ S w3 (HS.out.keep T3.out.grown).read HS.out.len (HS.out.keep T3.out.grown).each).mono ?_
      rintro e w4 ⟨hg, g4⟩
      have T4 := Lib.hid (T3.out.keep g4)
      rcases hg with rfl | ⟨rfl, hl4, hn4⟩
      · clear T3 g4
        go_wp2_with fail
        refine bodyPost_ret (v := .bool true) ?_ ?_ ?_
        · simp [results, go_sem]
        · rfl
        · exact ⟨rfl, below_of_none T4.out.grown⟩
      · have HN4 : Hid (∀ o ∈ S, ∀ ns, ClOk w o ns → ns.length ≤ 2000) := fun o ho ns h => hn4 o ho ns (h.keep T3.out.grown)
        have i2 : (S.length : Int) ≤ 2000 := by omega
        clear T3 g4 hn4
        go_wp2_with fail
        go_loopw [43] (fun i wr => ∃ (k : Nat) (v1 v2 : Value) (L : List Lt), k ≤ S.length ∧ i = .int .i64 k ∧ TwoMine w wr w.heap.size v1 w1.heap.size v2 L m) (fun i _ => S.length - (intOf i).toNat)
        case atStart => exact ⟨0, _, _, _, Nat.zero_le _, rfl, T4.out⟩
        case round =>
          obtain ⟨k, v1, v2, L, hk, rfl, hT⟩ := hrel
          have HT := Lib.hid hT
          clear hT T4
          have k0 : (0 : Int) ≤ k := by omega
          have k1 : (k : Int) ≤ 2000 := by omega
          by_cases hlt : k < S.length
          · have i1 : (k : Int) < S.length := by omega
            obtain ⟨o, ho⟩ : ∃ o, o = S[k] := ⟨_, rfl⟩
            have hoS : S[k]? = some o := by rw [ho, List.getElem?_eq_getElem]
            obtain ⟨ns, hok⟩ := HS.out.each o (by rw [ho]; exact List.getElem_mem hlt)
            have HNL : Hid (ns.length ≤ 2000) := HN4.out o (by rw [ho]; exact List.getElem_mem hlt) ns hok
            clear ho
            obtain ⟨kd, kk, l, n⟩ := o
            obtain ⟨an, cn, en⟩ := hok.1.len
            rw [List.length_map] at en
            dsimp only at en
            subst en
            obtain ⟨g, off, rfl, hgl, r0, r1, r2, r3, r4, r5⟩ := cl_at (HS.out.keep HT.out.grown).read rfl k hlt _ hoS
            dsimp only at r0 r1 r2 r3 r4 r5
            have HOK := Lib.hid hok
            have T5 := Lib.hid (HT.out.keep (World.grownBy_alloc wr (.cells #[.int .i64 kd, .int .i64 kk, .int .i64 l.f, .int .i64 l.t, .string l.d, .slice an ns.length cn] 36) none))
            clear hoS hok
            go_wp2_with fail
            refine (done_mine T5.out ⟨kd, kk, l, .slice an ns.length cn⟩ ns HOK.out HNL.out).mono ?_
            rintro e w6 ⟨rfl, L', v1', v2', t6⟩
            have T6 := Lib.hid t6
            clear t6 T5
            go_wp2_with fail
            go_roundw
            case rel => exact ⟨k + 1, v1', v2', L', by omega, by go_num, T6.out⟩
            case measure => simp [intOf]; omega
          · obtain rfl : k = S.length := by omega
            go_wp2_with fail
            refine (alike_same w.heap.size w1.heap.size v1 v2 L m _ HT.out.two.p1 HT.out.two.p2).mono ?_
            rintro e w6 ⟨rfl, g6⟩
            go_wp2_with fail
            go_ret
            exact ⟨rfl, below_of_none (grow_none HT.out.grown g6)⟩
    · rw [HM.out] at hb; exact absurd hb (by decide)
  · have HM := Lib.hid hm
    have G1 := Lib.hid g1
    clear hm g1
    go_wp2_with fail
    refine (refNew_any most w1).mono ?_
    rintro e w2 hN
    rcases hN with ⟨hb, _⟩ | ⟨_, rfl, g2⟩
    · rw [HM.out] at hb; exact absurd hb (by decide)
    · have G2 := Lib.hid (grow_none G1.out g2)
      clear g2
      go_wp2_with fail
      refine (awake06_any w2).mono ?_
      rintro e w3 ⟨rfl, g3⟩
      go_wp2_with fail
      go_ret
      exact ⟨rfl, below_of_none (grow_none G2.out g3)⟩
end Go.Proofs.Ytpmfgjhkdokcbaa
