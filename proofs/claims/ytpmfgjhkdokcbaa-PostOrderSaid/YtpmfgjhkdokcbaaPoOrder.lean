/- The law PostOrder: its walk. -/
import Derived.Test.YtpmfgjhkdokcbaaOp8
namespace Go.Proofs.Ytpmfgjhkdokcbaa
open Go.RowKit
set_option linter.unusedVariables false
theorem Lrs.keep {w w' : World} {v : Value} {S : List Lt} (h : Lrs w v S) (g : w.grownBy w' none) : Lrs w' v S := ⟨h.read.kept g, h.len, h.each⟩
/-- The post and the row of what was sent. -/
structure Sent (w0 w : World) (b : Nat) (v u : Value) (L M : List Lt) (m : Nat) : Prop where
  mine : Mine w0.heap.size w0 w b v L m
  row : OwnK Lt.cells 3 33 w u M
  new : NewBlk w0 u
  f1 : u.ownBlock ≠ some b
  f2 : ∀ g, u.ownBlock = some g → v.ownBlock ≠ some g
theorem Sent.keep {w0 w w' : World} {b m : Nat} {v u : Value} {L M : List Lt} (h : Sent w0 w b v u L M m) (g : w.grownBy w' none) : Sent w0 w' b v u L M m :=
  ⟨h.mine.keep g, h.row.keep g, h.new, h.f1, h.f2⟩
theorem Sent.step {w0 w w' : World} {b m : Nat} {v u : Value} {L L' M : List Lt} (h : Sent w0 w b v u L M m) (e : PEnd 58 b v L' m w w') : ∃ v', Sent w0 w' b v' u L' M m := by
  obtain ⟨v', p, c, k⟩ := e
  obtain ⟨v'', hm⟩ := h.mine.step ⟨v', p, c, k⟩
  have hrow : OwnK Lt.cells 3 33 w' u M := c.ownK h.row (fun g hg => by
    rintro (x | x)
    · exact h.f1 (by rw [hg, x])
    · exact h.f2 g hg x)
  refine ⟨v', ⟨p, h.mine.lo, fun g hg => ?_, hm.grown⟩, hrow, h.new, h.f1, fun g hg hg' => ?_⟩
  · rcases k g hg with x | x
    · exact h.mine.own g x
    · exact Nat.le_trans h.mine.grown.size x
  · rcases k g hg' with x | x
    · exact h.f2 g hg x
    · have := h.row.lt hg; omega
theorem Sent.push {w0 w w' : World} {b m : Nat} {v u u' : Value} {L M M' : List Lt} (h : Sent w0 w b v u L M m) (o : OwnK Lt.cells 3 33 w' u' M') (g : w.grownBy w' u.ownBlock) (mv : Moved w u u') : Sent w0 w' b v u' L M' m := by
  have k := Kept.of_moved mv (Nat.le_refl _)
  have hp : PAt 58 w' b v L m := h.mine.at_.chg (Chg.of_row g (S := fun i => u.ownBlock = some i) (fun i hi _ => hi)) (fun x => h.f1 x) (fun g' hg' x => h.f2 g' x hg')
  refine ⟨⟨hp, h.mine.lo, h.mine.own, grow_newblk h.mine.grown h.new g⟩, o, fun x hx => ?_, fun e => ?_, fun x hx hx' => ?_⟩
  · rcases k x hx with y | y
    · exact h.new x y
    · exact Nat.le_trans h.mine.grown.size y
  · rcases k b e with y | y
    · exact h.f1 y
    · have := h.mine.at_.lt; omega
  · rcases k x hx with y | y
    · exact h.f2 x y hx'
    · have := h.mine.at_.own.lt hx'; omega
theorem sent_same {L : List Lt} {m : Nat} {l : Lt} : (sendC L m l = 0 ∧ sendL L m l = L ++ [l]) ∨ (sendC L m l ≠ 0 ∧ sendL L m l = L) := by
  unfold sendC sendL
  split
  · exact .inr ⟨by decide, rfl⟩
  · split
    · exact .inr ⟨by decide, rfl⟩
    · exact .inl ⟨rfl, rfl⟩
theorem mostB_le {m : Int} (h : mostB m = true) : ((m.toNat : Nat) : Int) = m := by
  unfold mostB at h
  have := of_decide_eq_true h
  omega
set_option maxRecDepth 100000 in
set_option maxHeartbeats 8000000 in
theorem law_PostOrder (most : Int) (hmost : -9223372036854775808 ≤ most ∧ most ≤ 9223372036854775807) (v : Value) (S : List Lt) {w : World} (hs : Lrs w v S) :
    Calls Try.prog 4 #[.int .i64 most, v] w fun e w' => e = .returned (.bool true) ∧ Below w.heap.size w w' := by
  obtain ⟨i0, hi, hz0, hz1, hz2⟩ := info_parts info_lt
  obtain ⟨av, cv, rfl⟩ := hs.read.len
  have il : (S.length : Int) ≤ 9223372036854775807 := by have := hs.len; unfold maxLen at this; omega
  have HS := Lib.hid hs
  clear hs
  go_enter Try.func4, Try.ntmps4
  go_wp2_with fail
  refine (New_any most w).mono ?_
  rintro e w1 hN
  rcases hN with ⟨hm, rfl, p1, g1⟩ | ⟨hm, rfl, g1⟩
  · obtain ⟨m, hmn⟩ : ∃ m, m = most.toNat := ⟨_, rfl⟩
    have HMI : Hid ((m : Int) = most) := by show _ = _; rw [hmn]; exact mostB_le hm
    rw [← hmn] at p1
    have M1 : Hid (Mine w.heap.size w w1 w.heap.size (.slice none 0 0) [] m) := ⟨p1, Nat.le_refl _, by simp [Value.ownBlock], g1⟩
    clear p1 g1 hm hmn
    go_wp2_with fail
    refine (awake06_any w1).mono ?_
    rintro e w3 ⟨rfl, g3⟩
    have M3 := Lib.hid (M1.out.keep g3)
    clear M1 g3
    by_cases hbig : 1000 < S.length
    · have d1 : decide ((1000 : Int) < (S.length : Int)) = true := decide_eq_true (by omega)
      go_wp2_with fail
      refine (awake06_any w3).mono ?_
      rintro e w4 ⟨rfl, g4⟩
      go_wp2_with fail
      go_ret
      exact ⟨rfl, below_of_none (grow_none M3.out.grown g4)⟩
    · have d1 : decide ((1000 : Int) < (S.length : Int)) = false := decide_eq_false (by omega)
      have i2 : (S.length : Int) ≤ 1000 := by omega
      go_wp2_with fail
      go_loopw [7, 35] (fun u i wr => ∃ (k : Nat) (v1 : Value) (L : List Lt), k ≤ S.length ∧ i = .int .i64 k ∧ Sent w wr w.heap.size v1 u L L m) (fun _ i _ => S.length - (intOf i).toNat)
      case atStart => exact ⟨0, _, [], Nat.zero_le _, rfl, M3.out, OwnK.nil _ _, newblk_nil _, by simp [Value.ownBlock], by simp [Value.ownBlock]⟩
      case round =>
        obtain ⟨k, v1, L, hk, rfl, hT⟩ := hrel
        have HT := Lib.hid hT
        clear hT M3
        have k0 : (0 : Int) ≤ k := by omega
        have k1 : (k : Int) ≤ 1000 := by omega
        by_cases hlt : k < S.length
        · have i1 : (k : Int) < S.length := by omega
          obtain ⟨l, hl⟩ : ∃ l, l = S[k] := ⟨_, rfl⟩
          obtain ⟨g, off, rfl, hgl, r0, r1, r2⟩ := lt_at (HS.out.keep HT.out.mine.grown).read rfl k hlt l (by rw [hl, List.getElem?_eq_getElem])
          have T5 := Lib.hid (HT.out.keep (World.grownBy_alloc wr (.cells #[.int .i64 l.f, .int .i64 l.t, .string l.d] 33) none))
          have HB5 := Lib.hid (Blk.new wr 33 [.int .i64 l.f, .int .i64 l.t, .string l.d])
          clear hl
          go_wp2_with fail
          refine (Send_any 58 rfl w.heap.size v1 L m l _ T5.out.mine.at_).mono ?_
          rintro e w6 ⟨rfl, E6⟩
          have B6 : Blk w6 wr.heap.size 33 [.int .i64 l.f, .int .i64 l.t, .string l.d] := by
            obtain ⟨_, _, c, _⟩ := E6
            refine c.blk HB5.out ?_
            rintro (x | x)
            · have := HT.out.mine.at_.lt; omega
            · have := HT.out.mine.at_.own.lt x; omega
          have q0 := B6.cell 0 (by simp)
          have q1 := B6.cell 1 (by simp)
          have q2 := B6.cell 2 (by simp)
          obtain ⟨v6, t6⟩ := T5.out.step E6
          have T6 := Lib.hid t6
          rcases sent_same (L := L) (m := m) (l := l) with ⟨hc, hL⟩ | ⟨hc, hL⟩
          · rw [hL] at T6
            rw [hc]
            have hle : L.length ≤ 512 := by have := HT.out.mine.at_.len; have := HT.out.mine.at_.most; omega
            have X := World.grownBy_alloc w6 (.cells #[.int .i64 l.f, .int .i64 l.t, .string l.d] 33) none
            have T7 := Lib.hid (T6.out.keep X)
            have oA := T7.out.row
            have rA := ReadK.one Lt.len w6 l 33 1 #[.int .i64 l.f, .int .i64 l.t, .string l.d] rfl
            clear t6 E6 B6 hc hL X T5
            go_wp2_with (at_builtin; refine wpList_append_k rfl _ _ 40 rfl 33 i0 _ 32 Lt.len Lt.ones (by omega) Try.underlying40 hi hz0 hz1 hz2 rfl _ rfl oA _ rfl rA (by show _ + 1 ≤ 2^63-1; omega) (by show (_ + 1) * 32 ≤ _; omega) ?_)
            intro v8 w8 o8 g8 m8
            have T8 := Lib.hid (T7.out.push o8 g8 m8)
            clear oA rA o8 g8 m8
            go_wp2_with fail
            go_roundw
            case rel => exact ⟨k + 1, v6, _, by omega, by go_num, T8.out⟩
            case measure => simp [intOf]; omega
          · rw [hL] at T6
            have hcb : (sendC L m l == 0) = false := by simpa using hc
            clear t6 E6 B6 hc hL T5
            go_wp2_with fail
            go_roundw
            case rel => exact ⟨k + 1, v6, L, by omega, by go_num, T6.out⟩
            case measure => simp [intOf]; omega
        · obtain rfl : k = S.length := by omega
          obtain ⟨us, cs, hus⟩ := HT.out.row.read.len
          subst hus
          have hle : L.length ≤ m := HT.out.mine.at_.len
          have hmm : m ≤ 512 := HT.out.mine.at_.most
          have hLi : (L.length : Int) ≤ 512 := by omega
          obtain ⟨n, hn⟩ : ∃ n, n = L.length := ⟨_, rfl⟩
          rw [← hn] at hLi hle
          have HN := Lib.hid hn
          rw [← hn] at HT ⊢
          clear hn
          go_wp2_with fail
          go_loopw [50] (fun i wz => ∃ (k : Nat) (v1 : Value), k ≤ n ∧ i = .int .i64 k ∧ Sent w wz w.heap.size v1 (.slice us n cs) (L.drop k) L m) (fun i _ => n - (intOf i).toNat)
          case atStart => exact ⟨0, v1, Nat.zero_le _, rfl, HT.out⟩
          case round =>
            obtain ⟨k, v2, hk, rfl, hT2⟩ := hrel
            have H2 := Lib.hid hT2
            clear hT2
            have k0 : (0 : Int) ≤ k := by omega
            by_cases hlt' : k < n
            · have hkL : k < L.length := by rw [← HN.out]; exact hlt'
              have i1 : (k : Int) < n := by omega
              obtain ⟨x, hx⟩ : ∃ x, x = L[k] := ⟨_, rfl⟩
              obtain ⟨g, off, rfl, hgl, r0, r1, r2⟩ := lt_at H2.out.row.read HN.out.symm k hlt' x (by rw [hx, List.getElem?_eq_getElem])
              have HD : Hid (takeC (L.drop k) 0 = 0 ∧ takeR (L.drop k) 0 = L.drop (k + 1) ∧ atL (L.drop k) 0 = x) := by
                have e : L.drop k = x :: L.drop (k + 1) := by rw [hx]; exact List.drop_eq_getElem_cons hkL
                rw [e]
                have h0 := atL_yes (L := x :: L.drop (k + 1)) (j := 0) (by simp)
                have hk0 : kthB 0 (x :: L.drop (k + 1)).length = true := h0.1
                exact ⟨by unfold takeC; rw [hk0]; rfl, by unfold takeR; rw [hk0]; rfl, h0.2⟩
              have T3 := Lib.hid (H2.out.keep (World.grownBy_alloc wr (.cells #[.int .i64 x.f, .int .i64 x.t, .string x.d] 33) none))
              have HB3 := Lib.hid (Blk.new wr 33 [.int .i64 x.f, .int .i64 x.t, .string x.d])
              have hnq := lt_neq x
              clear hx
              go_wp2_with fail
              refine (Take_any 58 w.heap.size v2 (L.drop k) m 0 _ T3.out.mine.at_).mono ?_
              rintro e w6 ⟨rfl, E6⟩
              rw [HD.out.1, HD.out.2.2]
              have B6 : Blk w6 wr.heap.size 33 [.int .i64 x.f, .int .i64 x.t, .string x.d] := by
                obtain ⟨_, _, c, _⟩ := E6
                refine c.blk HB3.out ?_
                rintro (y | y)
                · have := H2.out.mine.at_.lt; omega
                · have := H2.out.mine.at_.own.lt y; omega
              have hb6 := B6.lt
              have q0 := B6.cell 0 (by simp)
              have q1 := B6.cell 1 (by simp)
              have q2 := B6.cell 2 (by simp)
              rw [HD.out.2.1] at E6
              obtain ⟨v6, t6⟩ := T3.out.step E6
              have T6 := Lib.hid (t6.keep (World.grownBy_alloc w6 (.cells #[.int .i64 x.f, .int .i64 x.t, .string x.d] 33) none))
              clear E6 B6 t6 T3
              unfold Lt.val
              go_wp2_with fail
              go_roundw
              case rel => exact ⟨k + 1, v6, by omega, by go_num, T6.out⟩
              case measure => simp [intOf]; omega
            · obtain rfl : k = n := by omega
              have HD : Hid (L.drop k = []) := by show _ = _; rw [HN.out]; exact List.drop_length
              rw [HD.out] at H2
              have HZ : Hid (takeC [] 0 = 51 ∧ takeR [] 0 = [] ∧ atL [] 0 = ⟨0, 0, ⟨#[]⟩⟩) := ⟨rfl, rfl, rfl⟩
              have hmI : (k : Int) ≤ most := by have := HMI.out; omega
              have dI : decide ((k : Int) ≤ most) = true := decide_eq_true hmI
              go_wp2_with fail
              refine (Take_any 58 w.heap.size v2 [] m 0 _ H2.out.mine.at_).mono ?_
              rintro e w6 ⟨rfl, E6⟩
              rw [HZ.out.1, HZ.out.2.2]
              rw [HZ.out.2.1] at E6
              obtain ⟨v6, t6⟩ := H2.out.step E6
              have T6 := Lib.hid (t6.keep (World.grownBy_alloc w6 (.cells #[.int .i64 0, .int .i64 0, .string ⟨#[]⟩] 33) none))
              clear E6 t6
              unfold Lt.val
              go_wp2_with fail
              refine (Len_any 58 w.heap.size v6 [] m _ T6.out.mine.at_).mono ?_
              rintro e w8 ⟨rfl, rfl⟩
              go_wp2_with fail
              go_ret
              exact ⟨rfl, below_of_none T6.out.mine.grown⟩
  · have G1 := Lib.hid g1
    clear g1
    go_wp2_with fail
    refine (awake06_any w1).mono ?_
    rintro e w3 ⟨rfl, g3⟩
    have G3 := Lib.hid (grow_none G1.out g3)
    clear g3
    go_wp2_with fail
    refine (awake06_any w3).mono ?_
    rintro e w4 ⟨rfl, g4⟩
    go_wp2_with fail
    go_ret
    exact ⟨rfl, below_of_none (grow_none G3.out g4)⟩
end Go.Proofs.Ytpmfgjhkdokcbaa
