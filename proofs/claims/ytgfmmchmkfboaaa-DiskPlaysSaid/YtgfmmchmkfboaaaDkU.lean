/- Stage 5: Flip. -/
import Derived.Test.YtgfmmchmkfboaaaDkT
namespace Go.Proofs.Ytgfmmchmkfboaaa
open Go.RowKit
set_option linter.unusedVariables false
theorem turnB_size (s : ByteArray) (a j : Nat) (h : a < s.size) : (turnB s a j).size = s.size := by
  unfold turnB
  simp only [ByteArray.size_append, ByteArray.size_extract]
  show min a s.size - 0 + 1 + (min s.size s.size - (a + 1)) = s.size
  omega
theorem turnE_sz (e : Ent) (i : Nat) (h : i / 8 < e.sz) : (turnE e i).sz = e.sz := by
  unfold turnE
  split
  · rename_i hl
    show (turnB e.l _ _).size + e.w.size = e.l.size + e.w.size
    rw [turnB_size _ _ _ hl]
  · rename_i hl
    show e.l.size + (turnB e.w _ _).size = e.l.size + e.w.size
    rw [turnB_size _ _ _ (by unfold Ent.sz at h; omega)]
def flipC (d : Dk) (s : ByteArray) (k : Int) : Int := match d.F s with | none => 51 | some e => if k < 0 ∨ e.sz ≤ k.toNat / 8 then 1 else 0
def flipD (d : Dk) (s : ByteArray) (k : Int) : Dk := match d.F s with | none => d | some e => if k < 0 ∨ e.sz ≤ k.toNat / 8 then d else { d with F := putE d.F s (some (turnE e k.toNat)) }
set_option maxRecDepth 100000 in
set_option maxHeartbeats 2000000 in
theorem Flip_any (b mb n : Nat) (G : ByteArray → Option Nat) (d : Dk) (s : ByteArray) (k : Int) (w : World) (h : DAt w b mb n G d) (hs : s.size ≤ maxLen) (hk : k ≤ 9223372036854775807) :
    Calls Try.prog 30 #[.pointer (some ⟨b, 0, none⟩), .string s, .int .i64 k] w fun e w' => e = .returned (.int .i64 (flipC d s k)) ∧ DEnd b mb G n (flipD d s k) w w' := by
  have c0 := h.c0
  have hlk := h.map.look s hs
  have H := Lib.hid h
  cases hg : G s with
  | none =>
    have HC : Hid (flipC d s k = 51 ∧ flipD d s k = d) := by show _ ∧ _; unfold flipC flipD; rw [h.non s hg]; exact ⟨rfl, rfl⟩
    rw [hg] at hlk
    unfold Pp at hlk
    clear hg h hs
    go_enter Try.func30, Try.ntmps30
    go_wp2_with fail
    go_ret
    exact ⟨by rw [HC.out.1]; rfl, by rw [HC.out.2]; exact DEnd.same H.out (grow_refl _ _)⟩
  | some g =>
    obtain ⟨e, he, hb, hz⟩ := h.ent s g hg
    rw [hg] at hlk
    unfold Pp at hlk
    have HG := Lib.hid hg
    have HB := Lib.hid hb
    have HZ := Lib.hid hz
    have SZ := Lib.hid (size_any g e w hb hz)
    by_cases h0 : k < 0
    · have HC : Hid (flipC d s k = 1 ∧ flipD d s k = d) := by
        show _ ∧ _; unfold flipC flipD; rw [he]
        exact ⟨if_pos (.inl h0), if_pos (.inl h0)⟩
      have d1 : decide (k < 0) = true := decide_eq_true h0
      clear hg h hs hb hz he
      go_enter Try.func30, Try.ntmps30
      go_wp2_with fail
      go_ret
      exact ⟨by rw [HC.out.1]; rfl, by rw [HC.out.2]; exact DEnd.same H.out (grow_refl _ _)⟩
    · obtain ⟨i, rfl⟩ : ∃ i : Nat, k = (i : Int) := ⟨k.toNat, by omega⟩
      have d1 : decide ((i : Int) < 0) = false := decide_eq_false h0
      obtain ⟨a, ha⟩ : ∃ a, a = i / 8 := ⟨_, rfl⟩
      have q1 : (i : Int).tdiv 8 = (a : Int) := by rw [Int.tdiv_eq_ediv_of_nonneg (by omega)]; omega
      have q2 : (i : Int) / 8 = (a : Int) := by omega
      have wa : IntKind.i64.wrap (a : Int) = (a : Int) := by rw [IntKind.wrap_i64]; omega
      by_cases hsz : e.sz ≤ a
      · have HC : Hid (flipC d s (i : Int) = 1 ∧ flipD d s (i : Int) = d) := by
          show _ ∧ _; unfold flipC flipD; rw [he]
          have : (i : Int) < 0 ∨ e.sz ≤ (i : Int).toNat / 8 := .inr (by rw [Int.toNat_natCast, ← ha]; exact hsz)
          exact ⟨if_pos this, if_pos this⟩
        have d2 : decide ((e.sz : Int) ≤ (a : Int)) = true := decide_eq_true (by omega)
        have d3 : (e.sz : Int) ≤ (a : Int) := by omega
        clear hg h hs hb hz he ha hsz h0 hk
        go_enter Try.func30, Try.ntmps30
        go_wp2_with fail
        refine SZ.out.mono ?_
        rintro en w1 ⟨rfl, g1⟩
        have G1 := Lib.hid g1
        clear g1
        go_wp2_with fail
        go_ret
        exact ⟨by rw [HC.out.1]; rfl, by rw [HC.out.2]; exact DEnd.same H.out G1.out⟩
      · have HC : Hid (flipC d s (i : Int) = 0 ∧ flipD d s (i : Int) = { d with F := putE d.F s (some (turnE e i)) }) := by
          show _ ∧ _; unfold flipC flipD; rw [he]
          have : ¬ ((i : Int) < 0 ∨ e.sz ≤ (i : Int).toNat / 8) := fun x => by rcases x with x | x; (exact h0 x); (rw [Int.toNat_natCast, ← ha] at x; exact hsz x)
          exact ⟨if_neg this, if_neg this⟩
        have d2 : decide ((e.sz : Int) ≤ (a : Int)) = false := decide_eq_false (by omega)
        have d3 : ¬ (e.sz : Int) ≤ (a : Int) := by omega
        have HI : Hid (i / 8 < e.sz) := by show _ < _; omega
        clear hg h hs hb hz he ha hsz h0 hk
        go_enter Try.func30, Try.ntmps30
        go_wp2_with fail
        refine SZ.out.mono ?_
        rintro en w1 ⟨rfl, g1⟩
        have G1 := Lib.hid g1
        clear g1
        go_wp2_with fail
        refine (turn_any g e i w1 (Blk.keep HB.out G1.out) HZ.out HI.out).mono ?_
        rintro en w2 ⟨rfl, hb2, g2⟩
        have HB2 := Lib.hid hb2
        have G2 := Lib.hid g2
        clear hb2 g2
        go_wp2_with fail
        go_ret
        exact ⟨by rw [HC.out.1]; rfl, by rw [HC.out.2]; exact DEnd.file H.out s g HG.out (turnE e i) HB2.out (by rw [turnE_sz e i HI.out]; exact HZ.out) (grow_none G1.out G2.out)⟩
end Go.Proofs.Ytgfmmchmkfboaaa
