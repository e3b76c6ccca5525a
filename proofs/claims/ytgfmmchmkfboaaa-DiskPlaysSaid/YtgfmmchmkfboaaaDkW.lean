/- Stage 5: a call of a drive, bits that turn with it. -/
import Derived.Test.YtgfmmchmkfboaaaDkV
namespace Go.Proofs.Ytgfmmchmkfboaaa
open Go.RowKit
set_option linter.unusedVariables false
def DidR6 (d : Dk) (o : Oc) (ks : List Int) (c : Int) (d' : Dk) : Prop := DidR d o ks c d' ∨ (o.kind = 6 ∧ c = flipC d o.name o.num ∧ d' = flipD d o.name o.num)
def DidE6 (b mb n : Nat) (G : ByteArray → Option Nat) (d : Dk) (o : Oc) (ks : List Int) (w : World) (e : Ending) (w' : World) : Prop :=
  ∃ c d' n', e = .returned (.tuple #[.pointer (some ⟨b, 0, none⟩), .int .i64 c]) ∧ n' ≤ n + 1 ∧ DidR6 d o ks c d' ∧ DEnd b mb G n' d' w w'
set_option maxRecDepth 100000 in
set_option maxHeartbeats 2000000 in
theorem did6_any (b mb n : Nat) (G : ByteArray → Option Nat) (d : Dk) (o : Oc) (ks : List Int) (w : World) (h : DAt w b mb n G d) (hok : OcOk w o ks) (hsm : ks.length ≤ 8192) (hk : o.kind < 7) (hst : d.steps < 1000000) (hn : n < 1000000) :
    Calls Try.prog 13 #[.pointer (some ⟨b, 0, none⟩), o.val] w (DidE6 b mb n G d o ks w) := by
  by_cases h6 : o.kind < 6
  · refine (did_any b mb n G d o ks w h hok hsm h6 hst hn).mono ?_
    rintro e w' ⟨c, d', n', h1, h2, h3, h4⟩
    exact ⟨c, d', n', h1, h2, .inl h3, h4⟩
  · obtain ⟨kd, nme, dta, num, kp⟩ := o
    obtain ⟨an, cn, en⟩ := rowAt_len hok.row
    rw [List.length_map] at en
    dsimp only at en hk h6
    subst en
    obtain rfl : kd = 6 := by omega
    have HOK := Lib.hid hok
    have H2 := Lib.hid (h.keep (World.grownBy_alloc w (.cells #[.int .i64 6, .string nme, .string dta, .int .i64 num, .slice an ks.length cn] 31) none))
    clear hok hsm hk h6 hst hn h
    unfold Oc.val
    unfold DidE6
    go_enter Try.func13, Try.ntmps13
    go_wp2_with fail
    refine (Flip_any b mb n G d nme num _ H2.out HOK.out.nml HOK.out.nm2).mono ?_
    rintro e w1 ⟨rfl, hE⟩
    have HE := Lib.hid hE
    clear hE
    go_wp2_with fail
    go_ret2
    exact ⟨_, _, n, rfl, by omega, .inr ⟨rfl, rfl, rfl⟩, DEnd.front (World.grownBy_alloc w (.cells #[.int .i64 6, .string nme, .string dta, .int .i64 num, .slice an ks.length cn] 31) none) HE.out⟩
end Go.Proofs.Ytgfmmchmkfboaaa
