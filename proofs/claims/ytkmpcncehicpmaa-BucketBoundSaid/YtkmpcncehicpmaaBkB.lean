/- What the package bucket does, and what the document's bucket does: the rest. -/
import Derived.Test.YtkmpcncehicpmaaBkA
namespace Go.Proofs.Ytkmpcncehicpmaa
open Go.RowKit
set_option linter.unusedVariables false
set_option maxRecDepth 100000 in
theorem Tick_nil (w : World) : Calls Try.prog 73 #[.pointer none] w fun e w' => e = .returned (.tuple #[]) ∧ w = w' := by
  go_enter Try.func73, Try.ntmps73
  go_wp2
  go_end0
  exact ⟨rfl, rfl⟩
set_option maxRecDepth 100000 in
theorem refTick_any (b : Nat) (r u h : Int) (w : World) (x : Bk 100 w b r u h) (o : BOk r u h) :
    Calls Try.prog 74 #[.pointer (some ⟨b, 0, none⟩)] w fun e w' => e = .returned (.tuple #[]) ∧ Bk 100 w' b r u (tickH r u h) ∧ w.grownBy w' (some b) := by
  have c0 := x.c0
  have c1 := x.c1
  have c2 := x.c2
  have f2 := x.fr 2
  obtain ⟨o1, o2, o3, o4, o5, o6⟩ := o
  have ho : h ≤ 16384 := by omega
  by_cases hm : h + r ≤ u
  · have ht : Hid (tickH r u h = h + r) := by show _ = _; unfold tickH; rw [if_pos hm]
    go_enter Try.func74, Try.ntmps74
    go_wp2
    go_region
    all_goals
      go_wp2
      go_end0
      exact ⟨rfl, by rw [ht.out]; exact (x.set2 _).drew, grow_drawn (grow_set _ _ _)⟩
  · have ht : Hid (tickH r u h = u) := by show _ = _; unfold tickH; rw [if_neg hm]
    have hm' : u < h + r := by omega
    go_enter Try.func74, Try.ntmps74
    go_wp2
    go_region
    all_goals
      go_wp2
      go_end0
      exact ⟨rfl, by rw [ht.out]; exact (x.set2 _).drew, grow_drawn (grow_set _ _ _)⟩
set_option maxRecDepth 100000 in
theorem Left_any (b : Nat) (r u h : Int) (w : World) (x : Bk 148 w b r u h) :
    Calls Try.prog 72 #[.pointer (some ⟨b, 0, none⟩)] w fun e w' => e = .returned (.int .i64 h) ∧ w = w' := by
  have c2 := x.c2
  go_enter Try.func72, Try.ntmps72
  go_wp2
  go_ret
  exact ⟨rfl, rfl⟩
set_option maxRecDepth 100000 in
theorem Left_nil (w : World) : Calls Try.prog 72 #[.pointer none] w fun e w' => e = .returned (.int .i64 0) ∧ w = w' := by
  go_enter Try.func72, Try.ntmps72
  go_wp2
  go_ret
  exact ⟨rfl, rfl⟩
set_option maxRecDepth 100000 in
theorem Copy_nil (w : World) : Calls Try.prog 69 #[.pointer none] w fun e w' => e = .returned (.pointer none) ∧ w.grownBy w' none := by
  go_enter Try.func69, Try.ntmps69
  go_wp2
  go_ret
  exact ⟨rfl, grow_refl _ _⟩
set_option maxRecDepth 100000 in
theorem Copy_any (b : Nat) (r u h : Int) (w : World) (x : Bk 148 w b r u h) :
    Calls Try.prog 69 #[.pointer (some ⟨b, 0, none⟩)] w fun e w' => ∃ g, e = .returned (.pointer (some ⟨g, 0, none⟩)) ∧ w.heap.size ≤ g ∧ Bk 148 w' g r u h ∧ w.grownBy w' none := by
  have c0 := x.c0
  have c1 := x.c1
  have c2 := x.c2
  go_enter Try.func69, Try.ntmps69
  go_wp2
  go_ret
  exact ⟨_, rfl, Nat.le_refl _, Blk.new _ _ [.int .i64 r, .int .i64 u, .int .i64 h], World.grownBy_alloc _ _ _⟩
set_option maxRecDepth 100000 in
theorem Take_nil (v : Value) (w : World) : Calls Try.prog 70 #[.pointer none, v] w fun e w' => e = .returned (.int .i64 0) ∧ w = w' := by
  go_enter Try.func70, Try.ntmps70
  go_wp2
  go_ret
  exact ⟨rfl, rfl⟩
/-- What holds ahead of the round k of a taking. -/
def TakeAt (t : TypeId) (l : List Int) (r u h : Int) (b : Nat) (w0 : World) (k : Nat) (w : World) : Prop :=
  ∃ h', Bk t w b r u h' ∧ 0 ≤ h' ∧ h' ≤ 16384 ∧ takeN l h = takeN (l.drop k) h' + k ∧ takeL l h = takeL (l.drop k) h' ∧ w0.grownBy w (some b)
set_option maxRecDepth 100000 in
set_option maxHeartbeats 1000000 in
theorem Take_any (b : Nat) (r u h : Int) (v : Value) (l : List Int) (w : World) (x : Bk 148 w b r u h) (o : BOk r u h) (hr : RowAt w v (l.map (Value.int .i64))) (hl : l.length ≤ maxLen) (hne : ∀ bb off n c, v = .slice (some ⟨bb, off, none⟩) n c → 0 < n → bb ≠ b)
    (hw : ∀ n ∈ l, -9223372036854775808 ≤ n ∧ n ≤ 9223372036854775807) :
    Calls Try.prog 70 #[.pointer (some ⟨b, 0, none⟩), v] w fun e w' => e = .returned (.int .i64 (takeN l h : Nat)) ∧ Bk 148 w' b r u (takeL l h) ∧ w.grownBy w' (some b) := by
  obtain ⟨a, c, rfl⟩ := hr.len
  rw [List.length_map] at hr hne ⊢
  unfold maxLen at hl
  have hl' : (l.length : Int) ≤ 9223372036854775807 := by omega
  have HW := Lib.hid hw
  have HNE := Lib.hid hne
  have t0 : TakeAt 148 l r u h b w 0 w := ⟨h, x, o.h1, by have := o.h2; have := o.u2; omega, rfl, rfl, grow_refl _ _⟩
  have o' := o
  obtain ⟨o1, o2, o3, o4, o5, o6⟩ := o
  clear hl hw hne
  go_enter Try.func70, Try.ntmps70
  go_wp2
  go_loopw [11] (fun i wr => ∃ k : Nat, i = .int .i64 k ∧ k ≤ l.length ∧ TakeAt 148 l r u h b w k wr) (fun i _ => l.length - (intOf i).toNat)
  case atStart => exact ⟨0, rfl, Nat.zero_le _, t0⟩
  case round =>
    obtain ⟨k, rfl, hk, h', hx, hh0, hh1, hN, hL, hg⟩ := hrel
    have HN := Lib.hid hN
    have HL := Lib.hid hL
    clear t0 hN hL
    by_cases hlt : k < l.length
    · obtain ⟨bb, off, rfl, hcell0, hbb⟩ := row_i64 hr hlt
      have hbn := HNE.out _ _ _ _ rfl (by omega)
      obtain ⟨s, hs⟩ : ∃ s, s = l.getD k 0 := ⟨_, rfl⟩
      have hsb := HW.out (l.getD k 0) (by rw [List.getD, List.getElem?_eq_getElem hlt]; exact List.getElem_mem hlt)
      rw [← hs] at hcell0 hsb
      have hcell : wr.cell? ⟨bb, off + k, none⟩ = some (.int .i64 s) := by
        rw [← hcell0]; exact World.cell?_of_block (hg.block bb hbb (by intro e; injection e with e; exact hbn e))
      have HS := Lib.hid hs
      have c2 := hx.c2
      have f2 := hx.fr 2
      have hlti : (k : Int) < l.length := by omega
      obtain ⟨hsb1, hsb2⟩ := hsb
      clear hs hcell0
      by_cases h1 : s < 0
      · have h1' : decide (s < 0) = true := by simpa using h1
        have HE := Lib.hid (take_stop l h k h' hlt HN.out HL.out (by rw [← HS.out]; exact .inl h1))
        go_wp2
        go_ret
        exact ⟨by rw [HE.out.1]; rfl, by rw [HE.out.2]; exact hx, hg⟩
      · have h1' : decide (s < 0) = false := by simpa using h1
        by_cases h2 : h' < s
        · have h2' : decide (h' < s) = true := by simpa using h2
          have HE := Lib.hid (take_stop l h k h' hlt HN.out HL.out (by rw [← HS.out]; exact .inr h2))
          go_wp2
          go_ret
          exact ⟨by rw [HE.out.1]; rfl, by rw [HE.out.2]; exact hx, hg⟩
        · have h2' : decide (h' < s) = false := by simpa using h2
          have hs0 : 0 ≤ s := by omega
          have hs1 : s ≤ h' := by omega
          have HE := Lib.hid (take_step l h k h' hlt HN.out HL.out (by rw [← HS.out]; omega))
          go_wp2
          go_roundw
          case rel => exact ⟨k + 1, by go_num, by omega, h' - s, hx.set2 _, by omega, by omega, by rw [HS.out]; exact HE.out.1, by rw [HS.out]; exact HE.out.2, grow_same hg (grow_set _ _ _)⟩
          case measure => simp [intOf]; omega
    · obtain rfl : k = l.length := by omega
      have HE := Lib.hid (take_end l h h' HN.out HL.out)
      go_wp2
      go_ret
      exact ⟨by rw [HE.out.1]; rfl, by rw [HE.out.2]; exact hx, hg⟩
end Go.Proofs.Ytkmpcncehicpmaa
