/- Stage 5: fixed answers. -/
import Derived.Test.YtgfmmchmkfboaaaDkI
import Derived.Test.YtgfmmchmkfboaaaDkF
namespace Go.Proofs.Ytgfmmchmkfboaaa
open Go.RowKit
set_option linter.unusedVariables false
instance : DecidableEq Ent := fun a b => by
  cases a; cases b
  rw [Ent.mk.injEq]
  exact inferInstance
theorem appD_other (d : Dk) (s x t : ByteArray) (h : t ≠ s) : (appD d s x).F t = d.F t := by
  have e : (stepD d).F = d.F := by unfold stepD; split <;> rfl
  unfold appD
  split
  · rfl
  · split
    · rfl
    · split
      · rw [e]
      · show putE d.F s _ t = _
        unfold putE; rw [if_neg h]
theorem stepOfD_F' (d : Dk) (s t : ByteArray) : (stepOfD d s).F t = d.F t := by
  have e : (stepD d).F = d.F := by unfold stepD; split <;> rfl
  unfold stepOfD
  split
  · rfl
  · split
    · rfl
    · rw [e]
theorem syncD_other (d : Dk) (s t : ByteArray) (h : t ≠ s) : (syncD d s).F t = d.F t := by
  unfold syncD
  split
  · show putE _ s _ t = _
    unfold putE; rw [if_neg h]
  · exact stepOfD_F' d s t
theorem Names.of {w : World} {b mb n : Nat} {G : ByteArray → Option Nat} {d : Dk} {ts : List (List UInt8)} (h : DAt w b mb n G d) (hN : Names G ts) (x : List UInt8) : x ∈ ts ↔ (d.F (nm x)).isSome = true := by
  rw [hN.mem x]
  cases hg : G (nm x) with
  | none => rw [h.non _ hg]; simp
  | some g => obtain ⟨e, he, _⟩ := h.ent _ g hg; rw [he]; simp
def k1 : Dk := appD newD ⟨#[97]⟩ ⟨#[120, 121]⟩
def k2 : Dk := syncD k1 ⟨#[97]⟩
def k3 : Dk := appD k2 ⟨#[97]⟩ ⟨#[122]⟩
def k4 : Dk := crashD k3 [1] [[97]]
def k5 : Dk := fuseD k4 1
def k6 : Dk := appD k5 ⟨#[98]⟩ ⟨#[113]⟩
def k7 : Dk := syncD k6 ⟨#[98]⟩
theorem k_facts : appC newD ⟨#[97]⟩ ⟨#[120, 121]⟩ = 0 ∧ stepOfC k1 ⟨#[97]⟩ = 0 ∧ appC k2 ⟨#[97]⟩ ⟨#[122]⟩ = 0 ∧ readR k4 ⟨#[97]⟩ = (⟨#[120, 121, 122]⟩, true) ∧ appC k5 ⟨#[98]⟩ ⟨#[113]⟩ = 0 ∧ stepOfC k6 ⟨#[98]⟩ = 50 ∧ k7.down = true ∧ appC k7 ⟨#[65]⟩ ⟨#[]⟩ = 1 ∧ appD k7 ⟨#[65]⟩ ⟨#[]⟩ = k7 ∧ k7.steps = 4 := by
  refine ⟨by decide +kernel, by decide +kernel, by decide +kernel, by decide +kernel, by decide +kernel, by decide +kernel, by decide +kernel, by decide +kernel, ?_, by decide +kernel⟩
  unfold appD
  rw [if_pos (by decide +kernel)]
theorem k_steps : k1.steps = 1 ∧ k2.steps = 2 ∧ k3.steps = 3 ∧ k4.steps = 3 ∧ k5.steps = 3 ∧ k6.steps = 4 := by decide +kernel
theorem k3_names {w : World} {b mb n : Nat} {G : ByteArray → Option Nat} {ts : List (List UInt8)} (h : DAt w b mb n G k3) (hN : Names G ts) : ts = [[97]] := by
  have hm : ∀ x, x ∈ ts ↔ x = [97] := fun x => by
    rw [Names.of h hN x]
    by_cases e : x = [97]
    · subst e
      have : (k3.F (nm [97])).isSome = true := by decide +kernel
      simp [this]
    · have hne : nm x ≠ ⟨#[97]⟩ := fun y => e (nm_inj (y : nm x = nm [97]))
      have : k3.F (nm x) = none := by
        unfold k3; rw [appD_other _ _ _ _ hne]
        unfold k2; rw [syncD_other _ _ _ hne]
        unfold k1; rw [appD_other _ _ _ _ hne]; rfl
      rw [this]; simp [e]
  have hnd := hN.nodup
  match ts, hm, hnd with
  | [], hm, _ => have := (hm [97]).2 rfl; cases this
  | [a], hm, _ => rw [(hm a).1 (by simp)]
  | a :: c :: r, hm, hnd =>
    have h1 := (hm a).1 (by simp)
    have h2 := (hm c).1 (by simp)
    subst h1
    subst h2
    simp at hnd
theorem DEnd.fresh {w w1 w2 : World} {b mb n : Nat} {d : Dk} (h : DEnd b mb (fun _ => none) n d w1 w2) (g : w.grownBy w1 none) (hb : w.heap.size ≤ b) (hm : w.heap.size ≤ mb) : w.grownBy w2 none := by
  obtain ⟨G', _, c, _⟩ := h
  refine ((Chg.of_none g (S := DS b mb (fun _ => none))).trans c (fun _ _ x => x)).none fun i hi hs => ?_
  rcases hs with y | y | ⟨t, y⟩
  · omega
  · omega
  · cases y
set_option maxRecDepth 100000 in
set_option maxHeartbeats 4000000 in
theorem awake_any (w : World) : Calls Try.prog 9 #[] w fun e w' => e = .returned (.bool true) ∧ w.grownBy w' none := by
  have KF := Lib.hid k_facts
  have KS := Lib.hid k_steps
  go_enter Try.func9, Try.ntmps9
  go_wp2_with fail
  refine (New_any w).mono ?_
  rintro e w1 ⟨rfl, h1, g1⟩
  obtain ⟨b, hb⟩ : ∃ b, b = w.heap.size + 1 := ⟨_, rfl⟩
  obtain ⟨mb, hmb⟩ : ∃ mb, mb = w.heap.size := ⟨_, rfl⟩
  rw [← hb, ← hmb] at h1
  rw [← hb]
  have HBB : Hid (w.heap.size ≤ b ∧ w.heap.size ≤ mb) := ⟨by omega, by omega⟩
  have G1 := Lib.hid g1
  have E1 := Lib.hid (DEnd.same h1 (grow_refl w1 none))
  have H1 := Lib.hid h1
  clear h1 g1 hb hmb
  go_wp2_with fail
  refine (Append_any b mb 0 _ newD ⟨#[97]⟩ ⟨#[120, 121]⟩ w1 H1.out (by decide) (by decide) (by decide) (by decide)).mono ?_
  rintro e w2 ⟨rfl, n2, hn2, hE2⟩
  rw [KF.out.1]
  have E2 : Hid (DEnd b mb (fun _ => none) n2 k1 w1 w2) := hE2
  have N2 := Lib.hid hn2
  clear hE2 hn2
  obtain ⟨A2, h2, c2, x2⟩ := E2.out
  have H2 := Lib.hid h2
  have C2 := Lib.hid (show _ ∧ _ from ⟨c2, x2⟩)
  clear h2 c2 x2
  go_wp2_with fail
  refine (Sync_any b mb n2 A2 k1 ⟨#[97]⟩ w2 H2.out (by decide) (by rw [KS.out.1]; decide)).mono ?_
  rintro e w3 ⟨rfl, hE3⟩
  rw [KF.out.2.1]
  have E3 : Hid (DEnd b mb (fun _ => none) n2 k2 w1 w3) := DEnd.after C2.out.1 C2.out.2 hE3
  clear hE3
  obtain ⟨A3, h3, c3, x3⟩ := E3.out
  have H3 := Lib.hid h3
  have C3 := Lib.hid (show _ ∧ _ from ⟨c3, x3⟩)
  clear h3 c3 x3
  go_wp2_with fail
  refine (Append_any b mb n2 A3 k2 ⟨#[97]⟩ ⟨#[122]⟩ w3 H3.out (by decide) (by decide) (by rw [KS.out.2.1]; decide) (by have := N2.out; omega)).mono ?_
  rintro e w4 ⟨rfl, n4, hn4, hE4⟩
  rw [KF.out.2.2.1]
  have E4 : Hid (DEnd b mb (fun _ => none) n4 k3 w1 w4) := DEnd.after C3.out.1 C3.out.2 hE4
  have N4 : Hid (n4 ≤ 2) := by have := N2.out; show _ ≤ _; omega
  clear hE4 hn4
  obtain ⟨A4, h4, c4, x4⟩ := E4.out
  have H4 := Lib.hid (h4.keep (World.grownBy_alloc w4 (.cells #[.int .i64 1] 3) none))
  have C4 := Lib.hid (show _ ∧ _ from ⟨c4, x4⟩)
  have HR4 : Hid (RowN (DS b mb A4) (w4.alloc (.cells #[.int .i64 1] 3)) (.slice (some ⟨w4.heap.size, 0, none⟩) 1 1) (ints [1])) := by
    refine ⟨_, 1, rfl, by simp, .inr ⟨w4.heap.size, 0, rfl, by simp, fun hs => by have := h4.live _ hs; omega, fun j hj => ?_⟩⟩
    have : j = 0 := by simpa using hj
    subst this
    exact Blk.cell (Blk.new w4 3 [.int .i64 1]) 0 (by simp)
  clear h4 c4 x4
  go_wp2_with fail
  refine (Crash_any b mb n4 A4 k3 [1] _ _ H4.out HR4.out).mono ?_
  rintro e w5 ⟨rfl, ts, hN, hl, hE5⟩
  obtain rfl : ts = [[97]] := k3_names H4.out hN
  have E5 : Hid (DEnd b mb (fun _ => none) n4 k4 w1 w5) := DEnd.after C4.out.1 C4.out.2 (DEnd.front (World.grownBy_alloc w4 (.cells #[.int .i64 1] 3) none) hE5)
  clear hE5 hN hl
  obtain ⟨A5, h5, c5, x5⟩ := E5.out
  have H5 := Lib.hid h5
  have C5 := Lib.hid (show _ ∧ _ from ⟨c5, x5⟩)
  clear h5 c5 x5
  go_wp2_with fail
  refine (Read_any b mb n4 A5 k4 ⟨#[97]⟩ w5 H5.out (by decide)).mono ?_
  rintro e w6 ⟨rfl, g6⟩
  rw [KF.out.2.2.2.1]
  have H6 := Lib.hid (H5.out.keep g6)
  have E6 := Lib.hid (DEnd.back E5.out g6)
  have C6 : Hid (Chg (DS b mb (fun _ => none)) w1 w6 ∧ ∀ s g, A5 s = some g → (∃ t, (fun _ => none : ByteArray → Option Nat) t = some g) ∨ w1.heap.size ≤ g) := ⟨C5.out.1.trans (Chg.of_none (S := DS b mb (fun _ => none)) g6) (fun _ _ x => x), C5.out.2⟩
  clear g6
  go_wp2_with fail
  refine (Fuse_any b mb n4 A5 k4 1 w6 H6.out (by omega)).mono ?_
  rintro e w7 ⟨rfl, hE7⟩
  have E7 : Hid (DEnd b mb (fun _ => none) n4 k5 w1 w7) := DEnd.after C6.out.1 C6.out.2 hE7
  clear hE7
  obtain ⟨A7, h7, c7, x7⟩ := E7.out
  have H7 := Lib.hid h7
  have C7 := Lib.hid (show _ ∧ _ from ⟨c7, x7⟩)
  clear h7 c7 x7
  go_wp2_with fail
  refine (Append_any b mb n4 A7 k5 ⟨#[98]⟩ ⟨#[113]⟩ w7 H7.out (by decide) (by decide) (by rw [KS.out.2.2.2.2.1]; decide) (by have := N4.out; omega)).mono ?_
  rintro e w8 ⟨rfl, n8, hn8, hE8⟩
  rw [KF.out.2.2.2.2.1]
  have E8 : Hid (DEnd b mb (fun _ => none) n8 k6 w1 w8) := DEnd.after C7.out.1 C7.out.2 hE8
  have N8 : Hid (n8 ≤ 3) := by have := N4.out; show _ ≤ _; omega
  clear hE8 hn8
  obtain ⟨A8, h8, c8, x8⟩ := E8.out
  have H8 := Lib.hid h8
  have C8 := Lib.hid (show _ ∧ _ from ⟨c8, x8⟩)
  clear h8 c8 x8
  go_wp2_with fail
  refine (Sync_any b mb n8 A8 k6 ⟨#[98]⟩ w8 H8.out (by decide) (by rw [KS.out.2.2.2.2.2]; decide)).mono ?_
  rintro e w9 ⟨rfl, hE9⟩
  rw [KF.out.2.2.2.2.2.1]
  have E9 : Hid (DEnd b mb (fun _ => none) n8 k7 w1 w9) := DEnd.after C8.out.1 C8.out.2 hE9
  clear hE9
  obtain ⟨A9, h9, c9, x9⟩ := E9.out
  have H9 := Lib.hid h9
  have C9 := Lib.hid (show _ ∧ _ from ⟨c9, x9⟩)
  clear h9 c9 x9
  go_wp2_with fail
  refine (Down_any b mb n8 A9 k7 w9 H9.out).mono ?_
  rintro e w10 ⟨rfl, rfl⟩
  rw [KF.out.2.2.2.2.2.2.1]
  go_wp2_with fail
  refine (Append_any b mb n8 A9 k7 ⟨#[65]⟩ ⟨#[]⟩ w9 H9.out (by decide) (by decide) (by rw [KF.out.2.2.2.2.2.2.2.2.2]; decide) (by have := N8.out; omega)).mono ?_
  rintro e w11 ⟨rfl, n11, hn11, hE11⟩
  rw [KF.out.2.2.2.2.2.2.2.1]
  rw [KF.out.2.2.2.2.2.2.2.2.1] at hE11
  have E11 : Hid (DEnd b mb (fun _ => none) n11 k7 w1 w11) := DEnd.after C9.out.1 C9.out.2 hE11
  clear hE11 hn11
  obtain ⟨A11, h11, c11, x11⟩ := E11.out
  have H11 := Lib.hid h11
  clear h11 c11 x11
  go_wp2_with fail
  refine (Steps_any b mb n11 A11 k7 w11 H11.out).mono ?_
  rintro e w12 ⟨rfl, rfl⟩
  rw [KF.out.2.2.2.2.2.2.2.2.2]
  go_wp2_with fail
  go_ret
  exact ⟨rfl, E11.out.fresh G1.out HBB.out.1 HBB.out.2⟩
end Go.Proofs.Ytgfmmchmkfboaaa
