/- Stage 5: a full file: pure facts. -/
import Derived.Test.YtgfmmchmkfboaaaDkJ
namespace Go.Proofs.Ytgfmmchmkfboaaa
open Go.RowKit
set_option linter.unusedVariables false
def zeros (k : Nat) : ByteArray := ⟨(List.replicate k (0 : UInt8)).toArray⟩
theorem zeros_size (k : Nat) : (zeros k).size = k := by unfold zeros; show (List.replicate k (0 : UInt8)).toArray.size = _; rw [List.size_toArray, List.length_replicate]
abbrev sF : ByteArray := ⟨#[102]⟩
def full1 (m : Nat) : Dk := appD newD sF (zeros (1048576 - m))
def full3 (m : Nat) : Dk := appD (full1 m) sF (zeros m)
theorem putE_here (F : ByteArray → Option Ent) (s : ByteArray) (e : Option Ent) : putE F s e s = e := if_pos rfl
theorem nameF : nameB sF = true := by decide +kernel
theorem ref_up {d : Dk} (h : d.down = false) : refC d sF = 0 := by unfold refC; rw [nameF, h]; rfl
theorem stepC_up {d : Dk} (h : d.lit = false) : stepC d = 0 ∧ stepD d = { d with steps := d.steps + 1 } := by
  unfold stepC stepD; rw [h]; exact ⟨rfl, by simp⟩
theorem app_ok {d : Dk} {x : ByteArray} (h1 : d.down = false) (h2 : d.lit = false) (hx : x.size + (entOf d sF).sz ≤ 1048576) :
    appC d sF x = 0 ∧ appD d sF x = ⟨putE d.F sF (some ⟨(entOf d sF).l, (entOf d sF).w ++ x, (entOf d sF).s⟩), d.lit, d.fuse, d.down, d.steps + 1⟩ := by
  have hr := ref_up h1
  have hs := stepC_up h2
  refine ⟨?_, ?_⟩
  · unfold appC; rw [if_neg (fun y => y hr), if_neg (by omega), hs.1]
  · unfold appD; rw [if_neg (fun y => y hr), if_neg (by omega), if_neg (fun y => y hs.1), hs.2]
theorem app_full {d : Dk} {x : ByteArray} (h1 : d.down = false) (hx : 1048576 < x.size + (entOf d sF).sz) : appC d sF x = 52 ∧ appD d sF x = d := by
  have hr := ref_up h1
  refine ⟨?_, ?_⟩
  · unfold appC; rw [if_neg (fun y => y hr), if_pos hx]
  · unfold appD; rw [if_neg (fun y => y hr), if_pos hx]
theorem full_facts (m : Nat) (hm : m < 1000) : appC newD sF (zeros (1048576 - m)) = 0 ∧ appC (full1 m) sF (zeros (m + 1)) = 52 ∧ appD (full1 m) sF (zeros (m + 1)) = full1 m ∧ appC (full1 m) sF (zeros m) = 0 ∧ appC (full3 m) sF ⟨#[120]⟩ = 52 ∧ appD (full3 m) sF ⟨#[120]⟩ = full3 m ∧
    (∃ r, readR (full3 m) sF = (r, true) ∧ r.size = 1048576) ∧ (full1 m).steps = 1 ∧ (full3 m).steps = 2 := by
  have e0 : entOf newD sF = noE := rfl
  have s0 : noE.sz = 0 := rfl
  have a1 := app_ok (d := newD) (x := zeros (1048576 - m)) rfl rfl (by rw [e0, s0, zeros_size]; omega)
  have f1 : full1 m = ⟨putE newD.F sF (some ⟨⟨#[]⟩, ⟨#[]⟩ ++ zeros (1048576 - m), false⟩), false, 0, false, 1⟩ := a1.2
  have e1 : entOf (full1 m) sF = ⟨⟨#[]⟩, ⟨#[]⟩ ++ zeros (1048576 - m), false⟩ := by
    rw [f1]; unfold entOf; rw [show (Dk.mk (putE newD.F sF (some ⟨⟨#[]⟩, ⟨#[]⟩ ++ zeros (1048576 - m), false⟩)) false 0 false 1).F sF = some ⟨⟨#[]⟩, ⟨#[]⟩ ++ zeros (1048576 - m), false⟩ from by dsimp only; exact putE_here _ _ _]; rfl
  have s1 : (entOf (full1 m) sF).sz = 1048576 - m := by
    rw [e1]; unfold Ent.sz; simp only [ByteArray.size_append, zeros_size]
    show 0 + (0 + _) = _; omega
  have d1 : (full1 m).down = false := by rw [f1]
  have l1 : (full1 m).lit = false := by rw [f1]
  have a2 := app_full (d := full1 m) (x := zeros (m + 1)) d1 (by rw [s1, zeros_size]; omega)
  have a3 := app_ok (d := full1 m) (x := zeros m) d1 l1 (by rw [s1, zeros_size]; omega)
  have f3 : full3 m = ⟨putE (full1 m).F sF (some ⟨(entOf (full1 m) sF).l, (entOf (full1 m) sF).w ++ zeros m, (entOf (full1 m) sF).s⟩), (full1 m).lit, (full1 m).fuse, (full1 m).down, (full1 m).steps + 1⟩ := a3.2
  have e3 : (full3 m).F sF = some ⟨(entOf (full1 m) sF).l, (entOf (full1 m) sF).w ++ zeros m, (entOf (full1 m) sF).s⟩ := by
    rw [f3]; dsimp only; exact putE_here _ _ _
  have s3 : (entOf (full3 m) sF).sz = 1048576 := by
    unfold entOf; rw [e3]
    show Ent.sz ⟨_, _, _⟩ = _
    unfold Ent.sz at s1 ⊢
    simp only [ByteArray.size_append, zeros_size]
    omega
  have d3 : (full3 m).down = false := by rw [f3]; exact d1
  have a4 := app_full (d := full3 m) (x := ⟨#[120]⟩) d3 (by rw [s3]; show _ < 1 + _; omega)
  refine ⟨a1.1, a2.1, a2.2, a3.1, a4.1, a4.2, ⟨(entOf (full3 m) sF).l ++ (entOf (full3 m) sF).w, ?_, ?_⟩, by rw [f1], by rw [f3, f1]⟩
  · unfold readR; rw [if_neg (by rw [d3]; simp), e3]; unfold entOf; rw [e3]; rfl
  · rw [ByteArray.size_append]; exact s3
end Go.Proofs.Ytgfmmchmkfboaaa
