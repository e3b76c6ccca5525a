/- Stage 3: what the statements ask first: awake. -/
import Derived.Test.YtgcdfoadegojcaaDoorShH
import Derived.Test.YtgcdfoadegojcaaDoorShT
namespace Go.Proofs.YtgcdfoadegojcaaDoor
open Go.RowKit
set_option linter.unusedVariables false
set_option maxRecDepth 100000 in
theorem sha_abc : shaS ⟨#[97, 98, 99]⟩ = [186, 120, 22, 191, 143, 1, 207, 234, 65, 65, 64, 222, 93, 174, 34, 35, 176, 3, 97, 163, 150, 23, 122, 156, 180, 16, 255, 97, 242, 0, 21, 173] := by decide +kernel
theorem hex_abc : hexB [186, 120, 22, 191, 143, 1, 207, 234, 65, 65, 64, 222, 93, 174, 34, 35, 176, 3, 97, 163, 150, 23, 122, 156, 180, 16, 255, 97, 242, 0, 21, 173] = [98, 97, 55, 56, 49, 54, 98, 102, 56, 102, 48, 49, 99, 102, 101, 97, 52, 49, 52, 49, 52, 48, 100, 101, 53, 100, 97, 101, 50, 50, 50, 51, 98, 48, 48, 51, 54, 49, 97, 51, 57, 54, 49, 55, 55, 97, 57, 99, 98, 52, 49, 48, 102, 102, 54, 49, 102, 50, 48, 48, 49, 53, 97, 100] := by decide +kernel
set_option maxRecDepth 100000 in
set_option maxHeartbeats 1000000 in
theorem awake03_any (w : World) (hm : Tb w) :
    Calls Tryd.prog 11 #[] w fun e w' => e = .returned (.bool true) ∧ w.grownBy w' none := by
  have gA := World.grownBy_alloc w (.cells #[.string ⟨#[97]⟩, .string ⟨#[98, 99]⟩] 9) none
  have m1 := hm.kept gA
  obtain ⟨X, hX⟩ : ∃ X : ByteArray, X = ⟨(shaS ⟨#[97, 98, 99]⟩).toArray⟩ := ⟨_, rfl⟩
  have hXs : X.size ≤ 1000000 := by rw [hX, sha_abc]; decide
  have hXh : hexB X.data.toList = [98, 97, 55, 56, 49, 54, 98, 102, 56, 102, 48, 49, 99, 102, 101, 97, 52, 49, 52, 49, 52, 48, 100, 101, 53, 100, 97, 101, 50, 50, 50, 51, 98, 48, 48, 51, 54, 49, 97, 51, 57, 54, 49, 55, 55, 97, 57, 99, 98, 52, 49, 48, 102, 102, 54, 49, 102, 50, 48, 48, 49, 53, 97, 100] := by rw [hX, sha_abc]; exact hex_abc
  have HX := Lib.hid hX
  have HXS := Lib.hid hXs
  have HXH := Lib.hid hXh
  clear hX hXs hXh
  go_enter Tryd.func11, Tryd.ntmps11
  go_wp2_with fail
  refine (Sum_any _ [⟨#[97]⟩, ⟨#[98, 99]⟩] _ (RowAt.lit _ _ _ _ _ rfl) (capok_lit _ _) (by decide) (by decide) m1.1 m1.2).mono ?_
  rintro e w2 ⟨rfl, g2⟩
  rw [show (⟨(shaS ⟨(allB [⟨#[97]⟩, ⟨#[98, 99]⟩]).toArray⟩).toArray⟩ : ByteArray) = X from HX.out.symm]
  have G2 := grow_none gA g2
  go_wp2_with fail
  refine (Name_any X _ HXS.out).mono ?_
  rintro e w3 ⟨rfl, g3⟩
  rw [HXH.out]
  have G3 := grow_none G2 g3
  go_wp2
  go_ret
  exact ⟨rfl, G3⟩
end Go.Proofs.YtgcdfoadegojcaaDoor
