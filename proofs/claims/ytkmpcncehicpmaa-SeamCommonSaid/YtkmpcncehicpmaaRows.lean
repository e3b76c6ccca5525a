/-
  No cell of these rows narrows 'for every input' (looked for: loops, veiled, ifaces, maps, wideKeys, modest, calm, conditions, laid).
  DERIVED. THE GIVEN ROWS OF THIS SEAT. 22 by the template 'for every input the law returns true; each argument reads behind the call as it read before'; 0 by the template 'total and deterministic' (their statements: YtkmpcncehicpmaaTotals.lean).
  GIVEN WITH THE SEED: the statements are not yours to turn. If you find one false, say at which input.
  Laid BY PROGRAM, IN A SANDBOX (cutbox-rows.mjs): the forced cells as the released guide's own fill.sh prints them over the translation 70815bb8f37276b3… (all of the seat's roots in one cut). By AI agents, Wed Nov 11 2026. No macro, syntax, notation, axiom, sorry.
-/
import Derived.Test.YtkmpcncehicpmaaChecked
import GoSem.Claim
import GoSem.ClaimJoined
import GoSem.ClaimMapViews
import Derived.JoinedTies
import Derived.KernelRfl
namespace Go.Proofs.Ytkmpcncehicpmaa
/- THE CELL 'sum', in the pinned program and in every row, IS THE sha256 OF THE DUMP (.gsa) THAT YtkmpcncehicpmaaProg.lean LOADS. Nothing in Lean hashes anything: it is a label: what it is worth is what the hold of that sum in a sandbox is worth. -/
noncomputable def Try.pinned : Pinned := { name := "ytkmpcncehicpmaa", sum := "70815bb8f37276b3dd5b6a2e88f2ae2137ef0a75366cff8c82f0ccb60165ecaa", checked := Try.checked }
namespace Rows
def none {H : Type} : Left H := { results := [], args := [] }

/-- 'redoubtlaw05.DiskPlays': WHATEVER THE INPUT: true; the input reads as it did. -/
def diskPlaysSpec : ChangeSpec := { name := "diskPlays", fn := fun _ => fun
  | [d1, d2] => { results := [.lit (.bool true)], args := [d1, d2] }
  | _ => none }
def diskPlaysRow : OpenClaim := { program := "ytkmpcncehicpmaa", sum := "70815bb8f37276b3dd5b6a2e88f2ae2137ef0a75366cff8c82f0ccb60165ecaa", func := "redoubt/redoubtlaw05.DiskPlays", spec := "diskPlays", recurses := true, apart := false }
def DiskPlaysSaid : Prop := diskPlaysRow.holds Try.pinned (OpenSpec.ofChange diskPlaysSpec)

/-- ITS FALSE NEIGHBOUR: 'it returns false'. Refute it at one input. -/
def diskPlaysWrong : ChangeSpec := { name := "diskPlays", fn := fun _ => fun
  | [d1, d2] => { results := [.lit (.bool false)], args := [d1, d2] }
  | _ => none }
def DiskPlaysWrongFalsely : Prop := diskPlaysRow.holds Try.pinned (OpenSpec.ofChange diskPlaysWrong)

/-- 'redoubtlaw05.DiskLasts': WHATEVER THE INPUT: true; the input reads as it did. -/
def diskLastsSpec : ChangeSpec := { name := "diskLasts", fn := fun _ => fun
  | [d1, d2, d3] => { results := [.lit (.bool true)], args := [d1, d2, d3] }
  | _ => none }
def diskLastsRow : OpenClaim := { program := "ytkmpcncehicpmaa", sum := "70815bb8f37276b3dd5b6a2e88f2ae2137ef0a75366cff8c82f0ccb60165ecaa", func := "redoubt/redoubtlaw05.DiskLasts", spec := "diskLasts", recurses := true, apart := false }
def DiskLastsSaid : Prop := diskLastsRow.holds Try.pinned (OpenSpec.ofChange diskLastsSpec)

/-- ITS FALSE NEIGHBOUR: 'it returns false'. Refute it at one input. -/
def diskLastsWrong : ChangeSpec := { name := "diskLasts", fn := fun _ => fun
  | [d1, d2, d3] => { results := [.lit (.bool false)], args := [d1, d2, d3] }
  | _ => none }
def DiskLastsWrongFalsely : Prop := diskLastsRow.holds Try.pinned (OpenSpec.ofChange diskLastsWrong)

/-- 'redoubtlaw05.DiskAgain': WHATEVER THE INPUT: true; the input reads as it did. -/
def diskAgainSpec : ChangeSpec := { name := "diskAgain", fn := fun _ => fun
  | [d1, d2, d3] => { results := [.lit (.bool true)], args := [d1, d2, d3] }
  | _ => none }
def diskAgainRow : OpenClaim := { program := "ytkmpcncehicpmaa", sum := "70815bb8f37276b3dd5b6a2e88f2ae2137ef0a75366cff8c82f0ccb60165ecaa", func := "redoubt/redoubtlaw05.DiskAgain", spec := "diskAgain", recurses := true, apart := false }
def DiskAgainSaid : Prop := diskAgainRow.holds Try.pinned (OpenSpec.ofChange diskAgainSpec)

/-- ITS FALSE NEIGHBOUR: 'it returns false'. Refute it at one input. -/
def diskAgainWrong : ChangeSpec := { name := "diskAgain", fn := fun _ => fun
  | [d1, d2, d3] => { results := [.lit (.bool false)], args := [d1, d2, d3] }
  | _ => none }
def DiskAgainWrongFalsely : Prop := diskAgainRow.holds Try.pinned (OpenSpec.ofChange diskAgainWrong)

/-- 'redoubtlaw05.DiskApart': WHATEVER THE INPUT: true; the input reads as it did. -/
def diskApartSpec : ChangeSpec := { name := "diskApart", fn := fun _ => fun
  | [d1, d2] => { results := [.lit (.bool true)], args := [d1, d2] }
  | _ => none }
def diskApartRow : OpenClaim := { program := "ytkmpcncehicpmaa", sum := "70815bb8f37276b3dd5b6a2e88f2ae2137ef0a75366cff8c82f0ccb60165ecaa", func := "redoubt/redoubtlaw05.DiskApart", spec := "diskApart", recurses := true, apart := false }
def DiskApartSaid : Prop := diskApartRow.holds Try.pinned (OpenSpec.ofChange diskApartSpec)

/-- ITS FALSE NEIGHBOUR: 'it returns false'. Refute it at one input. -/
def diskApartWrong : ChangeSpec := { name := "diskApart", fn := fun _ => fun
  | [d1, d2] => { results := [.lit (.bool false)], args := [d1, d2] }
  | _ => none }
def DiskApartWrongFalsely : Prop := diskApartRow.holds Try.pinned (OpenSpec.ofChange diskApartWrong)

/-- 'redoubtlaw05.DiskFull': WHATEVER THE INPUT: true; the input reads as it did. -/
def diskFullSpec : ChangeSpec := { name := "diskFull", fn := fun _ => fun
  | [d] => { results := [.lit (.bool true)], args := [d] }
  | _ => none }
def diskFullRow : OpenClaim := { program := "ytkmpcncehicpmaa", sum := "70815bb8f37276b3dd5b6a2e88f2ae2137ef0a75366cff8c82f0ccb60165ecaa", func := "redoubt/redoubtlaw05.DiskFull", spec := "diskFull", recurses := true, apart := false }
def DiskFullSaid : Prop := diskFullRow.holds Try.pinned (OpenSpec.ofChange diskFullSpec)

/-- ITS FALSE NEIGHBOUR: 'it returns false'. Refute it at one input. -/
def diskFullWrong : ChangeSpec := { name := "diskFull", fn := fun _ => fun
  | [d] => { results := [.lit (.bool false)], args := [d] }
  | _ => none }
def DiskFullWrongFalsely : Prop := diskFullRow.holds Try.pinned (OpenSpec.ofChange diskFullWrong)

/-- 'redoubtlaw05.DiskNil': WHATEVER THE INPUT: true; the input reads as it did. -/
def diskNilSpec : ChangeSpec := { name := "diskNil", fn := fun _ => fun
  | [d1, d2] => { results := [.lit (.bool true)], args := [d1, d2] }
  | _ => none }
def diskNilRow : OpenClaim := { program := "ytkmpcncehicpmaa", sum := "70815bb8f37276b3dd5b6a2e88f2ae2137ef0a75366cff8c82f0ccb60165ecaa", func := "redoubt/redoubtlaw05.DiskNil", spec := "diskNil", recurses := true, apart := false }
def DiskNilSaid : Prop := diskNilRow.holds Try.pinned (OpenSpec.ofChange diskNilSpec)

/-- ITS FALSE NEIGHBOUR: 'it returns false'. Refute it at one input. -/
def diskNilWrong : ChangeSpec := { name := "diskNil", fn := fun _ => fun
  | [d1, d2] => { results := [.lit (.bool false)], args := [d1, d2] }
  | _ => none }
def DiskNilWrongFalsely : Prop := diskNilRow.holds Try.pinned (OpenSpec.ofChange diskNilWrong)

/-- 'redoubtlaw06.PostPlays': WHATEVER THE INPUT: true; the input reads as it did. -/
def postPlaysSpec : ChangeSpec := { name := "postPlays", fn := fun _ => fun
  | [d1, d2] => { results := [.lit (.bool true)], args := [d1, d2] }
  | _ => none }
def postPlaysRow : OpenClaim := { program := "ytkmpcncehicpmaa", sum := "70815bb8f37276b3dd5b6a2e88f2ae2137ef0a75366cff8c82f0ccb60165ecaa", func := "redoubt/redoubtlaw06.PostPlays", spec := "postPlays", unfollowed := true, recurses := true, apart := false }
def PostPlaysSaid : Prop := postPlaysRow.holds Try.pinned (OpenSpec.ofChange postPlaysSpec)

/-- ITS FALSE NEIGHBOUR: 'it returns false'. Refute it at one input. -/
def postPlaysWrong : ChangeSpec := { name := "postPlays", fn := fun _ => fun
  | [d1, d2] => { results := [.lit (.bool false)], args := [d1, d2] }
  | _ => none }
def PostPlaysWrongFalsely : Prop := postPlaysRow.holds Try.pinned (OpenSpec.ofChange postPlaysWrong)

/-- 'redoubtlaw06.PostOrder': WHATEVER THE INPUT: true; the input reads as it did. -/
def postOrderSpec : ChangeSpec := { name := "postOrder", fn := fun _ => fun
  | [d1, d2] => { results := [.lit (.bool true)], args := [d1, d2] }
  | _ => none }
def postOrderRow : OpenClaim := { program := "ytkmpcncehicpmaa", sum := "70815bb8f37276b3dd5b6a2e88f2ae2137ef0a75366cff8c82f0ccb60165ecaa", func := "redoubt/redoubtlaw06.PostOrder", spec := "postOrder", unfollowed := true, recurses := true, apart := false }
def PostOrderSaid : Prop := postOrderRow.holds Try.pinned (OpenSpec.ofChange postOrderSpec)

/-- ITS FALSE NEIGHBOUR: 'it returns false'. Refute it at one input. -/
def postOrderWrong : ChangeSpec := { name := "postOrder", fn := fun _ => fun
  | [d1, d2] => { results := [.lit (.bool false)], args := [d1, d2] }
  | _ => none }
def PostOrderWrongFalsely : Prop := postOrderRow.holds Try.pinned (OpenSpec.ofChange postOrderWrong)

/-- 'redoubtlaw06.PostApart': WHATEVER THE INPUT: true; the input reads as it did. -/
def postApartSpec : ChangeSpec := { name := "postApart", fn := fun _ => fun
  | [d1, d2, d3] => { results := [.lit (.bool true)], args := [d1, d2, d3] }
  | _ => none }
def postApartRow : OpenClaim := { program := "ytkmpcncehicpmaa", sum := "70815bb8f37276b3dd5b6a2e88f2ae2137ef0a75366cff8c82f0ccb60165ecaa", func := "redoubt/redoubtlaw06.PostApart", spec := "postApart", unfollowed := true, recurses := true, apart := false }
def PostApartSaid : Prop := postApartRow.holds Try.pinned (OpenSpec.ofChange postApartSpec)

/-- ITS FALSE NEIGHBOUR: 'it returns false'. Refute it at one input. -/
def postApartWrong : ChangeSpec := { name := "postApart", fn := fun _ => fun
  | [d1, d2, d3] => { results := [.lit (.bool false)], args := [d1, d2, d3] }
  | _ => none }
def PostApartWrongFalsely : Prop := postApartRow.holds Try.pinned (OpenSpec.ofChange postApartWrong)

/-- 'redoubtlaw06.PostNil': WHATEVER THE INPUT: true; the input reads as it did. -/
def postNilSpec : ChangeSpec := { name := "postNil", fn := fun _ => fun
  | [d] => { results := [.lit (.bool true)], args := [d] }
  | _ => none }
def postNilRow : OpenClaim := { program := "ytkmpcncehicpmaa", sum := "70815bb8f37276b3dd5b6a2e88f2ae2137ef0a75366cff8c82f0ccb60165ecaa", func := "redoubt/redoubtlaw06.PostNil", spec := "postNil", unfollowed := true, recurses := true, apart := false }
def PostNilSaid : Prop := postNilRow.holds Try.pinned (OpenSpec.ofChange postNilSpec)

/-- ITS FALSE NEIGHBOUR: 'it returns false'. Refute it at one input. -/
def postNilWrong : ChangeSpec := { name := "postNil", fn := fun _ => fun
  | [d] => { results := [.lit (.bool false)], args := [d] }
  | _ => none }
def PostNilWrongFalsely : Prop := postNilRow.holds Try.pinned (OpenSpec.ofChange postNilWrong)

/-- 'redoubtlaw07.CarveCuts': WHATEVER THE INPUT: true; the input reads as it did. -/
def carveCutsSpec : ChangeSpec := { name := "carveCuts", fn := fun _ => fun
  | [d1, d2] => { results := [.lit (.bool true)], args := [d1, d2] }
  | _ => none }
def carveCutsRow : OpenClaim := { program := "ytkmpcncehicpmaa", sum := "70815bb8f37276b3dd5b6a2e88f2ae2137ef0a75366cff8c82f0ccb60165ecaa", func := "redoubt/redoubtlaw07.CarveCuts", spec := "carveCuts", inPlace := ["internal/abi.NoEscape", "internal/bytealg.MakeNoZero"], apart := false }
def CarveCutsSaid : Prop := carveCutsRow.holds Try.pinned (OpenSpec.ofChange carveCutsSpec)

/-- ITS FALSE NEIGHBOUR: 'it returns false'. Refute it at one input. -/
def carveCutsWrong : ChangeSpec := { name := "carveCuts", fn := fun _ => fun
  | [d1, d2] => { results := [.lit (.bool false)], args := [d1, d2] }
  | _ => none }
def CarveCutsWrongFalsely : Prop := carveCutsRow.holds Try.pinned (OpenSpec.ofChange carveCutsWrong)

/-- 'redoubtlaw07.CarveJoins': WHATEVER THE INPUT: true; the input reads as it did. -/
def carveJoinsSpec : ChangeSpec := { name := "carveJoins", fn := fun _ => fun
  | [d] => { results := [.lit (.bool true)], args := [d] }
  | _ => none }
def carveJoinsRow : OpenClaim := { program := "ytkmpcncehicpmaa", sum := "70815bb8f37276b3dd5b6a2e88f2ae2137ef0a75366cff8c82f0ccb60165ecaa", func := "redoubt/redoubtlaw07.CarveJoins", spec := "carveJoins", inPlace := ["internal/abi.NoEscape", "internal/bytealg.MakeNoZero"], apart := false }
def CarveJoinsSaid : Prop := carveJoinsRow.holds Try.pinned (OpenSpec.ofChange carveJoinsSpec)

/-- ITS FALSE NEIGHBOUR: 'it returns false'. Refute it at one input. -/
def carveJoinsWrong : ChangeSpec := { name := "carveJoins", fn := fun _ => fun
  | [d] => { results := [.lit (.bool false)], args := [d] }
  | _ => none }
def CarveJoinsWrongFalsely : Prop := carveJoinsRow.holds Try.pinned (OpenSpec.ofChange carveJoinsWrong)

/-- 'redoubtlaw07.CarveBack': WHATEVER THE INPUT: true; the input reads as it did. -/
def carveBackSpec : ChangeSpec := { name := "carveBack", fn := fun _ => fun
  | [d] => { results := [.lit (.bool true)], args := [d] }
  | _ => none }
def carveBackRow : OpenClaim := { program := "ytkmpcncehicpmaa", sum := "70815bb8f37276b3dd5b6a2e88f2ae2137ef0a75366cff8c82f0ccb60165ecaa", func := "redoubt/redoubtlaw07.CarveBack", spec := "carveBack", inPlace := ["internal/abi.NoEscape", "internal/bytealg.MakeNoZero"], apart := false }
def CarveBackSaid : Prop := carveBackRow.holds Try.pinned (OpenSpec.ofChange carveBackSpec)

/-- ITS FALSE NEIGHBOUR: 'it returns false'. Refute it at one input. -/
def carveBackWrong : ChangeSpec := { name := "carveBack", fn := fun _ => fun
  | [d] => { results := [.lit (.bool false)], args := [d] }
  | _ => none }
def CarveBackWrongFalsely : Prop := carveBackRow.holds Try.pinned (OpenSpec.ofChange carveBackWrong)

/-- 'redoubtlaw07.CarveHeads': WHATEVER THE INPUT: true; the input reads as it did. -/
def carveHeadsSpec : ChangeSpec := { name := "carveHeads", fn := fun _ => fun
  | [d1, d2, d3] => { results := [.lit (.bool true)], args := [d1, d2, d3] }
  | _ => none }
def carveHeadsRow : OpenClaim := { program := "ytkmpcncehicpmaa", sum := "70815bb8f37276b3dd5b6a2e88f2ae2137ef0a75366cff8c82f0ccb60165ecaa", func := "redoubt/redoubtlaw07.CarveHeads", spec := "carveHeads", inPlace := ["internal/abi.NoEscape", "internal/bytealg.MakeNoZero"], apart := false }
def CarveHeadsSaid : Prop := carveHeadsRow.holds Try.pinned (OpenSpec.ofChange carveHeadsSpec)

/-- ITS FALSE NEIGHBOUR: 'it returns false'. Refute it at one input. -/
def carveHeadsWrong : ChangeSpec := { name := "carveHeads", fn := fun _ => fun
  | [d1, d2, d3] => { results := [.lit (.bool false)], args := [d1, d2, d3] }
  | _ => none }
def CarveHeadsWrongFalsely : Prop := carveHeadsRow.holds Try.pinned (OpenSpec.ofChange carveHeadsWrong)

/-- 'redoubtlaw16.BucketPlays': WHATEVER THE INPUT: true; the input reads as it did. -/
def bucketPlaysSpec : ChangeSpec := { name := "bucketPlays", fn := fun _ => fun
  | [d1, d2, d3] => { results := [.lit (.bool true)], args := [d1, d2, d3] }
  | _ => none }
def bucketPlaysRow : OpenClaim := { program := "ytkmpcncehicpmaa", sum := "70815bb8f37276b3dd5b6a2e88f2ae2137ef0a75366cff8c82f0ccb60165ecaa", func := "redoubt/redoubtlaw16.BucketPlays", spec := "bucketPlays", apart := false }
def BucketPlaysSaid : Prop := bucketPlaysRow.holds Try.pinned (OpenSpec.ofChange bucketPlaysSpec)

/-- ITS FALSE NEIGHBOUR: 'it returns false'. Refute it at one input. -/
def bucketPlaysWrong : ChangeSpec := { name := "bucketPlays", fn := fun _ => fun
  | [d1, d2, d3] => { results := [.lit (.bool false)], args := [d1, d2, d3] }
  | _ => none }
def BucketPlaysWrongFalsely : Prop := bucketPlaysRow.holds Try.pinned (OpenSpec.ofChange bucketPlaysWrong)

/-- 'redoubtlaw16.BucketBound': WHATEVER THE INPUT: true; the input reads as it did. -/
def bucketBoundSpec : ChangeSpec := { name := "bucketBound", fn := fun _ => fun
  | [d1, d2, d3] => { results := [.lit (.bool true)], args := [d1, d2, d3] }
  | _ => none }
def bucketBoundRow : OpenClaim := { program := "ytkmpcncehicpmaa", sum := "70815bb8f37276b3dd5b6a2e88f2ae2137ef0a75366cff8c82f0ccb60165ecaa", func := "redoubt/redoubtlaw16.BucketBound", spec := "bucketBound", apart := false }
def BucketBoundSaid : Prop := bucketBoundRow.holds Try.pinned (OpenSpec.ofChange bucketBoundSpec)

/-- ITS FALSE NEIGHBOUR: 'it returns false'. Refute it at one input. -/
def bucketBoundWrong : ChangeSpec := { name := "bucketBound", fn := fun _ => fun
  | [d1, d2, d3] => { results := [.lit (.bool false)], args := [d1, d2, d3] }
  | _ => none }
def BucketBoundWrongFalsely : Prop := bucketBoundRow.holds Try.pinned (OpenSpec.ofChange bucketBoundWrong)

/-- 'redoubtlaw16.BucketGoes': WHATEVER THE INPUT: true; the input reads as it did. -/
def bucketGoesSpec : ChangeSpec := { name := "bucketGoes", fn := fun _ => fun
  | [d1, d2, d3, d4] => { results := [.lit (.bool true)], args := [d1, d2, d3, d4] }
  | _ => none }
def bucketGoesRow : OpenClaim := { program := "ytkmpcncehicpmaa", sum := "70815bb8f37276b3dd5b6a2e88f2ae2137ef0a75366cff8c82f0ccb60165ecaa", func := "redoubt/redoubtlaw16.BucketGoes", spec := "bucketGoes", apart := false }
def BucketGoesSaid : Prop := bucketGoesRow.holds Try.pinned (OpenSpec.ofChange bucketGoesSpec)

/-- ITS FALSE NEIGHBOUR: 'it returns false'. Refute it at one input. -/
def bucketGoesWrong : ChangeSpec := { name := "bucketGoes", fn := fun _ => fun
  | [d1, d2, d3, d4] => { results := [.lit (.bool false)], args := [d1, d2, d3, d4] }
  | _ => none }
def BucketGoesWrongFalsely : Prop := bucketGoesRow.holds Try.pinned (OpenSpec.ofChange bucketGoesWrong)

/-- 'redoubtlaw16.BucketNil': WHATEVER THE INPUT: true; the input reads as it did. -/
def bucketNilSpec : ChangeSpec := { name := "bucketNil", fn := fun _ => fun
  | [d] => { results := [.lit (.bool true)], args := [d] }
  | _ => none }
def bucketNilRow : OpenClaim := { program := "ytkmpcncehicpmaa", sum := "70815bb8f37276b3dd5b6a2e88f2ae2137ef0a75366cff8c82f0ccb60165ecaa", func := "redoubt/redoubtlaw16.BucketNil", spec := "bucketNil", apart := false }
def BucketNilSaid : Prop := bucketNilRow.holds Try.pinned (OpenSpec.ofChange bucketNilSpec)

/-- ITS FALSE NEIGHBOUR: 'it returns false'. Refute it at one input. -/
def bucketNilWrong : ChangeSpec := { name := "bucketNil", fn := fun _ => fun
  | [d] => { results := [.lit (.bool false)], args := [d] }
  | _ => none }
def BucketNilWrongFalsely : Prop := bucketNilRow.holds Try.pinned (OpenSpec.ofChange bucketNilWrong)

/-- 'redoubtlaw17.SeamCommon': WHATEVER THE INPUT: true; the input reads as it did. -/
def seamCommonSpec : ChangeSpec := { name := "seamCommon", fn := fun _ => fun
  | [d] => { results := [.lit (.bool true)], args := [d] }
  | _ => none }
def seamCommonRow : OpenClaim := { program := "ytkmpcncehicpmaa", sum := "70815bb8f37276b3dd5b6a2e88f2ae2137ef0a75366cff8c82f0ccb60165ecaa", func := "redoubt/redoubtlaw17.SeamCommon", spec := "seamCommon", apart := false }
def SeamCommonSaid : Prop := seamCommonRow.holds Try.pinned (OpenSpec.ofChange seamCommonSpec)

/-- ITS FALSE NEIGHBOUR: 'it returns false'. Refute it at one input. -/
def seamCommonWrong : ChangeSpec := { name := "seamCommon", fn := fun _ => fun
  | [d] => { results := [.lit (.bool false)], args := [d] }
  | _ => none }
def SeamCommonWrongFalsely : Prop := seamCommonRow.holds Try.pinned (OpenSpec.ofChange seamCommonWrong)

/-- 'redoubtlaw17.SeamHints': WHATEVER THE INPUT: true; the input reads as it did. -/
def seamHintsSpec : ChangeSpec := { name := "seamHints", fn := fun _ => fun
  | [d1, d2, d3, d4] => { results := [.lit (.bool true)], args := [d1, d2, d3, d4] }
  | _ => none }
def seamHintsRow : OpenClaim := { program := "ytkmpcncehicpmaa", sum := "70815bb8f37276b3dd5b6a2e88f2ae2137ef0a75366cff8c82f0ccb60165ecaa", func := "redoubt/redoubtlaw17.SeamHints", spec := "seamHints", apart := false }
def SeamHintsSaid : Prop := seamHintsRow.holds Try.pinned (OpenSpec.ofChange seamHintsSpec)

/-- ITS FALSE NEIGHBOUR: 'it returns false'. Refute it at one input. -/
def seamHintsWrong : ChangeSpec := { name := "seamHints", fn := fun _ => fun
  | [d1, d2, d3, d4] => { results := [.lit (.bool false)], args := [d1, d2, d3, d4] }
  | _ => none }
def SeamHintsWrongFalsely : Prop := seamHintsRow.holds Try.pinned (OpenSpec.ofChange seamHintsWrong)

/-- 'redoubtlaw17.SeamFinds': WHATEVER THE INPUT: true; the input reads as it did. -/
def seamFindsSpec : ChangeSpec := { name := "seamFinds", fn := fun _ => fun
  | [d1, d2] => { results := [.lit (.bool true)], args := [d1, d2] }
  | _ => none }
def seamFindsRow : OpenClaim := { program := "ytkmpcncehicpmaa", sum := "70815bb8f37276b3dd5b6a2e88f2ae2137ef0a75366cff8c82f0ccb60165ecaa", func := "redoubt/redoubtlaw17.SeamFinds", spec := "seamFinds", apart := false }
def SeamFindsSaid : Prop := seamFindsRow.holds Try.pinned (OpenSpec.ofChange seamFindsSpec)

/-- ITS FALSE NEIGHBOUR: 'it returns false'. Refute it at one input. -/
def seamFindsWrong : ChangeSpec := { name := "seamFinds", fn := fun _ => fun
  | [d1, d2] => { results := [.lit (.bool false)], args := [d1, d2] }
  | _ => none }
def SeamFindsWrongFalsely : Prop := seamFindsRow.holds Try.pinned (OpenSpec.ofChange seamFindsWrong)

/-- 'redoubtlaw17.SeamNever': WHATEVER THE INPUT: true; the input reads as it did. -/
def seamNeverSpec : ChangeSpec := { name := "seamNever", fn := fun _ => fun
  | [d1, d2, d3] => { results := [.lit (.bool true)], args := [d1, d2, d3] }
  | _ => none }
def seamNeverRow : OpenClaim := { program := "ytkmpcncehicpmaa", sum := "70815bb8f37276b3dd5b6a2e88f2ae2137ef0a75366cff8c82f0ccb60165ecaa", func := "redoubt/redoubtlaw17.SeamNever", spec := "seamNever", apart := false }
def SeamNeverSaid : Prop := seamNeverRow.holds Try.pinned (OpenSpec.ofChange seamNeverSpec)

/-- ITS FALSE NEIGHBOUR: 'it returns false'. Refute it at one input. -/
def seamNeverWrong : ChangeSpec := { name := "seamNever", fn := fun _ => fun
  | [d1, d2, d3] => { results := [.lit (.bool false)], args := [d1, d2, d3] }
  | _ => none }
def SeamNeverWrongFalsely : Prop := seamNeverRow.holds Try.pinned (OpenSpec.ofChange seamNeverWrong)

/- THE SECOND FORM. 'bulk': how many values and letters a reading holds, each counted each time it is reached (what is shared counts as often as it is met; a slice's spare places count too). A statement '..UptoSaid' is the law's where the arguments, and the package variables that the reading takes, are together of bulk at most 1048576: NARROWER than '..Said'. Prove '..Said' where nothing that the law and all that it calls make is longer than what came in: it says more and counts as full. Else prove '..UptoSaid'. A law counts once. -/
mutual
def uptoBulk {H : Type} : DataW H → Nat
  | .lit (.string bytes) => bytes.length + 1
  | .lit _ => 1
  | .nil => 1
  | .ptr d => uptoBulk d + 1
  | .slice elems spare => uptoBulkAll elems + uptoBulkAll spare + 1
  | .agg parts => uptoBulkAll parts + 1
  | .iface _ d => uptoBulk d + 1
  | .map entries => uptoBulkEntries entries + 1
  | .held _ => 1
def uptoBulkAll {H : Type} : List (DataW H) → Nat
  | [] => 0
  | d :: r => uptoBulk d + uptoBulkAll r
def uptoBulkEntries {H : Type} : List (Lit × DataW H) → Nat
  | [] => 0
  | x :: r => uptoBulkEntry x + uptoBulkEntries r
def uptoBulkEntry {H : Type} : Lit × DataW H → Nat
  | (.string bytes, d) => bytes.length + uptoBulk d + 1
  | (_, d) => uptoBulk d + 1
 end
def uptoSmall : (H : Type) → List (DataW H) → Bool := fun _ ds => decide (uptoBulkAll ds ≤ 1048576)
def OpenSpec.upto (s : _root_.Go.ChangeSpec) : _root_.Go.OpenSpec := { _root_.Go.OpenSpec.ofChange s with cond := some uptoSmall }

/-- 'redoubtlaw05.DiskPlays', WHERE WHAT IT READS IS OF BULK AT MOST 1048576: true; the input reads as it did. -/
def diskPlaysUptoRow : OpenClaim := { program := "ytkmpcncehicpmaa", sum := "70815bb8f37276b3dd5b6a2e88f2ae2137ef0a75366cff8c82f0ccb60165ecaa", func := "redoubt/redoubtlaw05.DiskPlays", spec := "diskPlays", recurses := true, apart := false, narrowed := true }
def DiskPlaysUptoSaid : Prop := diskPlaysUptoRow.holds Try.pinned (OpenSpec.upto diskPlaysSpec)

/-- 'redoubtlaw05.DiskLasts', WHERE WHAT IT READS IS OF BULK AT MOST 1048576: true; the input reads as it did. -/
def diskLastsUptoRow : OpenClaim := { program := "ytkmpcncehicpmaa", sum := "70815bb8f37276b3dd5b6a2e88f2ae2137ef0a75366cff8c82f0ccb60165ecaa", func := "redoubt/redoubtlaw05.DiskLasts", spec := "diskLasts", recurses := true, apart := false, narrowed := true }
def DiskLastsUptoSaid : Prop := diskLastsUptoRow.holds Try.pinned (OpenSpec.upto diskLastsSpec)

/-- 'redoubtlaw05.DiskAgain', WHERE WHAT IT READS IS OF BULK AT MOST 1048576: true; the input reads as it did. -/
def diskAgainUptoRow : OpenClaim := { program := "ytkmpcncehicpmaa", sum := "70815bb8f37276b3dd5b6a2e88f2ae2137ef0a75366cff8c82f0ccb60165ecaa", func := "redoubt/redoubtlaw05.DiskAgain", spec := "diskAgain", recurses := true, apart := false, narrowed := true }
def DiskAgainUptoSaid : Prop := diskAgainUptoRow.holds Try.pinned (OpenSpec.upto diskAgainSpec)

/-- 'redoubtlaw05.DiskApart', WHERE WHAT IT READS IS OF BULK AT MOST 1048576: true; the input reads as it did. -/
def diskApartUptoRow : OpenClaim := { program := "ytkmpcncehicpmaa", sum := "70815bb8f37276b3dd5b6a2e88f2ae2137ef0a75366cff8c82f0ccb60165ecaa", func := "redoubt/redoubtlaw05.DiskApart", spec := "diskApart", recurses := true, apart := false, narrowed := true }
def DiskApartUptoSaid : Prop := diskApartUptoRow.holds Try.pinned (OpenSpec.upto diskApartSpec)

/-- 'redoubtlaw05.DiskFull', WHERE WHAT IT READS IS OF BULK AT MOST 1048576: true; the input reads as it did. -/
def diskFullUptoRow : OpenClaim := { program := "ytkmpcncehicpmaa", sum := "70815bb8f37276b3dd5b6a2e88f2ae2137ef0a75366cff8c82f0ccb60165ecaa", func := "redoubt/redoubtlaw05.DiskFull", spec := "diskFull", recurses := true, apart := false, narrowed := true }
def DiskFullUptoSaid : Prop := diskFullUptoRow.holds Try.pinned (OpenSpec.upto diskFullSpec)

/-- 'redoubtlaw05.DiskNil', WHERE WHAT IT READS IS OF BULK AT MOST 1048576: true; the input reads as it did. -/
def diskNilUptoRow : OpenClaim := { program := "ytkmpcncehicpmaa", sum := "70815bb8f37276b3dd5b6a2e88f2ae2137ef0a75366cff8c82f0ccb60165ecaa", func := "redoubt/redoubtlaw05.DiskNil", spec := "diskNil", recurses := true, apart := false, narrowed := true }
def DiskNilUptoSaid : Prop := diskNilUptoRow.holds Try.pinned (OpenSpec.upto diskNilSpec)

/-- 'redoubtlaw06.PostPlays', WHERE WHAT IT READS IS OF BULK AT MOST 1048576: true; the input reads as it did. -/
def postPlaysUptoRow : OpenClaim := { program := "ytkmpcncehicpmaa", sum := "70815bb8f37276b3dd5b6a2e88f2ae2137ef0a75366cff8c82f0ccb60165ecaa", func := "redoubt/redoubtlaw06.PostPlays", spec := "postPlays", unfollowed := true, recurses := true, apart := false, narrowed := true }
def PostPlaysUptoSaid : Prop := postPlaysUptoRow.holds Try.pinned (OpenSpec.upto postPlaysSpec)

/-- 'redoubtlaw06.PostOrder', WHERE WHAT IT READS IS OF BULK AT MOST 1048576: true; the input reads as it did. -/
def postOrderUptoRow : OpenClaim := { program := "ytkmpcncehicpmaa", sum := "70815bb8f37276b3dd5b6a2e88f2ae2137ef0a75366cff8c82f0ccb60165ecaa", func := "redoubt/redoubtlaw06.PostOrder", spec := "postOrder", unfollowed := true, recurses := true, apart := false, narrowed := true }
def PostOrderUptoSaid : Prop := postOrderUptoRow.holds Try.pinned (OpenSpec.upto postOrderSpec)

/-- 'redoubtlaw06.PostApart', WHERE WHAT IT READS IS OF BULK AT MOST 1048576: true; the input reads as it did. -/
def postApartUptoRow : OpenClaim := { program := "ytkmpcncehicpmaa", sum := "70815bb8f37276b3dd5b6a2e88f2ae2137ef0a75366cff8c82f0ccb60165ecaa", func := "redoubt/redoubtlaw06.PostApart", spec := "postApart", unfollowed := true, recurses := true, apart := false, narrowed := true }
def PostApartUptoSaid : Prop := postApartUptoRow.holds Try.pinned (OpenSpec.upto postApartSpec)

/-- 'redoubtlaw06.PostNil', WHERE WHAT IT READS IS OF BULK AT MOST 1048576: true; the input reads as it did. -/
def postNilUptoRow : OpenClaim := { program := "ytkmpcncehicpmaa", sum := "70815bb8f37276b3dd5b6a2e88f2ae2137ef0a75366cff8c82f0ccb60165ecaa", func := "redoubt/redoubtlaw06.PostNil", spec := "postNil", unfollowed := true, recurses := true, apart := false, narrowed := true }
def PostNilUptoSaid : Prop := postNilUptoRow.holds Try.pinned (OpenSpec.upto postNilSpec)

/-- 'redoubtlaw07.CarveCuts', WHERE WHAT IT READS IS OF BULK AT MOST 1048576: true; the input reads as it did. -/
def carveCutsUptoRow : OpenClaim := { program := "ytkmpcncehicpmaa", sum := "70815bb8f37276b3dd5b6a2e88f2ae2137ef0a75366cff8c82f0ccb60165ecaa", func := "redoubt/redoubtlaw07.CarveCuts", spec := "carveCuts", inPlace := ["internal/abi.NoEscape", "internal/bytealg.MakeNoZero"], apart := false, narrowed := true }
def CarveCutsUptoSaid : Prop := carveCutsUptoRow.holds Try.pinned (OpenSpec.upto carveCutsSpec)

/-- 'redoubtlaw07.CarveJoins', WHERE WHAT IT READS IS OF BULK AT MOST 1048576: true; the input reads as it did. -/
def carveJoinsUptoRow : OpenClaim := { program := "ytkmpcncehicpmaa", sum := "70815bb8f37276b3dd5b6a2e88f2ae2137ef0a75366cff8c82f0ccb60165ecaa", func := "redoubt/redoubtlaw07.CarveJoins", spec := "carveJoins", inPlace := ["internal/abi.NoEscape", "internal/bytealg.MakeNoZero"], apart := false, narrowed := true }
def CarveJoinsUptoSaid : Prop := carveJoinsUptoRow.holds Try.pinned (OpenSpec.upto carveJoinsSpec)

/-- 'redoubtlaw07.CarveBack', WHERE WHAT IT READS IS OF BULK AT MOST 1048576: true; the input reads as it did. -/
def carveBackUptoRow : OpenClaim := { program := "ytkmpcncehicpmaa", sum := "70815bb8f37276b3dd5b6a2e88f2ae2137ef0a75366cff8c82f0ccb60165ecaa", func := "redoubt/redoubtlaw07.CarveBack", spec := "carveBack", inPlace := ["internal/abi.NoEscape", "internal/bytealg.MakeNoZero"], apart := false, narrowed := true }
def CarveBackUptoSaid : Prop := carveBackUptoRow.holds Try.pinned (OpenSpec.upto carveBackSpec)

/-- 'redoubtlaw07.CarveHeads', WHERE WHAT IT READS IS OF BULK AT MOST 1048576: true; the input reads as it did. -/
def carveHeadsUptoRow : OpenClaim := { program := "ytkmpcncehicpmaa", sum := "70815bb8f37276b3dd5b6a2e88f2ae2137ef0a75366cff8c82f0ccb60165ecaa", func := "redoubt/redoubtlaw07.CarveHeads", spec := "carveHeads", inPlace := ["internal/abi.NoEscape", "internal/bytealg.MakeNoZero"], apart := false, narrowed := true }
def CarveHeadsUptoSaid : Prop := carveHeadsUptoRow.holds Try.pinned (OpenSpec.upto carveHeadsSpec)

/-- 'redoubtlaw16.BucketPlays', WHERE WHAT IT READS IS OF BULK AT MOST 1048576: true; the input reads as it did. -/
def bucketPlaysUptoRow : OpenClaim := { program := "ytkmpcncehicpmaa", sum := "70815bb8f37276b3dd5b6a2e88f2ae2137ef0a75366cff8c82f0ccb60165ecaa", func := "redoubt/redoubtlaw16.BucketPlays", spec := "bucketPlays", apart := false, narrowed := true }
def BucketPlaysUptoSaid : Prop := bucketPlaysUptoRow.holds Try.pinned (OpenSpec.upto bucketPlaysSpec)

/-- 'redoubtlaw16.BucketBound', WHERE WHAT IT READS IS OF BULK AT MOST 1048576: true; the input reads as it did. -/
def bucketBoundUptoRow : OpenClaim := { program := "ytkmpcncehicpmaa", sum := "70815bb8f37276b3dd5b6a2e88f2ae2137ef0a75366cff8c82f0ccb60165ecaa", func := "redoubt/redoubtlaw16.BucketBound", spec := "bucketBound", apart := false, narrowed := true }
def BucketBoundUptoSaid : Prop := bucketBoundUptoRow.holds Try.pinned (OpenSpec.upto bucketBoundSpec)

/-- 'redoubtlaw16.BucketGoes', WHERE WHAT IT READS IS OF BULK AT MOST 1048576: true; the input reads as it did. -/
def bucketGoesUptoRow : OpenClaim := { program := "ytkmpcncehicpmaa", sum := "70815bb8f37276b3dd5b6a2e88f2ae2137ef0a75366cff8c82f0ccb60165ecaa", func := "redoubt/redoubtlaw16.BucketGoes", spec := "bucketGoes", apart := false, narrowed := true }
def BucketGoesUptoSaid : Prop := bucketGoesUptoRow.holds Try.pinned (OpenSpec.upto bucketGoesSpec)

/-- 'redoubtlaw16.BucketNil', WHERE WHAT IT READS IS OF BULK AT MOST 1048576: true; the input reads as it did. -/
def bucketNilUptoRow : OpenClaim := { program := "ytkmpcncehicpmaa", sum := "70815bb8f37276b3dd5b6a2e88f2ae2137ef0a75366cff8c82f0ccb60165ecaa", func := "redoubt/redoubtlaw16.BucketNil", spec := "bucketNil", apart := false, narrowed := true }
def BucketNilUptoSaid : Prop := bucketNilUptoRow.holds Try.pinned (OpenSpec.upto bucketNilSpec)

/-- 'redoubtlaw17.SeamCommon', WHERE WHAT IT READS IS OF BULK AT MOST 1048576: true; the input reads as it did. -/
def seamCommonUptoRow : OpenClaim := { program := "ytkmpcncehicpmaa", sum := "70815bb8f37276b3dd5b6a2e88f2ae2137ef0a75366cff8c82f0ccb60165ecaa", func := "redoubt/redoubtlaw17.SeamCommon", spec := "seamCommon", apart := false, narrowed := true }
def SeamCommonUptoSaid : Prop := seamCommonUptoRow.holds Try.pinned (OpenSpec.upto seamCommonSpec)

/-- 'redoubtlaw17.SeamHints', WHERE WHAT IT READS IS OF BULK AT MOST 1048576: true; the input reads as it did. -/
def seamHintsUptoRow : OpenClaim := { program := "ytkmpcncehicpmaa", sum := "70815bb8f37276b3dd5b6a2e88f2ae2137ef0a75366cff8c82f0ccb60165ecaa", func := "redoubt/redoubtlaw17.SeamHints", spec := "seamHints", apart := false, narrowed := true }
def SeamHintsUptoSaid : Prop := seamHintsUptoRow.holds Try.pinned (OpenSpec.upto seamHintsSpec)

/-- 'redoubtlaw17.SeamFinds', WHERE WHAT IT READS IS OF BULK AT MOST 1048576: true; the input reads as it did. -/
def seamFindsUptoRow : OpenClaim := { program := "ytkmpcncehicpmaa", sum := "70815bb8f37276b3dd5b6a2e88f2ae2137ef0a75366cff8c82f0ccb60165ecaa", func := "redoubt/redoubtlaw17.SeamFinds", spec := "seamFinds", apart := false, narrowed := true }
def SeamFindsUptoSaid : Prop := seamFindsUptoRow.holds Try.pinned (OpenSpec.upto seamFindsSpec)

/-- 'redoubtlaw17.SeamNever', WHERE WHAT IT READS IS OF BULK AT MOST 1048576: true; the input reads as it did. -/
def seamNeverUptoRow : OpenClaim := { program := "ytkmpcncehicpmaa", sum := "70815bb8f37276b3dd5b6a2e88f2ae2137ef0a75366cff8c82f0ccb60165ecaa", func := "redoubt/redoubtlaw17.SeamNever", spec := "seamNever", apart := false, narrowed := true }
def SeamNeverUptoSaid : Prop := seamNeverUptoRow.holds Try.pinned (OpenSpec.upto seamNeverSpec)

end Rows
end Go.Proofs.Ytkmpcncehicpmaa
