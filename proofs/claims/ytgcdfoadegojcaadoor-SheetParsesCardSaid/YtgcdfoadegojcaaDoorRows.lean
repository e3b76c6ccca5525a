/-
  NARROWER THAN 'FOR EVERY INPUT', by the rows' own cells (each row's printed sentence says how): ShaSums: laid · SheetMakes: laid · SheetBuilds: laid · SheetParses: laid · SheetBack: laid · SheetElse: laid · SheetOne: laid.
  DERIVED. THE GIVEN ROWS OF THIS SEAT. 7 by the template 'for every input the law returns true; each argument reads behind the call as it read before'; 0 by the template 'total and deterministic' (their statements: YtgcdfoadegojcaaDoorTotals.lean).
  GIVEN WITH THE SEED: the statements are not yours to turn. If you find one false, say at which input.
  Laid BY PROGRAM, IN A SANDBOX (cutbox-rows.mjs): the forced cells as the released guide's own fill.sh prints them over the translation 8488d9bad9e487f8… (all of the seat's roots in one cut). By AI agents, Wed Nov 11 2026. No macro, syntax, notation, axiom, sorry.
-/
import Derived.Test.YtgcdfoadegojcaaDoorChecked
import GoSem.Claim
import GoSem.ClaimJoined
import GoSem.ClaimMapViews
import Derived.JoinedTies
import Derived.KernelRfl
namespace Go.Proofs.YtgcdfoadegojcaaDoor
/- THE CELL 'sum', in the pinned program and in every row, IS THE sha256 OF THE DUMP (.gsa) THAT YtgcdfoadegojcaaDoorProg.lean LOADS. Nothing in Lean hashes anything: it is a label: what it is worth is what the hold of that sum in a sandbox is worth. -/
noncomputable def Tryd.pinned : Pinned := { name := "ytgcdfoadegojcaadoor", sum := "8488d9bad9e487f8c3bf1c39662c516e972df05f023ca37d864f5d0b19e77480", checked := Tryd.checked }
namespace Rows
def none {H : Type} : Left H := { results := [], args := [] }

/- WHAT THE LISTED PACKAGE-LEVEL VARIABLES READ AS WHEN THE CALL BEGINS. Each datum BY PROGRAM (the guide's laid-datum.mjs) off the statement by which the dump's own 'gosem.cut.vars' lays the variable. In a bare row this is a premise. The card (YtgcdfoadegojcaaDoorCards.lean) ties it to the program's text. -/
def laid_redoubt_sha_first {H : Type} : DataW H := .agg [.lit (.int .u32 1779033703), .lit (.int .u32 3144134277), .lit (.int .u32 1013904242), .lit (.int .u32 2773480762), .lit (.int .u32 1359893119), .lit (.int .u32 2600822924), .lit (.int .u32 528734635), .lit (.int .u32 1541459225)]
def laid_redoubt_sha_cubes {H : Type} : DataW H := .agg [.lit (.int .u32 1116352408), .lit (.int .u32 1899447441), .lit (.int .u32 3049323471), .lit (.int .u32 3921009573), .lit (.int .u32 961987163), .lit (.int .u32 1508970993), .lit (.int .u32 2453635748), .lit (.int .u32 2870763221), .lit (.int .u32 3624381080), .lit (.int .u32 310598401), .lit (.int .u32 607225278), .lit (.int .u32 1426881987), .lit (.int .u32 1925078388), .lit (.int .u32 2162078206), .lit (.int .u32 2614888103), .lit (.int .u32 3248222580), .lit (.int .u32 3835390401), .lit (.int .u32 4022224774), .lit (.int .u32 264347078), .lit (.int .u32 604807628), .lit (.int .u32 770255983), .lit (.int .u32 1249150122), .lit (.int .u32 1555081692), .lit (.int .u32 1996064986), .lit (.int .u32 2554220882), .lit (.int .u32 2821834349), .lit (.int .u32 2952996808), .lit (.int .u32 3210313671), .lit (.int .u32 3336571891), .lit (.int .u32 3584528711), .lit (.int .u32 113926993), .lit (.int .u32 338241895), .lit (.int .u32 666307205), .lit (.int .u32 773529912), .lit (.int .u32 1294757372), .lit (.int .u32 1396182291), .lit (.int .u32 1695183700), .lit (.int .u32 1986661051), .lit (.int .u32 2177026350), .lit (.int .u32 2456956037), .lit (.int .u32 2730485921), .lit (.int .u32 2820302411), .lit (.int .u32 3259730800), .lit (.int .u32 3345764771), .lit (.int .u32 3516065817), .lit (.int .u32 3600352804), .lit (.int .u32 4094571909), .lit (.int .u32 275423344), .lit (.int .u32 430227734), .lit (.int .u32 506948616), .lit (.int .u32 659060556), .lit (.int .u32 883997877), .lit (.int .u32 958139571), .lit (.int .u32 1322822218), .lit (.int .u32 1537002063), .lit (.int .u32 1747873779), .lit (.int .u32 1955562222), .lit (.int .u32 2024104815), .lit (.int .u32 2227730452), .lit (.int .u32 2361852424), .lit (.int .u32 2428436474), .lit (.int .u32 2756734187), .lit (.int .u32 3204031479), .lit (.int .u32 3329325298)]

/-- 'redoubtlaw03.ShaSums': WHATEVER THE INPUT: true; the input reads as it did. -/
def shaSumsSpec : ChangeSpec := { name := "shaSums", fn := fun _ => fun
  | [d] => { results := [.lit (.bool true)], args := [d] }
  | _ => none }
def shaSumsRow : OpenClaim := { program := "ytgcdfoadegojcaadoor", sum := "8488d9bad9e487f8c3bf1c39662c516e972df05f023ca37d864f5d0b19e77480", func := "redoubt/redoubtlaw03.ShaSums", spec := "shaSums", inPlace := ["internal/abi.NoEscape", "internal/bytealg.MakeNoZero"], named := ["redoubt/sha.first", "redoubt/sha.cubes"], apart := false, laid := [("redoubt/sha.first", laid_redoubt_sha_first), ("redoubt/sha.cubes", laid_redoubt_sha_cubes)] }
def ShaSumsSaid : Prop := shaSumsRow.holds Tryd.pinned (OpenSpec.ofChange shaSumsSpec)

/-- ITS FALSE NEIGHBOUR: 'it returns false'. Refute it at one input. -/
def shaSumsWrong : ChangeSpec := { name := "shaSums", fn := fun _ => fun
  | [d] => { results := [.lit (.bool false)], args := [d] }
  | _ => none }
def ShaSumsWrongFalsely : Prop := shaSumsRow.holds Tryd.pinned (OpenSpec.ofChange shaSumsWrong)

/-- 'redoubtlaw08.SheetMakes': WHATEVER THE INPUT: true; the input reads as it did. -/
def sheetMakesSpec : ChangeSpec := { name := "sheetMakes", fn := fun _ => fun
  | [d] => { results := [.lit (.bool true)], args := [d] }
  | _ => none }
def sheetMakesRow : OpenClaim := { program := "ytgcdfoadegojcaadoor", sum := "8488d9bad9e487f8c3bf1c39662c516e972df05f023ca37d864f5d0b19e77480", func := "redoubt/redoubtlaw08.SheetMakes", spec := "sheetMakes", inPlace := ["internal/abi.NoEscape", "internal/bytealg.MakeNoZero"], named := ["redoubt/sha.first", "redoubt/sha.cubes"], apart := false, laid := [("redoubt/sha.first", laid_redoubt_sha_first), ("redoubt/sha.cubes", laid_redoubt_sha_cubes)] }
def SheetMakesSaid : Prop := sheetMakesRow.holds Tryd.pinned (OpenSpec.ofChange sheetMakesSpec)

/-- ITS FALSE NEIGHBOUR: 'it returns false'. Refute it at one input. -/
def sheetMakesWrong : ChangeSpec := { name := "sheetMakes", fn := fun _ => fun
  | [d] => { results := [.lit (.bool false)], args := [d] }
  | _ => none }
def SheetMakesWrongFalsely : Prop := sheetMakesRow.holds Tryd.pinned (OpenSpec.ofChange sheetMakesWrong)

/-- 'redoubtlaw08.SheetBuilds': WHATEVER THE INPUT: true; the input reads as it did. -/
def sheetBuildsSpec : ChangeSpec := { name := "sheetBuilds", fn := fun _ => fun
  | [d1, d2] => { results := [.lit (.bool true)], args := [d1, d2] }
  | _ => none }
def sheetBuildsRow : OpenClaim := { program := "ytgcdfoadegojcaadoor", sum := "8488d9bad9e487f8c3bf1c39662c516e972df05f023ca37d864f5d0b19e77480", func := "redoubt/redoubtlaw08.SheetBuilds", spec := "sheetBuilds", inPlace := ["internal/abi.NoEscape", "internal/bytealg.MakeNoZero"], named := ["redoubt/sha.first", "redoubt/sha.cubes"], apart := false, laid := [("redoubt/sha.first", laid_redoubt_sha_first), ("redoubt/sha.cubes", laid_redoubt_sha_cubes)] }
def SheetBuildsSaid : Prop := sheetBuildsRow.holds Tryd.pinned (OpenSpec.ofChange sheetBuildsSpec)

/-- ITS FALSE NEIGHBOUR: 'it returns false'. Refute it at one input. -/
def sheetBuildsWrong : ChangeSpec := { name := "sheetBuilds", fn := fun _ => fun
  | [d1, d2] => { results := [.lit (.bool false)], args := [d1, d2] }
  | _ => none }
def SheetBuildsWrongFalsely : Prop := sheetBuildsRow.holds Tryd.pinned (OpenSpec.ofChange sheetBuildsWrong)

/-- 'redoubtlaw08.SheetParses': WHATEVER THE INPUT: true; the input reads as it did. -/
def sheetParsesSpec : ChangeSpec := { name := "sheetParses", fn := fun _ => fun
  | [d1, d2] => { results := [.lit (.bool true)], args := [d1, d2] }
  | _ => none }
def sheetParsesRow : OpenClaim := { program := "ytgcdfoadegojcaadoor", sum := "8488d9bad9e487f8c3bf1c39662c516e972df05f023ca37d864f5d0b19e77480", func := "redoubt/redoubtlaw08.SheetParses", spec := "sheetParses", inPlace := ["internal/abi.NoEscape", "internal/bytealg.MakeNoZero"], unfollowed := true, recurses := true, named := ["redoubt/sha.first", "redoubt/sha.cubes"], apart := false, laid := [("redoubt/sha.first", laid_redoubt_sha_first), ("redoubt/sha.cubes", laid_redoubt_sha_cubes)] }
def SheetParsesSaid : Prop := sheetParsesRow.holds Tryd.pinned (OpenSpec.ofChange sheetParsesSpec)

/-- ITS FALSE NEIGHBOUR: 'it returns false'. Refute it at one input. -/
def sheetParsesWrong : ChangeSpec := { name := "sheetParses", fn := fun _ => fun
  | [d1, d2] => { results := [.lit (.bool false)], args := [d1, d2] }
  | _ => none }
def SheetParsesWrongFalsely : Prop := sheetParsesRow.holds Tryd.pinned (OpenSpec.ofChange sheetParsesWrong)

/-- 'redoubtlaw08.SheetBack': WHATEVER THE INPUT: true; the input reads as it did. -/
def sheetBackSpec : ChangeSpec := { name := "sheetBack", fn := fun _ => fun
  | [d] => { results := [.lit (.bool true)], args := [d] }
  | _ => none }
def sheetBackRow : OpenClaim := { program := "ytgcdfoadegojcaadoor", sum := "8488d9bad9e487f8c3bf1c39662c516e972df05f023ca37d864f5d0b19e77480", func := "redoubt/redoubtlaw08.SheetBack", spec := "sheetBack", inPlace := ["internal/abi.NoEscape", "internal/bytealg.MakeNoZero"], unfollowed := true, recurses := true, named := ["redoubt/sha.first", "redoubt/sha.cubes"], apart := false, laid := [("redoubt/sha.first", laid_redoubt_sha_first), ("redoubt/sha.cubes", laid_redoubt_sha_cubes)] }
def SheetBackSaid : Prop := sheetBackRow.holds Tryd.pinned (OpenSpec.ofChange sheetBackSpec)

/-- ITS FALSE NEIGHBOUR: 'it returns false'. Refute it at one input. -/
def sheetBackWrong : ChangeSpec := { name := "sheetBack", fn := fun _ => fun
  | [d] => { results := [.lit (.bool false)], args := [d] }
  | _ => none }
def SheetBackWrongFalsely : Prop := sheetBackRow.holds Tryd.pinned (OpenSpec.ofChange sheetBackWrong)

/-- 'redoubtlaw08.SheetElse': WHATEVER THE INPUT: true; the input reads as it did. -/
def sheetElseSpec : ChangeSpec := { name := "sheetElse", fn := fun _ => fun
  | [d1, d2, d3] => { results := [.lit (.bool true)], args := [d1, d2, d3] }
  | _ => none }
def sheetElseRow : OpenClaim := { program := "ytgcdfoadegojcaadoor", sum := "8488d9bad9e487f8c3bf1c39662c516e972df05f023ca37d864f5d0b19e77480", func := "redoubt/redoubtlaw08.SheetElse", spec := "sheetElse", inPlace := ["internal/abi.NoEscape", "internal/bytealg.MakeNoZero"], named := ["redoubt/sha.first", "redoubt/sha.cubes"], apart := false, laid := [("redoubt/sha.first", laid_redoubt_sha_first), ("redoubt/sha.cubes", laid_redoubt_sha_cubes)] }
def SheetElseSaid : Prop := sheetElseRow.holds Tryd.pinned (OpenSpec.ofChange sheetElseSpec)

/-- ITS FALSE NEIGHBOUR: 'it returns false'. Refute it at one input. -/
def sheetElseWrong : ChangeSpec := { name := "sheetElse", fn := fun _ => fun
  | [d1, d2, d3] => { results := [.lit (.bool false)], args := [d1, d2, d3] }
  | _ => none }
def SheetElseWrongFalsely : Prop := sheetElseRow.holds Tryd.pinned (OpenSpec.ofChange sheetElseWrong)

/-- 'redoubtlaw08.SheetOne': WHATEVER THE INPUT: true; the input reads as it did. -/
def sheetOneSpec : ChangeSpec := { name := "sheetOne", fn := fun _ => fun
  | [d1, d2] => { results := [.lit (.bool true)], args := [d1, d2] }
  | _ => none }
def sheetOneRow : OpenClaim := { program := "ytgcdfoadegojcaadoor", sum := "8488d9bad9e487f8c3bf1c39662c516e972df05f023ca37d864f5d0b19e77480", func := "redoubt/redoubtlaw08.SheetOne", spec := "sheetOne", inPlace := ["internal/abi.NoEscape", "internal/bytealg.MakeNoZero"], named := ["redoubt/sha.first", "redoubt/sha.cubes"], apart := false, laid := [("redoubt/sha.first", laid_redoubt_sha_first), ("redoubt/sha.cubes", laid_redoubt_sha_cubes)] }
def SheetOneSaid : Prop := sheetOneRow.holds Tryd.pinned (OpenSpec.ofChange sheetOneSpec)

/-- ITS FALSE NEIGHBOUR: 'it returns false'. Refute it at one input. -/
def sheetOneWrong : ChangeSpec := { name := "sheetOne", fn := fun _ => fun
  | [d1, d2] => { results := [.lit (.bool false)], args := [d1, d2] }
  | _ => none }
def SheetOneWrongFalsely : Prop := sheetOneRow.holds Tryd.pinned (OpenSpec.ofChange sheetOneWrong)

/- THE SECOND FORM. 'bulk': how many values and letters a reading holds, each counted each time it is reached (what is shared counts as often as it is met; a slice's spare places count too). A statement '..UptoSaid' is the law's where the arguments, and the package variables that the reading takes, are together of bulk at most 1048576: NARROWER than '..Said'. Prove '..Said' where nothing that the law and all that it calls make is longer than what came in: it says more and counts as full. Else prove '..UptoSaid'. A law counts once. -/
mutual
def uptoBulk {H : Type} : DataW H → Nat
  | .lit (.string bytes) => bytes.length + 1
  | .lit _ => 1
  | .nil => 1
  | .ptr d => uptoBulk d + 1
  | .slice elems spare => uptoBulkAll elems + uptoBulkAll spare + 1
  | .agg parts => uptoBulkAll parts + 1
  | .iface _ d => uptoBulk d + 1
  | .map entries => uptoBulkEntries entries + 1
  | .held _ => 1
def uptoBulkAll {H : Type} : List (DataW H) → Nat
  | [] => 0
  | d :: r => uptoBulk d + uptoBulkAll r
def uptoBulkEntries {H : Type} : List (Lit × DataW H) → Nat
  | [] => 0
  | x :: r => uptoBulkEntry x + uptoBulkEntries r
def uptoBulkEntry {H : Type} : Lit × DataW H → Nat
  | (.string bytes, d) => bytes.length + uptoBulk d + 1
  | (_, d) => uptoBulk d + 1
 end
def uptoSmall : (H : Type) → List (DataW H) → Bool := fun _ ds => decide (uptoBulkAll ds ≤ 1048576)
def OpenSpec.upto (s : _root_.Go.ChangeSpec) : _root_.Go.OpenSpec := { _root_.Go.OpenSpec.ofChange s with cond := some uptoSmall }

/-- 'redoubtlaw03.ShaSums', WHERE WHAT IT READS IS OF BULK AT MOST 1048576: true; the input reads as it did. -/
def shaSumsUptoRow : OpenClaim := { program := "ytgcdfoadegojcaadoor", sum := "8488d9bad9e487f8c3bf1c39662c516e972df05f023ca37d864f5d0b19e77480", func := "redoubt/redoubtlaw03.ShaSums", spec := "shaSums", inPlace := ["internal/abi.NoEscape", "internal/bytealg.MakeNoZero"], named := ["redoubt/sha.first", "redoubt/sha.cubes"], apart := false, laid := [("redoubt/sha.first", laid_redoubt_sha_first), ("redoubt/sha.cubes", laid_redoubt_sha_cubes)], narrowed := true }
def ShaSumsUptoSaid : Prop := shaSumsUptoRow.holds Tryd.pinned (OpenSpec.upto shaSumsSpec)

/-- 'redoubtlaw08.SheetMakes', WHERE WHAT IT READS IS OF BULK AT MOST 1048576: true; the input reads as it did. -/
def sheetMakesUptoRow : OpenClaim := { program := "ytgcdfoadegojcaadoor", sum := "8488d9bad9e487f8c3bf1c39662c516e972df05f023ca37d864f5d0b19e77480", func := "redoubt/redoubtlaw08.SheetMakes", spec := "sheetMakes", inPlace := ["internal/abi.NoEscape", "internal/bytealg.MakeNoZero"], named := ["redoubt/sha.first", "redoubt/sha.cubes"], apart := false, laid := [("redoubt/sha.first", laid_redoubt_sha_first), ("redoubt/sha.cubes", laid_redoubt_sha_cubes)], narrowed := true }
def SheetMakesUptoSaid : Prop := sheetMakesUptoRow.holds Tryd.pinned (OpenSpec.upto sheetMakesSpec)

/-- 'redoubtlaw08.SheetBuilds', WHERE WHAT IT READS IS OF BULK AT MOST 1048576: true; the input reads as it did. -/
def sheetBuildsUptoRow : OpenClaim := { program := "ytgcdfoadegojcaadoor", sum := "8488d9bad9e487f8c3bf1c39662c516e972df05f023ca37d864f5d0b19e77480", func := "redoubt/redoubtlaw08.SheetBuilds", spec := "sheetBuilds", inPlace := ["internal/abi.NoEscape", "internal/bytealg.MakeNoZero"], named := ["redoubt/sha.first", "redoubt/sha.cubes"], apart := false, laid := [("redoubt/sha.first", laid_redoubt_sha_first), ("redoubt/sha.cubes", laid_redoubt_sha_cubes)], narrowed := true }
def SheetBuildsUptoSaid : Prop := sheetBuildsUptoRow.holds Tryd.pinned (OpenSpec.upto sheetBuildsSpec)

/-- 'redoubtlaw08.SheetParses', WHERE WHAT IT READS IS OF BULK AT MOST 1048576: true; the input reads as it did. -/
def sheetParsesUptoRow : OpenClaim := { program := "ytgcdfoadegojcaadoor", sum := "8488d9bad9e487f8c3bf1c39662c516e972df05f023ca37d864f5d0b19e77480", func := "redoubt/redoubtlaw08.SheetParses", spec := "sheetParses", inPlace := ["internal/abi.NoEscape", "internal/bytealg.MakeNoZero"], unfollowed := true, recurses := true, named := ["redoubt/sha.first", "redoubt/sha.cubes"], apart := false, laid := [("redoubt/sha.first", laid_redoubt_sha_first), ("redoubt/sha.cubes", laid_redoubt_sha_cubes)], narrowed := true }
def SheetParsesUptoSaid : Prop := sheetParsesUptoRow.holds Tryd.pinned (OpenSpec.upto sheetParsesSpec)

/-- 'redoubtlaw08.SheetBack', WHERE WHAT IT READS IS OF BULK AT MOST 1048576: true; the input reads as it did. -/
def sheetBackUptoRow : OpenClaim := { program := "ytgcdfoadegojcaadoor", sum := "8488d9bad9e487f8c3bf1c39662c516e972df05f023ca37d864f5d0b19e77480", func := "redoubt/redoubtlaw08.SheetBack", spec := "sheetBack", inPlace := ["internal/abi.NoEscape", "internal/bytealg.MakeNoZero"], unfollowed := true, recurses := true, named := ["redoubt/sha.first", "redoubt/sha.cubes"], apart := false, laid := [("redoubt/sha.first", laid_redoubt_sha_first), ("redoubt/sha.cubes", laid_redoubt_sha_cubes)], narrowed := true }
def SheetBackUptoSaid : Prop := sheetBackUptoRow.holds Tryd.pinned (OpenSpec.upto sheetBackSpec)

/-- 'redoubtlaw08.SheetElse', WHERE WHAT IT READS IS OF BULK AT MOST 1048576: true; the input reads as it did. -/
def sheetElseUptoRow : OpenClaim := { program := "ytgcdfoadegojcaadoor", sum := "8488d9bad9e487f8c3bf1c39662c516e972df05f023ca37d864f5d0b19e77480", func := "redoubt/redoubtlaw08.SheetElse", spec := "sheetElse", inPlace := ["internal/abi.NoEscape", "internal/bytealg.MakeNoZero"], named := ["redoubt/sha.first", "redoubt/sha.cubes"], apart := false, laid := [("redoubt/sha.first", laid_redoubt_sha_first), ("redoubt/sha.cubes", laid_redoubt_sha_cubes)], narrowed := true }
def SheetElseUptoSaid : Prop := sheetElseUptoRow.holds Tryd.pinned (OpenSpec.upto sheetElseSpec)

/-- 'redoubtlaw08.SheetOne', WHERE WHAT IT READS IS OF BULK AT MOST 1048576: true; the input reads as it did. -/
def sheetOneUptoRow : OpenClaim := { program := "ytgcdfoadegojcaadoor", sum := "8488d9bad9e487f8c3bf1c39662c516e972df05f023ca37d864f5d0b19e77480", func := "redoubt/redoubtlaw08.SheetOne", spec := "sheetOne", inPlace := ["internal/abi.NoEscape", "internal/bytealg.MakeNoZero"], named := ["redoubt/sha.first", "redoubt/sha.cubes"], apart := false, laid := [("redoubt/sha.first", laid_redoubt_sha_first), ("redoubt/sha.cubes", laid_redoubt_sha_cubes)], narrowed := true }
def SheetOneUptoSaid : Prop := sheetOneUptoRow.holds Tryd.pinned (OpenSpec.upto sheetOneSpec)

end Rows
end Go.Proofs.YtgcdfoadegojcaaDoor
