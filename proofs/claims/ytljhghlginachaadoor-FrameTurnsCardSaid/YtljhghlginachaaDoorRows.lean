/-
  NARROWER THAN 'FOR EVERY INPUT', by the rows' own cells (each row's printed sentence says how): FrameSeals: laid · FrameOpens: laid · FrameCuts: laid · FrameBehind: laid · FrameTurns: laid · FrameLong: laid.
  DERIVED. THE GIVEN ROWS OF THIS SEAT. 6 by the template 'for every input the law returns true; each argument reads behind the call as it read before'; 0 by the template 'total and deterministic' (their statements: YtljhghlginachaaDoorTotals.lean).
  GIVEN WITH THE SEED: the statements are not yours to turn. If you find one false, say at which input.
  Laid BY PROGRAM, IN A SANDBOX (cutbox-rows.mjs): the forced cells as the released guide's own fill.sh prints them over the translation 50c6cf2041bf5783… (all of the seat's roots in one cut). By AI agents, Wed Nov 11 2026. No macro, syntax, notation, axiom, sorry.
-/
import Derived.Test.YtljhghlginachaaDoorChecked
import GoSem.Claim
import GoSem.ClaimJoined
import GoSem.ClaimMapViews
import Derived.JoinedTies
import Derived.KernelRfl
namespace Go.Proofs.YtljhghlginachaaDoor
/- THE CELL 'sum', in the pinned program and in every row, IS THE sha256 OF THE DUMP (.gsa) THAT YtljhghlginachaaDoorProg.lean LOADS. Nothing in Lean hashes anything: it is a label: what it is worth is what the hold of that sum in a sandbox is worth. -/
noncomputable def Tryd.pinned : Pinned := { name := "ytljhghlginachaadoor", sum := "50c6cf2041bf57830721209f40f97985b1a6b124141d72d360c985a767b46607", checked := Tryd.checked }
namespace Rows
def none {H : Type} : Left H := { results := [], args := [] }

/- WHAT THE LISTED PACKAGE-LEVEL VARIABLES READ AS WHEN THE CALL BEGINS. Each datum BY PROGRAM (the guide's laid-datum.mjs) off the statement by which the dump's own 'gosem.cut.vars' lays the variable. In a bare row this is a premise. The card (YtljhghlginachaaDoorCards.lean) ties it to the program's text. -/
def laid_redoubt_crc_moved {H : Type} : DataW H := .agg [.lit (.int .u32 0), .lit (.int .u32 498536548), .lit (.int .u32 997073096), .lit (.int .u32 651767980), .lit (.int .u32 1994146192), .lit (.int .u32 1802195444), .lit (.int .u32 1303535960), .lit (.int .u32 1342533948), .lit (.int .u32 3988292384), .lit (.int .u32 4027552580), .lit (.int .u32 3604390888), .lit (.int .u32 3412177804), .lit (.int .u32 2607071920), .lit (.int .u32 2262029012), .lit (.int .u32 2685067896), .lit (.int .u32 3183342108)]

/-- 'redoubtlaw04.FrameSeals': WHATEVER THE INPUT: true; the input reads as it did. -/
def frameSealsSpec : ChangeSpec := { name := "frameSeals", fn := fun _ => fun
  | [d] => { results := [.lit (.bool true)], args := [d] }
  | _ => none }
def frameSealsRow : OpenClaim := { program := "ytljhghlginachaadoor", sum := "50c6cf2041bf57830721209f40f97985b1a6b124141d72d360c985a767b46607", func := "redoubt/redoubtlaw04.FrameSeals", spec := "frameSeals", inPlace := ["internal/abi.NoEscape"], unfollowed := true, recurses := true, named := ["redoubt/crc.moved"], apart := false, laid := [("redoubt/crc.moved", laid_redoubt_crc_moved)] }
def FrameSealsSaid : Prop := frameSealsRow.holds Tryd.pinned (OpenSpec.ofChange frameSealsSpec)

/-- ITS FALSE NEIGHBOUR: 'it returns false'. Refute it at one input. -/
def frameSealsWrong : ChangeSpec := { name := "frameSeals", fn := fun _ => fun
  | [d] => { results := [.lit (.bool false)], args := [d] }
  | _ => none }
def FrameSealsWrongFalsely : Prop := frameSealsRow.holds Tryd.pinned (OpenSpec.ofChange frameSealsWrong)

/-- 'redoubtlaw04.FrameOpens': WHATEVER THE INPUT: true; the input reads as it did. -/
def frameOpensSpec : ChangeSpec := { name := "frameOpens", fn := fun _ => fun
  | [d] => { results := [.lit (.bool true)], args := [d] }
  | _ => none }
def frameOpensRow : OpenClaim := { program := "ytljhghlginachaadoor", sum := "50c6cf2041bf57830721209f40f97985b1a6b124141d72d360c985a767b46607", func := "redoubt/redoubtlaw04.FrameOpens", spec := "frameOpens", inPlace := ["internal/abi.NoEscape"], unfollowed := true, recurses := true, named := ["redoubt/crc.moved"], apart := false, laid := [("redoubt/crc.moved", laid_redoubt_crc_moved)] }
def FrameOpensSaid : Prop := frameOpensRow.holds Tryd.pinned (OpenSpec.ofChange frameOpensSpec)

/-- ITS FALSE NEIGHBOUR: 'it returns false'. Refute it at one input. -/
def frameOpensWrong : ChangeSpec := { name := "frameOpens", fn := fun _ => fun
  | [d] => { results := [.lit (.bool false)], args := [d] }
  | _ => none }
def FrameOpensWrongFalsely : Prop := frameOpensRow.holds Tryd.pinned (OpenSpec.ofChange frameOpensWrong)

/-- 'redoubtlaw04.FrameCuts': WHATEVER THE INPUT: true; the input reads as it did. -/
def frameCutsSpec : ChangeSpec := { name := "frameCuts", fn := fun _ => fun
  | [d1, d2] => { results := [.lit (.bool true)], args := [d1, d2] }
  | _ => none }
def frameCutsRow : OpenClaim := { program := "ytljhghlginachaadoor", sum := "50c6cf2041bf57830721209f40f97985b1a6b124141d72d360c985a767b46607", func := "redoubt/redoubtlaw04.FrameCuts", spec := "frameCuts", inPlace := ["internal/abi.NoEscape"], unfollowed := true, recurses := true, named := ["redoubt/crc.moved"], apart := false, laid := [("redoubt/crc.moved", laid_redoubt_crc_moved)] }
def FrameCutsSaid : Prop := frameCutsRow.holds Tryd.pinned (OpenSpec.ofChange frameCutsSpec)

/-- ITS FALSE NEIGHBOUR: 'it returns false'. Refute it at one input. -/
def frameCutsWrong : ChangeSpec := { name := "frameCuts", fn := fun _ => fun
  | [d1, d2] => { results := [.lit (.bool false)], args := [d1, d2] }
  | _ => none }
def FrameCutsWrongFalsely : Prop := frameCutsRow.holds Tryd.pinned (OpenSpec.ofChange frameCutsWrong)

/-- 'redoubtlaw04.FrameBehind': WHATEVER THE INPUT: true; the input reads as it did. -/
def frameBehindSpec : ChangeSpec := { name := "frameBehind", fn := fun _ => fun
  | [d1, d2] => { results := [.lit (.bool true)], args := [d1, d2] }
  | _ => none }
def frameBehindRow : OpenClaim := { program := "ytljhghlginachaadoor", sum := "50c6cf2041bf57830721209f40f97985b1a6b124141d72d360c985a767b46607", func := "redoubt/redoubtlaw04.FrameBehind", spec := "frameBehind", inPlace := ["internal/abi.NoEscape"], unfollowed := true, recurses := true, named := ["redoubt/crc.moved"], apart := false, laid := [("redoubt/crc.moved", laid_redoubt_crc_moved)] }
def FrameBehindSaid : Prop := frameBehindRow.holds Tryd.pinned (OpenSpec.ofChange frameBehindSpec)

/-- ITS FALSE NEIGHBOUR: 'it returns false'. Refute it at one input. -/
def frameBehindWrong : ChangeSpec := { name := "frameBehind", fn := fun _ => fun
  | [d1, d2] => { results := [.lit (.bool false)], args := [d1, d2] }
  | _ => none }
def FrameBehindWrongFalsely : Prop := frameBehindRow.holds Tryd.pinned (OpenSpec.ofChange frameBehindWrong)

/-- 'redoubtlaw04.FrameTurns': WHATEVER THE INPUT: true; the input reads as it did. -/
def frameTurnsSpec : ChangeSpec := { name := "frameTurns", fn := fun _ => fun
  | [d1, d2] => { results := [.lit (.bool true)], args := [d1, d2] }
  | _ => none }
def frameTurnsRow : OpenClaim := { program := "ytljhghlginachaadoor", sum := "50c6cf2041bf57830721209f40f97985b1a6b124141d72d360c985a767b46607", func := "redoubt/redoubtlaw04.FrameTurns", spec := "frameTurns", inPlace := ["internal/abi.NoEscape"], unfollowed := true, recurses := true, named := ["redoubt/crc.moved"], apart := false, laid := [("redoubt/crc.moved", laid_redoubt_crc_moved)] }
def FrameTurnsSaid : Prop := frameTurnsRow.holds Tryd.pinned (OpenSpec.ofChange frameTurnsSpec)

/-- ITS FALSE NEIGHBOUR: 'it returns false'. Refute it at one input. -/
def frameTurnsWrong : ChangeSpec := { name := "frameTurns", fn := fun _ => fun
  | [d1, d2] => { results := [.lit (.bool false)], args := [d1, d2] }
  | _ => none }
def FrameTurnsWrongFalsely : Prop := frameTurnsRow.holds Tryd.pinned (OpenSpec.ofChange frameTurnsWrong)

/-- 'redoubtlaw04.FrameLong': WHATEVER THE INPUT: true; the input reads as it did. -/
def frameLongSpec : ChangeSpec := { name := "frameLong", fn := fun _ => fun
  | [d] => { results := [.lit (.bool true)], args := [d] }
  | _ => none }
def frameLongRow : OpenClaim := { program := "ytljhghlginachaadoor", sum := "50c6cf2041bf57830721209f40f97985b1a6b124141d72d360c985a767b46607", func := "redoubt/redoubtlaw04.FrameLong", spec := "frameLong", inPlace := ["internal/abi.NoEscape"], unfollowed := true, recurses := true, named := ["redoubt/crc.moved"], apart := false, laid := [("redoubt/crc.moved", laid_redoubt_crc_moved)] }
def FrameLongSaid : Prop := frameLongRow.holds Tryd.pinned (OpenSpec.ofChange frameLongSpec)

/-- ITS FALSE NEIGHBOUR: 'it returns false'. Refute it at one input. -/
def frameLongWrong : ChangeSpec := { name := "frameLong", fn := fun _ => fun
  | [d] => { results := [.lit (.bool false)], args := [d] }
  | _ => none }
def FrameLongWrongFalsely : Prop := frameLongRow.holds Tryd.pinned (OpenSpec.ofChange frameLongWrong)

/- THE SECOND FORM. 'bulk': how many values and letters a reading holds, each counted each time it is reached (what is shared counts as often as it is met; a slice's spare places count too). A statement '..UptoSaid' is the law's where the arguments, and the package variables that the reading takes, are together of bulk at most 1048576: NARROWER than '..Said'. Prove '..Said' where nothing that the law and all that it calls make is longer than what came in: it says more and counts as full. Else prove '..UptoSaid'. A law counts once. -/
mutual
def uptoBulk {H : Type} : DataW H → Nat
  | .lit (.string bytes) => bytes.length + 1
  | .lit _ => 1
  | .nil => 1
  | .ptr d => uptoBulk d + 1
  | .slice elems spare => uptoBulkAll elems + uptoBulkAll spare + 1
  | .agg parts => uptoBulkAll parts + 1
  | .iface _ d => uptoBulk d + 1
  | .map entries => uptoBulkEntries entries + 1
  | .held _ => 1
def uptoBulkAll {H : Type} : List (DataW H) → Nat
  | [] => 0
  | d :: r => uptoBulk d + uptoBulkAll r
def uptoBulkEntries {H : Type} : List (Lit × DataW H) → Nat
  | [] => 0
  | x :: r => uptoBulkEntry x + uptoBulkEntries r
def uptoBulkEntry {H : Type} : Lit × DataW H → Nat
  | (.string bytes, d) => bytes.length + uptoBulk d + 1
  | (_, d) => uptoBulk d + 1
 end
def uptoSmall : (H : Type) → List (DataW H) → Bool := fun _ ds => decide (uptoBulkAll ds ≤ 1048576)
def OpenSpec.upto (s : _root_.Go.ChangeSpec) : _root_.Go.OpenSpec := { _root_.Go.OpenSpec.ofChange s with cond := some uptoSmall }

/-- 'redoubtlaw04.FrameSeals', WHERE WHAT IT READS IS OF BULK AT MOST 1048576: true; the input reads as it did. -/
def frameSealsUptoRow : OpenClaim := { program := "ytljhghlginachaadoor", sum := "50c6cf2041bf57830721209f40f97985b1a6b124141d72d360c985a767b46607", func := "redoubt/redoubtlaw04.FrameSeals", spec := "frameSeals", inPlace := ["internal/abi.NoEscape"], unfollowed := true, recurses := true, named := ["redoubt/crc.moved"], apart := false, laid := [("redoubt/crc.moved", laid_redoubt_crc_moved)], narrowed := true }
def FrameSealsUptoSaid : Prop := frameSealsUptoRow.holds Tryd.pinned (OpenSpec.upto frameSealsSpec)

/-- 'redoubtlaw04.FrameOpens', WHERE WHAT IT READS IS OF BULK AT MOST 1048576: true; the input reads as it did. -/
def frameOpensUptoRow : OpenClaim := { program := "ytljhghlginachaadoor", sum := "50c6cf2041bf57830721209f40f97985b1a6b124141d72d360c985a767b46607", func := "redoubt/redoubtlaw04.FrameOpens", spec := "frameOpens", inPlace := ["internal/abi.NoEscape"], unfollowed := true, recurses := true, named := ["redoubt/crc.moved"], apart := false, laid := [("redoubt/crc.moved", laid_redoubt_crc_moved)], narrowed := true }
def FrameOpensUptoSaid : Prop := frameOpensUptoRow.holds Tryd.pinned (OpenSpec.upto frameOpensSpec)

/-- 'redoubtlaw04.FrameCuts', WHERE WHAT IT READS IS OF BULK AT MOST 1048576: true; the input reads as it did. -/
def frameCutsUptoRow : OpenClaim := { program := "ytljhghlginachaadoor", sum := "50c6cf2041bf57830721209f40f97985b1a6b124141d72d360c985a767b46607", func := "redoubt/redoubtlaw04.FrameCuts", spec := "frameCuts", inPlace := ["internal/abi.NoEscape"], unfollowed := true, recurses := true, named := ["redoubt/crc.moved"], apart := false, laid := [("redoubt/crc.moved", laid_redoubt_crc_moved)], narrowed := true }
def FrameCutsUptoSaid : Prop := frameCutsUptoRow.holds Tryd.pinned (OpenSpec.upto frameCutsSpec)

/-- 'redoubtlaw04.FrameBehind', WHERE WHAT IT READS IS OF BULK AT MOST 1048576: true; the input reads as it did. -/
def frameBehindUptoRow : OpenClaim := { program := "ytljhghlginachaadoor", sum := "50c6cf2041bf57830721209f40f97985b1a6b124141d72d360c985a767b46607", func := "redoubt/redoubtlaw04.FrameBehind", spec := "frameBehind", inPlace := ["internal/abi.NoEscape"], unfollowed := true, recurses := true, named := ["redoubt/crc.moved"], apart := false, laid := [("redoubt/crc.moved", laid_redoubt_crc_moved)], narrowed := true }
def FrameBehindUptoSaid : Prop := frameBehindUptoRow.holds Tryd.pinned (OpenSpec.upto frameBehindSpec)

/-- 'redoubtlaw04.FrameTurns', WHERE WHAT IT READS IS OF BULK AT MOST 1048576: true; the input reads as it did. -/
def frameTurnsUptoRow : OpenClaim := { program := "ytljhghlginachaadoor", sum := "50c6cf2041bf57830721209f40f97985b1a6b124141d72d360c985a767b46607", func := "redoubt/redoubtlaw04.FrameTurns", spec := "frameTurns", inPlace := ["internal/abi.NoEscape"], unfollowed := true, recurses := true, named := ["redoubt/crc.moved"], apart := false, laid := [("redoubt/crc.moved", laid_redoubt_crc_moved)], narrowed := true }
def FrameTurnsUptoSaid : Prop := frameTurnsUptoRow.holds Tryd.pinned (OpenSpec.upto frameTurnsSpec)

/-- 'redoubtlaw04.FrameLong', WHERE WHAT IT READS IS OF BULK AT MOST 1048576: true; the input reads as it did. -/
def frameLongUptoRow : OpenClaim := { program := "ytljhghlginachaadoor", sum := "50c6cf2041bf57830721209f40f97985b1a6b124141d72d360c985a767b46607", func := "redoubt/redoubtlaw04.FrameLong", spec := "frameLong", inPlace := ["internal/abi.NoEscape"], unfollowed := true, recurses := true, named := ["redoubt/crc.moved"], apart := false, laid := [("redoubt/crc.moved", laid_redoubt_crc_moved)], narrowed := true }
def FrameLongUptoSaid : Prop := frameLongUptoRow.holds Tryd.pinned (OpenSpec.upto frameLongSpec)

end Rows
end Go.Proofs.YtljhghlginachaaDoor
