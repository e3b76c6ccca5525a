/-
  DERIVED. GIVEN WITH THE SEED: THE CARDS: each row of YtamkalgbimifkaaDoorRows.lean that lists a variable, with what it lists TIED to the program's text (the seventh form; the later family's looks); each row that meets fmt, with fmt's text TOLD by the authors' own Lean function (tested against real Go, not proved from fmt's source: count such statements apart). THE CARD IS WHAT COUNTS. Prove the row's statement (the work); the ties are given (YtamkalgbimifkaaDoorTie.lean); close each card by the builder's one call (the guide's Derived/Test/ToyasCard.lean, 'card_holds'). Laid BY PROGRAM, IN A SANDBOX (cutbox-door.mjs). By AI agents, Wed Nov 11 2026. No macro, syntax, notation, axiom, sorry.
-/
import Derived.Test.YtamkalgbimifkaaDoorRows
import GoSem.ClaimSeven
namespace Go.Proofs.YtamkalgbimifkaaDoor
namespace Rows

/-- THE TIED CARD OF 'redoubtlaw19.HuntNil'. -/
def huntNilCard : Claim7 := { stood := { row := huntNilRow, standIns := [], harness := (true, "5b22e95654dfae603fd0045a0af88541357cda12faa328e730f1e6ecce963c72"), looks := false }, kinds := [], alts := [], laidByText := true, laidKinds := [.data, .data], laidTests := true, laidLooks := .later }
def HuntNilCardSaid : Prop := Claim7.holds Tryd.pinned (.plain (OpenSpec.ofChange huntNilSpec)) huntNilCard

/-- THE SECOND FORM's CARD OF 'redoubtlaw19.HuntNil'. -/
def huntNilUptoCard : Claim7 := { stood := { row := huntNilUptoRow, standIns := [], harness := (true, "5b22e95654dfae603fd0045a0af88541357cda12faa328e730f1e6ecce963c72"), looks := false }, kinds := [], alts := [], laidByText := true, laidKinds := [.data, .data], laidTests := true, laidLooks := .later }
def HuntNilUptoCardSaid : Prop := Claim7.holds Tryd.pinned (.plain (OpenSpec.upto huntNilSpec)) huntNilUptoCard
end Rows
end Go.Proofs.YtamkalgbimifkaaDoor
