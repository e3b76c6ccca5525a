/-
  DERIVED. GIVEN WITH THE SEED: THE CARDS: each row of YtgcdfoadegojcaaDoorRows.lean that lists a variable, with what it lists TIED to the program's text (the seventh form; the later family's looks); each row that meets fmt, with fmt's text TOLD by the authors' own Lean function (tested against real Go, not proved from fmt's source: count such statements apart). THE CARD IS WHAT COUNTS. Prove the row's statement (the work); the ties are given (YtgcdfoadegojcaaDoorTie.lean); close each card by the builder's one call (the guide's Derived/Test/ToyasCard.lean, 'card_holds'). Laid BY PROGRAM, IN A SANDBOX (cutbox-door.mjs). By AI agents, Wed Nov 11 2026. No macro, syntax, notation, axiom, sorry.
-/
import Derived.Test.YtgcdfoadegojcaaDoorRows
import GoSem.ClaimSeven
namespace Go.Proofs.YtgcdfoadegojcaaDoor
namespace Rows

/-- THE TIED CARD OF 'redoubtlaw03.ShaSums'. -/
def shaSumsCard : Claim7 := { stood := { row := shaSumsRow, standIns := [], harness := (true, "0ab72ff0dec9ace90104c044ae8dd32381088a58639f1f24554c6b47d4894e6c"), looks := false }, kinds := [], alts := [], laidByText := true, laidKinds := [.data, .data], laidTests := true, laidLooks := .later }
def ShaSumsCardSaid : Prop := Claim7.holds Tryd.pinned (.plain (OpenSpec.ofChange shaSumsSpec)) shaSumsCard

/-- THE TIED CARD OF 'redoubtlaw08.SheetMakes'. -/
def sheetMakesCard : Claim7 := { stood := { row := sheetMakesRow, standIns := [], harness := (true, "0ab72ff0dec9ace90104c044ae8dd32381088a58639f1f24554c6b47d4894e6c"), looks := false }, kinds := [], alts := [], laidByText := true, laidKinds := [.data, .data], laidTests := true, laidLooks := .later }
def SheetMakesCardSaid : Prop := Claim7.holds Tryd.pinned (.plain (OpenSpec.ofChange sheetMakesSpec)) sheetMakesCard

/-- THE TIED CARD OF 'redoubtlaw08.SheetBuilds'. -/
def sheetBuildsCard : Claim7 := { stood := { row := sheetBuildsRow, standIns := [], harness := (true, "0ab72ff0dec9ace90104c044ae8dd32381088a58639f1f24554c6b47d4894e6c"), looks := false }, kinds := [], alts := [], laidByText := true, laidKinds := [.data, .data], laidTests := true, laidLooks := .later }
def SheetBuildsCardSaid : Prop := Claim7.holds Tryd.pinned (.plain (OpenSpec.ofChange sheetBuildsSpec)) sheetBuildsCard

/-- THE TIED CARD OF 'redoubtlaw08.SheetParses'. -/
def sheetParsesCard : Claim7 := { stood := { row := sheetParsesRow, standIns := [], harness := (true, "0ab72ff0dec9ace90104c044ae8dd32381088a58639f1f24554c6b47d4894e6c"), looks := false }, kinds := [], alts := [], laidByText := true, laidKinds := [.data, .data], laidTests := true, laidLooks := .later }
def SheetParsesCardSaid : Prop := Claim7.holds Tryd.pinned (.plain (OpenSpec.ofChange sheetParsesSpec)) sheetParsesCard

/-- THE TIED CARD OF 'redoubtlaw08.SheetBack'. -/
def sheetBackCard : Claim7 := { stood := { row := sheetBackRow, standIns := [], harness := (true, "0ab72ff0dec9ace90104c044ae8dd32381088a58639f1f24554c6b47d4894e6c"), looks := false }, kinds := [], alts := [], laidByText := true, laidKinds := [.data, .data], laidTests := true, laidLooks := .later }
def SheetBackCardSaid : Prop := Claim7.holds Tryd.pinned (.plain (OpenSpec.ofChange sheetBackSpec)) sheetBackCard

/-- THE TIED CARD OF 'redoubtlaw08.SheetElse'. -/
def sheetElseCard : Claim7 := { stood := { row := sheetElseRow, standIns := [], harness := (true, "0ab72ff0dec9ace90104c044ae8dd32381088a58639f1f24554c6b47d4894e6c"), looks := false }, kinds := [], alts := [], laidByText := true, laidKinds := [.data, .data], laidTests := true, laidLooks := .later }
def SheetElseCardSaid : Prop := Claim7.holds Tryd.pinned (.plain (OpenSpec.ofChange sheetElseSpec)) sheetElseCard

/-- THE TIED CARD OF 'redoubtlaw08.SheetOne'. -/
def sheetOneCard : Claim7 := { stood := { row := sheetOneRow, standIns := [], harness := (true, "0ab72ff0dec9ace90104c044ae8dd32381088a58639f1f24554c6b47d4894e6c"), looks := false }, kinds := [], alts := [], laidByText := true, laidKinds := [.data, .data], laidTests := true, laidLooks := .later }
def SheetOneCardSaid : Prop := Claim7.holds Tryd.pinned (.plain (OpenSpec.ofChange sheetOneSpec)) sheetOneCard

/-- THE SECOND FORM's CARD OF 'redoubtlaw03.ShaSums'. -/
def shaSumsUptoCard : Claim7 := { stood := { row := shaSumsUptoRow, standIns := [], harness := (true, "0ab72ff0dec9ace90104c044ae8dd32381088a58639f1f24554c6b47d4894e6c"), looks := false }, kinds := [], alts := [], laidByText := true, laidKinds := [.data, .data], laidTests := true, laidLooks := .later }
def ShaSumsUptoCardSaid : Prop := Claim7.holds Tryd.pinned (.plain (OpenSpec.upto shaSumsSpec)) shaSumsUptoCard

/-- THE SECOND FORM's CARD OF 'redoubtlaw08.SheetMakes'. -/
def sheetMakesUptoCard : Claim7 := { stood := { row := sheetMakesUptoRow, standIns := [], harness := (true, "0ab72ff0dec9ace90104c044ae8dd32381088a58639f1f24554c6b47d4894e6c"), looks := false }, kinds := [], alts := [], laidByText := true, laidKinds := [.data, .data], laidTests := true, laidLooks := .later }
def SheetMakesUptoCardSaid : Prop := Claim7.holds Tryd.pinned (.plain (OpenSpec.upto sheetMakesSpec)) sheetMakesUptoCard

/-- THE SECOND FORM's CARD OF 'redoubtlaw08.SheetBuilds'. -/
def sheetBuildsUptoCard : Claim7 := { stood := { row := sheetBuildsUptoRow, standIns := [], harness := (true, "0ab72ff0dec9ace90104c044ae8dd32381088a58639f1f24554c6b47d4894e6c"), looks := false }, kinds := [], alts := [], laidByText := true, laidKinds := [.data, .data], laidTests := true, laidLooks := .later }
def SheetBuildsUptoCardSaid : Prop := Claim7.holds Tryd.pinned (.plain (OpenSpec.upto sheetBuildsSpec)) sheetBuildsUptoCard

/-- THE SECOND FORM's CARD OF 'redoubtlaw08.SheetParses'. -/
def sheetParsesUptoCard : Claim7 := { stood := { row := sheetParsesUptoRow, standIns := [], harness := (true, "0ab72ff0dec9ace90104c044ae8dd32381088a58639f1f24554c6b47d4894e6c"), looks := false }, kinds := [], alts := [], laidByText := true, laidKinds := [.data, .data], laidTests := true, laidLooks := .later }
def SheetParsesUptoCardSaid : Prop := Claim7.holds Tryd.pinned (.plain (OpenSpec.upto sheetParsesSpec)) sheetParsesUptoCard

/-- THE SECOND FORM's CARD OF 'redoubtlaw08.SheetBack'. -/
def sheetBackUptoCard : Claim7 := { stood := { row := sheetBackUptoRow, standIns := [], harness := (true, "0ab72ff0dec9ace90104c044ae8dd32381088a58639f1f24554c6b47d4894e6c"), looks := false }, kinds := [], alts := [], laidByText := true, laidKinds := [.data, .data], laidTests := true, laidLooks := .later }
def SheetBackUptoCardSaid : Prop := Claim7.holds Tryd.pinned (.plain (OpenSpec.upto sheetBackSpec)) sheetBackUptoCard

/-- THE SECOND FORM's CARD OF 'redoubtlaw08.SheetElse'. -/
def sheetElseUptoCard : Claim7 := { stood := { row := sheetElseUptoRow, standIns := [], harness := (true, "0ab72ff0dec9ace90104c044ae8dd32381088a58639f1f24554c6b47d4894e6c"), looks := false }, kinds := [], alts := [], laidByText := true, laidKinds := [.data, .data], laidTests := true, laidLooks := .later }
def SheetElseUptoCardSaid : Prop := Claim7.holds Tryd.pinned (.plain (OpenSpec.upto sheetElseSpec)) sheetElseUptoCard

/-- THE SECOND FORM's CARD OF 'redoubtlaw08.SheetOne'. -/
def sheetOneUptoCard : Claim7 := { stood := { row := sheetOneUptoRow, standIns := [], harness := (true, "0ab72ff0dec9ace90104c044ae8dd32381088a58639f1f24554c6b47d4894e6c"), looks := false }, kinds := [], alts := [], laidByText := true, laidKinds := [.data, .data], laidTests := true, laidLooks := .later }
def SheetOneUptoCardSaid : Prop := Claim7.holds Tryd.pinned (.plain (OpenSpec.upto sheetOneSpec)) sheetOneUptoCard
end Rows
end Go.Proofs.YtgcdfoadegojcaaDoor
