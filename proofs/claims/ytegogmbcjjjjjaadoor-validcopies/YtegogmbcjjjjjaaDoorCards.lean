/-
  DERIVED. GIVEN WITH THE SEED: THE CARDS: each row of YtegogmbcjjjjjaaDoorRows.lean that lists a variable, with what it lists TIED to the program's text (the seventh form; the later family's looks); each row that meets fmt, with fmt's text TOLD by the authors' own Lean function (tested against real Go, not proved from fmt's source: count such statements apart). THE CARD IS WHAT COUNTS. Prove the row's statement (the work); the ties are given (YtegogmbcjjjjjaaDoorTie.lean); close each card by the builder's one call (the guide's Derived/Test/ToyasCard.lean, 'card_holds'). Laid BY PROGRAM, IN A SANDBOX (cutbox-door.mjs). By AI agents, Wed Nov 11 2026. No macro, syntax, notation, axiom, sorry.
-/
import Derived.Test.YtegogmbcjjjjjaaDoorRows
import GoSem.ClaimSeven
namespace Go.Proofs.YtegogmbcjjjjjaaDoor
namespace Rows

/-- THE TIED CARD OF 'palinglaw8.ValidCopies'. -/
def validCopiesCard : Claim7 := { stood := { row := validCopiesRow, standIns := [], harness := (true, "d8d0ed966c1358cabab013030bcdc972567a3bedeeef9876b87164c2b7fc7dae"), looks := true }, kinds := [], alts := [], laidByText := true, laidKinds := [.data, .data, .data, .data, .pinned], laidTests := true, laidLooks := .later }
def ValidCopiesCardSaid : Prop := Claim7.holds Tryd.pinned (.plain (OpenSpec.ofChange validCopiesSpec)) validCopiesCard

/-- THE SECOND FORM's CARD OF 'palinglaw8.ValidCopies'. -/
def validCopiesUptoCard : Claim7 := { stood := { row := validCopiesUptoRow, standIns := [], harness := (true, "d8d0ed966c1358cabab013030bcdc972567a3bedeeef9876b87164c2b7fc7dae"), looks := true }, kinds := [], alts := [], laidByText := true, laidKinds := [.data, .data, .data, .data, .pinned], laidTests := true, laidLooks := .later }
def ValidCopiesUptoCardSaid : Prop := Claim7.holds Tryd.pinned (.plain (OpenSpec.upto validCopiesSpec)) validCopiesUptoCard
end Rows
end Go.Proofs.YtegogmbcjjjjjaaDoor
