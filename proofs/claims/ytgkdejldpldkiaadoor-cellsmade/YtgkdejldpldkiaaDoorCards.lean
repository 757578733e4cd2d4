/-
  DERIVED. GIVEN WITH THE SEED: THE CARDS: each row of YtgkdejldpldkiaaDoorRows.lean that lists a variable, with what it lists TIED to the program's text (the seventh form; the later family's looks); each row that meets fmt, with fmt's text TOLD by the authors' own Lean function (tested against real Go, not proved from fmt's source: count such statements apart). THE CARD IS WHAT COUNTS. Prove the row's statement (the work); the ties are given (YtgkdejldpldkiaaDoorTie.lean); close each card by the builder's one call (the guide's Derived/Test/ToyasCard.lean, 'card_holds'). Laid BY PROGRAM, IN A SANDBOX (cutbox-door.mjs). By AI agents, Wed Nov 11 2026. No macro, syntax, notation, axiom, sorry.
-/
import Derived.Test.YtgkdejldpldkiaaDoorRows
import GoSem.ClaimSeven
namespace Go.Proofs.YtgkdejldpldkiaaDoor
namespace Rows

/-- THE TIED CARD OF 'palinglaw8.ValidBent'. -/
def validBentCard : Claim7 := { stood := { row := validBentRow, standIns := [], harness := (true, "33b54774ea476754749749d7180a320e592bccbfb70f7cc9355931879888fe9a"), looks := true }, kinds := [], alts := [], laidByText := true, laidKinds := [.data, .data, .data, .data, .pinned], laidTests := true, laidLooks := .later }
def ValidBentCardSaid : Prop := Claim7.holds Tryd.pinned (.plain (OpenSpec.ofChange validBentSpec)) validBentCard

/-- THE TIED CARD OF 'palinglaw8.ValidCopies'. -/
def validCopiesCard : Claim7 := { stood := { row := validCopiesRow, standIns := [], harness := (true, "33b54774ea476754749749d7180a320e592bccbfb70f7cc9355931879888fe9a"), looks := true }, kinds := [], alts := [], laidByText := true, laidKinds := [.data, .data, .data, .data, .pinned], laidTests := true, laidLooks := .later }
def ValidCopiesCardSaid : Prop := Claim7.holds Tryd.pinned (.plain (OpenSpec.ofChange validCopiesSpec)) validCopiesCard

/-- THE TIED CARD OF 'palinglaw11.CellsTell'. -/
def cellsTellCard : Claim7 := { stood := { row := cellsTellRow, standIns := [], harness := (true, "33b54774ea476754749749d7180a320e592bccbfb70f7cc9355931879888fe9a"), looks := true }, kinds := [], alts := [], laidByText := true, laidKinds := [.data, .data, .data, .data, .pinned], laidTests := true, laidLooks := .later }
def CellsTellCardSaid : Prop := Claim7.holds Tryd.pinned (.plain (OpenSpec.ofChange cellsTellSpec)) cellsTellCard

/-- THE TIED CARD OF 'palinglaw11.CellsMade'. -/
def cellsMadeCard : Claim7 := { stood := { row := cellsMadeRow, standIns := [], harness := (true, "33b54774ea476754749749d7180a320e592bccbfb70f7cc9355931879888fe9a"), looks := true }, kinds := [], alts := [], laidByText := true, laidKinds := [.data, .data, .data, .data, .pinned], laidTests := true, laidLooks := .later }
def CellsMadeCardSaid : Prop := Claim7.holds Tryd.pinned (.plain (OpenSpec.ofChange cellsMadeSpec)) cellsMadeCard

/-- THE TIED CARD OF 'palinglaw11.CellsBack'. -/
def cellsBackCard : Claim7 := { stood := { row := cellsBackRow, standIns := [], harness := (true, "33b54774ea476754749749d7180a320e592bccbfb70f7cc9355931879888fe9a"), looks := true }, kinds := [], alts := [], laidByText := true, laidKinds := [.data, .data, .data, .data, .pinned], laidTests := true, laidLooks := .later }
def CellsBackCardSaid : Prop := Claim7.holds Tryd.pinned (.plain (OpenSpec.ofChange cellsBackSpec)) cellsBackCard

/-- THE TIED CARD OF 'palinglaw11.CellsBounds'. -/
def cellsBoundsCard : Claim7 := { stood := { row := cellsBoundsRow, standIns := [], harness := (true, "33b54774ea476754749749d7180a320e592bccbfb70f7cc9355931879888fe9a"), looks := true }, kinds := [], alts := [], laidByText := true, laidKinds := [.data, .data, .data, .data, .pinned], laidTests := true, laidLooks := .later }
def CellsBoundsCardSaid : Prop := Claim7.holds Tryd.pinned (.plain (OpenSpec.ofChange cellsBoundsSpec)) cellsBoundsCard

/-- THE SECOND FORM's CARD OF 'palinglaw8.ValidBent'. -/
def validBentUptoCard : Claim7 := { stood := { row := validBentUptoRow, standIns := [], harness := (true, "33b54774ea476754749749d7180a320e592bccbfb70f7cc9355931879888fe9a"), looks := true }, kinds := [], alts := [], laidByText := true, laidKinds := [.data, .data, .data, .data, .pinned], laidTests := true, laidLooks := .later }
def ValidBentUptoCardSaid : Prop := Claim7.holds Tryd.pinned (.plain (OpenSpec.upto validBentSpec)) validBentUptoCard

/-- THE SECOND FORM's CARD OF 'palinglaw8.ValidCopies'. -/
def validCopiesUptoCard : Claim7 := { stood := { row := validCopiesUptoRow, standIns := [], harness := (true, "33b54774ea476754749749d7180a320e592bccbfb70f7cc9355931879888fe9a"), looks := true }, kinds := [], alts := [], laidByText := true, laidKinds := [.data, .data, .data, .data, .pinned], laidTests := true, laidLooks := .later }
def ValidCopiesUptoCardSaid : Prop := Claim7.holds Tryd.pinned (.plain (OpenSpec.upto validCopiesSpec)) validCopiesUptoCard

/-- THE SECOND FORM's CARD OF 'palinglaw11.CellsTell'. -/
def cellsTellUptoCard : Claim7 := { stood := { row := cellsTellUptoRow, standIns := [], harness := (true, "33b54774ea476754749749d7180a320e592bccbfb70f7cc9355931879888fe9a"), looks := true }, kinds := [], alts := [], laidByText := true, laidKinds := [.data, .data, .data, .data, .pinned], laidTests := true, laidLooks := .later }
def CellsTellUptoCardSaid : Prop := Claim7.holds Tryd.pinned (.plain (OpenSpec.upto cellsTellSpec)) cellsTellUptoCard

/-- THE SECOND FORM's CARD OF 'palinglaw11.CellsMade'. -/
def cellsMadeUptoCard : Claim7 := { stood := { row := cellsMadeUptoRow, standIns := [], harness := (true, "33b54774ea476754749749d7180a320e592bccbfb70f7cc9355931879888fe9a"), looks := true }, kinds := [], alts := [], laidByText := true, laidKinds := [.data, .data, .data, .data, .pinned], laidTests := true, laidLooks := .later }
def CellsMadeUptoCardSaid : Prop := Claim7.holds Tryd.pinned (.plain (OpenSpec.upto cellsMadeSpec)) cellsMadeUptoCard

/-- THE SECOND FORM's CARD OF 'palinglaw11.CellsBack'. -/
def cellsBackUptoCard : Claim7 := { stood := { row := cellsBackUptoRow, standIns := [], harness := (true, "33b54774ea476754749749d7180a320e592bccbfb70f7cc9355931879888fe9a"), looks := true }, kinds := [], alts := [], laidByText := true, laidKinds := [.data, .data, .data, .data, .pinned], laidTests := true, laidLooks := .later }
def CellsBackUptoCardSaid : Prop := Claim7.holds Tryd.pinned (.plain (OpenSpec.upto cellsBackSpec)) cellsBackUptoCard

/-- THE SECOND FORM's CARD OF 'palinglaw11.CellsBounds'. -/
def cellsBoundsUptoCard : Claim7 := { stood := { row := cellsBoundsUptoRow, standIns := [], harness := (true, "33b54774ea476754749749d7180a320e592bccbfb70f7cc9355931879888fe9a"), looks := true }, kinds := [], alts := [], laidByText := true, laidKinds := [.data, .data, .data, .data, .pinned], laidTests := true, laidLooks := .later }
def CellsBoundsUptoCardSaid : Prop := Claim7.holds Tryd.pinned (.plain (OpenSpec.upto cellsBoundsSpec)) cellsBoundsUptoCard
end Rows
end Go.Proofs.YtgkdejldpldkiaaDoor
