/-
  DERIVED. GIVEN WITH THE SEED: THE CARDS: each row of YtfgnogdlkhagdaaDoorRows.lean that lists a variable, with what it lists TIED to the program's text (the seventh form; the later family's looks); each row that meets fmt, with fmt's text TOLD by the authors' own Lean function (tested against real Go, not proved from fmt's source: count such statements apart). THE CARD IS WHAT COUNTS. Prove the row's statement (the work); the ties are given (YtfgnogdlkhagdaaDoorTie.lean); close each card by the builder's one call (the guide's Derived/Test/ToyasCard.lean, 'card_holds'). Laid BY PROGRAM, IN A SANDBOX (cutbox-door.mjs). By AI agents, Wed Nov 11 2026. No macro, syntax, notation, axiom, sorry.
-/
import Derived.Test.YtfgnogdlkhagdaaDoorRows
import GoSem.ClaimSeven
namespace Go.Proofs.YtfgnogdlkhagdaaDoor
namespace Rows

/-- THE TIED CARD OF 'palinglaw5.LexShown'. -/
def lexShownCard : Claim7 := { stood := { row := lexShownRow, standIns := [], harness := (true, "c51ef58052c2ffff3681f10d27001d804b5ca617a39464b4000e59f1f23fcb46"), looks := true }, kinds := [], alts := [], laidByText := true, laidKinds := [.data, .data, .data, .data, .sentinel, .sentinel, .pinned], laidTests := true, laidLooks := .later }
def LexShownCardSaid : Prop := Claim7.holds Tryd.pinned (.plain (OpenSpec.ofChange lexShownSpec)) lexShownCard

/-- THE TIED CARD OF 'palinglaw8.ValidBent'. -/
def validBentCard : Claim7 := { stood := { row := validBentRow, standIns := [], harness := (true, "c51ef58052c2ffff3681f10d27001d804b5ca617a39464b4000e59f1f23fcb46"), looks := true }, kinds := [], alts := [], laidByText := true, laidKinds := [.data, .data, .data, .data, .pinned], laidTests := true, laidLooks := .later }
def ValidBentCardSaid : Prop := Claim7.holds Tryd.pinned (.plain (OpenSpec.ofChange validBentSpec)) validBentCard

/-- THE TIED CARD OF 'palinglaw8.ValidCopies'. -/
def validCopiesCard : Claim7 := { stood := { row := validCopiesRow, standIns := [], harness := (true, "c51ef58052c2ffff3681f10d27001d804b5ca617a39464b4000e59f1f23fcb46"), looks := true }, kinds := [], alts := [], laidByText := true, laidKinds := [.data, .data, .data, .data, .pinned], laidTests := true, laidLooks := .later }
def ValidCopiesCardSaid : Prop := Claim7.holds Tryd.pinned (.plain (OpenSpec.ofChange validCopiesSpec)) validCopiesCard

/-- THE TIED CARD OF 'palinglaw9.ShowApart'. -/
def showApartCard : Claim7 := { stood := { row := showApartRow, standIns := [], harness := (true, "c51ef58052c2ffff3681f10d27001d804b5ca617a39464b4000e59f1f23fcb46"), looks := true }, kinds := [], alts := [], laidByText := true, laidKinds := [.data, .data, .data, .data, .data, .data, .data, .pinned], laidTests := true, laidLooks := .later }
def ShowApartCardSaid : Prop := Claim7.holds Tryd.pinned (.plain (OpenSpec.ofChange showApartSpec)) showApartCard

/-- THE SECOND FORM's CARD OF 'palinglaw5.LexShown'. -/
def lexShownUptoCard : Claim7 := { stood := { row := lexShownUptoRow, standIns := [], harness := (true, "c51ef58052c2ffff3681f10d27001d804b5ca617a39464b4000e59f1f23fcb46"), looks := true }, kinds := [], alts := [], laidByText := true, laidKinds := [.data, .data, .data, .data, .sentinel, .sentinel, .pinned], laidTests := true, laidLooks := .later }
def LexShownUptoCardSaid : Prop := Claim7.holds Tryd.pinned (.plain (OpenSpec.upto lexShownSpec)) lexShownUptoCard

/-- THE SECOND FORM's CARD OF 'palinglaw8.ValidBent'. -/
def validBentUptoCard : Claim7 := { stood := { row := validBentUptoRow, standIns := [], harness := (true, "c51ef58052c2ffff3681f10d27001d804b5ca617a39464b4000e59f1f23fcb46"), looks := true }, kinds := [], alts := [], laidByText := true, laidKinds := [.data, .data, .data, .data, .pinned], laidTests := true, laidLooks := .later }
def ValidBentUptoCardSaid : Prop := Claim7.holds Tryd.pinned (.plain (OpenSpec.upto validBentSpec)) validBentUptoCard

/-- THE SECOND FORM's CARD OF 'palinglaw8.ValidCopies'. -/
def validCopiesUptoCard : Claim7 := { stood := { row := validCopiesUptoRow, standIns := [], harness := (true, "c51ef58052c2ffff3681f10d27001d804b5ca617a39464b4000e59f1f23fcb46"), looks := true }, kinds := [], alts := [], laidByText := true, laidKinds := [.data, .data, .data, .data, .pinned], laidTests := true, laidLooks := .later }
def ValidCopiesUptoCardSaid : Prop := Claim7.holds Tryd.pinned (.plain (OpenSpec.upto validCopiesSpec)) validCopiesUptoCard

/-- THE SECOND FORM's CARD OF 'palinglaw9.ShowApart'. -/
def showApartUptoCard : Claim7 := { stood := { row := showApartUptoRow, standIns := [], harness := (true, "c51ef58052c2ffff3681f10d27001d804b5ca617a39464b4000e59f1f23fcb46"), looks := true }, kinds := [], alts := [], laidByText := true, laidKinds := [.data, .data, .data, .data, .data, .data, .data, .pinned], laidTests := true, laidLooks := .later }
def ShowApartUptoCardSaid : Prop := Claim7.holds Tryd.pinned (.plain (OpenSpec.upto showApartSpec)) showApartUptoCard
end Rows
end Go.Proofs.YtfgnogdlkhagdaaDoor
