/-
  DERIVED. GIVEN WITH THE SEED: THE CARDS: each row of YtkceppfimbkeoaaDoorRows.lean that lists a variable, with what it lists TIED to the program's text (the seventh form; the later family's looks); each row that meets fmt, with fmt's text TOLD by the authors' own Lean function (tested against real Go, not proved from fmt's source: count such statements apart). THE CARD IS WHAT COUNTS. Prove the row's statement (the work); the ties are given (YtkceppfimbkeoaaDoorTie.lean); close each card by the builder's one call (the guide's Derived/Test/ToyasCard.lean, 'card_holds'). Laid BY PROGRAM, IN A SANDBOX (cutbox-door.mjs). By AI agents, Wed Nov 11 2026. No macro, syntax, notation, axiom, sorry.
-/
import Derived.Test.YtkceppfimbkeoaaDoorRows
import GoSem.ClaimSeven
namespace Go.Proofs.YtkceppfimbkeoaaDoor
namespace Rows

/-- THE TIED CARD OF 'palinglaw8.ValidTells'. -/
def validTellsCard : Claim7 := { stood := { row := validTellsRow, standIns := [], harness := (true, "850066f8f15ab3c92d67e66924738e01e40831b9f233e76a2685de24e6d9b237"), looks := true }, kinds := [], alts := [], laidByText := true, laidKinds := [.data, .data, .data, .data, .pinned], laidTests := true, laidLooks := .later }
def ValidTellsCardSaid : Prop := Claim7.holds Tryd.pinned (.plain (OpenSpec.ofChange validTellsSpec)) validTellsCard

/-- THE TIED CARD OF 'palinglaw8.ValidBent'. -/
def validBentCard : Claim7 := { stood := { row := validBentRow, standIns := [], harness := (true, "850066f8f15ab3c92d67e66924738e01e40831b9f233e76a2685de24e6d9b237"), looks := true }, kinds := [], alts := [], laidByText := true, laidKinds := [.data, .data, .data, .data, .pinned], laidTests := true, laidLooks := .later }
def ValidBentCardSaid : Prop := Claim7.holds Tryd.pinned (.plain (OpenSpec.ofChange validBentSpec)) validBentCard

/-- THE TIED CARD OF 'palinglaw8.ValidMany'. -/
def validManyCard : Claim7 := { stood := { row := validManyRow, standIns := [], harness := (true, "850066f8f15ab3c92d67e66924738e01e40831b9f233e76a2685de24e6d9b237"), looks := true }, kinds := [], alts := [], laidByText := true, laidKinds := [.data, .data, .data, .data, .pinned], laidTests := true, laidLooks := .later }
def ValidManyCardSaid : Prop := Claim7.holds Tryd.pinned (.plain (OpenSpec.ofChange validManySpec)) validManyCard

/-- THE TIED CARD OF 'palinglaw8.ValidLong'. -/
def validLongCard : Claim7 := { stood := { row := validLongRow, standIns := [], harness := (true, "850066f8f15ab3c92d67e66924738e01e40831b9f233e76a2685de24e6d9b237"), looks := true }, kinds := [], alts := [], laidByText := true, laidKinds := [.data, .data, .data, .data, .pinned], laidTests := true, laidLooks := .later }
def ValidLongCardSaid : Prop := Claim7.holds Tryd.pinned (.plain (OpenSpec.ofChange validLongSpec)) validLongCard

/-- THE TIED CARD OF 'palinglaw8.ValidCopies'. -/
def validCopiesCard : Claim7 := { stood := { row := validCopiesRow, standIns := [], harness := (true, "850066f8f15ab3c92d67e66924738e01e40831b9f233e76a2685de24e6d9b237"), looks := true }, kinds := [], alts := [], laidByText := true, laidKinds := [.data, .data, .data, .data, .pinned], laidTests := true, laidLooks := .later }
def ValidCopiesCardSaid : Prop := Claim7.holds Tryd.pinned (.plain (OpenSpec.ofChange validCopiesSpec)) validCopiesCard

/-- THE TIED CARD OF 'palinglaw8.ValidFinds'. -/
def validFindsCard : Claim7 := { stood := { row := validFindsRow, standIns := [], harness := (true, "850066f8f15ab3c92d67e66924738e01e40831b9f233e76a2685de24e6d9b237"), looks := true }, kinds := [], alts := [], laidByText := true, laidKinds := [.data, .data, .data, .data, .pinned], laidTests := true, laidLooks := .later }
def ValidFindsCardSaid : Prop := Claim7.holds Tryd.pinned (.plain (OpenSpec.ofChange validFindsSpec)) validFindsCard

/-- THE SECOND FORM's CARD OF 'palinglaw8.ValidTells'. -/
def validTellsUptoCard : Claim7 := { stood := { row := validTellsUptoRow, standIns := [], harness := (true, "850066f8f15ab3c92d67e66924738e01e40831b9f233e76a2685de24e6d9b237"), looks := true }, kinds := [], alts := [], laidByText := true, laidKinds := [.data, .data, .data, .data, .pinned], laidTests := true, laidLooks := .later }
def ValidTellsUptoCardSaid : Prop := Claim7.holds Tryd.pinned (.plain (OpenSpec.upto validTellsSpec)) validTellsUptoCard

/-- THE SECOND FORM's CARD OF 'palinglaw8.ValidBent'. -/
def validBentUptoCard : Claim7 := { stood := { row := validBentUptoRow, standIns := [], harness := (true, "850066f8f15ab3c92d67e66924738e01e40831b9f233e76a2685de24e6d9b237"), looks := true }, kinds := [], alts := [], laidByText := true, laidKinds := [.data, .data, .data, .data, .pinned], laidTests := true, laidLooks := .later }
def ValidBentUptoCardSaid : Prop := Claim7.holds Tryd.pinned (.plain (OpenSpec.upto validBentSpec)) validBentUptoCard

/-- THE SECOND FORM's CARD OF 'palinglaw8.ValidMany'. -/
def validManyUptoCard : Claim7 := { stood := { row := validManyUptoRow, standIns := [], harness := (true, "850066f8f15ab3c92d67e66924738e01e40831b9f233e76a2685de24e6d9b237"), looks := true }, kinds := [], alts := [], laidByText := true, laidKinds := [.data, .data, .data, .data, .pinned], laidTests := true, laidLooks := .later }
def ValidManyUptoCardSaid : Prop := Claim7.holds Tryd.pinned (.plain (OpenSpec.upto validManySpec)) validManyUptoCard

/-- THE SECOND FORM's CARD OF 'palinglaw8.ValidLong'. -/
def validLongUptoCard : Claim7 := { stood := { row := validLongUptoRow, standIns := [], harness := (true, "850066f8f15ab3c92d67e66924738e01e40831b9f233e76a2685de24e6d9b237"), looks := true }, kinds := [], alts := [], laidByText := true, laidKinds := [.data, .data, .data, .data, .pinned], laidTests := true, laidLooks := .later }
def ValidLongUptoCardSaid : Prop := Claim7.holds Tryd.pinned (.plain (OpenSpec.upto validLongSpec)) validLongUptoCard

/-- THE SECOND FORM's CARD OF 'palinglaw8.ValidCopies'. -/
def validCopiesUptoCard : Claim7 := { stood := { row := validCopiesUptoRow, standIns := [], harness := (true, "850066f8f15ab3c92d67e66924738e01e40831b9f233e76a2685de24e6d9b237"), looks := true }, kinds := [], alts := [], laidByText := true, laidKinds := [.data, .data, .data, .data, .pinned], laidTests := true, laidLooks := .later }
def ValidCopiesUptoCardSaid : Prop := Claim7.holds Tryd.pinned (.plain (OpenSpec.upto validCopiesSpec)) validCopiesUptoCard

/-- THE SECOND FORM's CARD OF 'palinglaw8.ValidFinds'. -/
def validFindsUptoCard : Claim7 := { stood := { row := validFindsUptoRow, standIns := [], harness := (true, "850066f8f15ab3c92d67e66924738e01e40831b9f233e76a2685de24e6d9b237"), looks := true }, kinds := [], alts := [], laidByText := true, laidKinds := [.data, .data, .data, .data, .pinned], laidTests := true, laidLooks := .later }
def ValidFindsUptoCardSaid : Prop := Claim7.holds Tryd.pinned (.plain (OpenSpec.upto validFindsSpec)) validFindsUptoCard
end Rows
end Go.Proofs.YtkceppfimbkeoaaDoor
