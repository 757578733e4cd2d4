/-
  DERIVED. GIVEN WITH THE SEED: THE CARDS: each row of YtcajbhokebmmdaaDoorRows.lean that lists a variable, with what it lists TIED to the program's text (the seventh form; the later family's looks); each row that meets fmt, with fmt's text TOLD by the authors' own Lean function (tested against real Go, not proved from fmt's source: count such statements apart). THE CARD IS WHAT COUNTS. Prove the row's statement (the work); the ties are given (YtcajbhokebmmdaaDoorTie.lean); close each card by the builder's one call (the guide's Derived/Test/ToyasCard.lean, 'card_holds'). Laid BY PROGRAM, IN A SANDBOX (cutbox-door.mjs). By AI agents, Wed Nov 11 2026. No macro, syntax, notation, axiom, sorry.
-/
import Derived.Test.YtcajbhokebmmdaaDoorRows
import GoSem.ClaimSeven
namespace Go.Proofs.YtcajbhokebmmdaaDoor
namespace Rows

/-- THE TIED CARD OF 'palinglaw6.OpndTells'. -/
def opndTellsCard : Claim7 := { stood := { row := opndTellsRow, standIns := [], harness := (true, "3246d00d78549866692b5fb6151ca96e05e51a4f317737f4c936c0b4e1ea41c9"), looks := true }, kinds := [], alts := [], laidByText := true, laidKinds := [.data], laidTests := true, laidLooks := .later }
def OpndTellsCardSaid : Prop := Claim7.holds Tryd.pinned (.plain (OpenSpec.ofChange opndTellsSpec)) opndTellsCard

/-- THE TIED CARD OF 'palinglaw6.OpndParts'. -/
def opndPartsCard : Claim7 := { stood := { row := opndPartsRow, standIns := [], harness := (true, "3246d00d78549866692b5fb6151ca96e05e51a4f317737f4c936c0b4e1ea41c9"), looks := true }, kinds := [], alts := [], laidByText := true, laidKinds := [.data], laidTests := true, laidLooks := .later }
def OpndPartsCardSaid : Prop := Claim7.holds Tryd.pinned (.plain (OpenSpec.ofChange opndPartsSpec)) opndPartsCard

/-- THE TIED CARD OF 'palinglaw6.OpndMade'. -/
def opndMadeCard : Claim7 := { stood := { row := opndMadeRow, standIns := [], harness := (true, "3246d00d78549866692b5fb6151ca96e05e51a4f317737f4c936c0b4e1ea41c9"), looks := true }, kinds := [], alts := [], laidByText := true, laidKinds := [.data], laidTests := true, laidLooks := .later }
def OpndMadeCardSaid : Prop := Claim7.holds Tryd.pinned (.plain (OpenSpec.ofChange opndMadeSpec)) opndMadeCard

/-- THE TIED CARD OF 'palinglaw6.OpndPanics'. -/
def opndPanicsCard : Claim7 := { stood := { row := opndPanicsRow, standIns := [], harness := (true, "3246d00d78549866692b5fb6151ca96e05e51a4f317737f4c936c0b4e1ea41c9"), looks := true }, kinds := [], alts := [], laidByText := true, laidKinds := [.data], laidTests := true, laidLooks := .later }
def OpndPanicsCardSaid : Prop := Claim7.holds Tryd.pinned (.plain (OpenSpec.ofChange opndPanicsSpec)) opndPanicsCard

/-- THE TIED CARD OF 'palinglaw6.OpndApart'. -/
def opndApartCard : Claim7 := { stood := { row := opndApartRow, standIns := [], harness := (true, "3246d00d78549866692b5fb6151ca96e05e51a4f317737f4c936c0b4e1ea41c9"), looks := true }, kinds := [], alts := [], laidByText := true, laidKinds := [.data], laidTests := true, laidLooks := .later }
def OpndApartCardSaid : Prop := Claim7.holds Tryd.pinned (.plain (OpenSpec.ofChange opndApartSpec)) opndApartCard

/-- THE SECOND FORM's CARD OF 'palinglaw6.OpndTells'. -/
def opndTellsUptoCard : Claim7 := { stood := { row := opndTellsUptoRow, standIns := [], harness := (true, "3246d00d78549866692b5fb6151ca96e05e51a4f317737f4c936c0b4e1ea41c9"), looks := true }, kinds := [], alts := [], laidByText := true, laidKinds := [.data], laidTests := true, laidLooks := .later }
def OpndTellsUptoCardSaid : Prop := Claim7.holds Tryd.pinned (.plain (OpenSpec.upto opndTellsSpec)) opndTellsUptoCard

/-- THE SECOND FORM's CARD OF 'palinglaw6.OpndParts'. -/
def opndPartsUptoCard : Claim7 := { stood := { row := opndPartsUptoRow, standIns := [], harness := (true, "3246d00d78549866692b5fb6151ca96e05e51a4f317737f4c936c0b4e1ea41c9"), looks := true }, kinds := [], alts := [], laidByText := true, laidKinds := [.data], laidTests := true, laidLooks := .later }
def OpndPartsUptoCardSaid : Prop := Claim7.holds Tryd.pinned (.plain (OpenSpec.upto opndPartsSpec)) opndPartsUptoCard

/-- THE SECOND FORM's CARD OF 'palinglaw6.OpndMade'. -/
def opndMadeUptoCard : Claim7 := { stood := { row := opndMadeUptoRow, standIns := [], harness := (true, "3246d00d78549866692b5fb6151ca96e05e51a4f317737f4c936c0b4e1ea41c9"), looks := true }, kinds := [], alts := [], laidByText := true, laidKinds := [.data], laidTests := true, laidLooks := .later }
def OpndMadeUptoCardSaid : Prop := Claim7.holds Tryd.pinned (.plain (OpenSpec.upto opndMadeSpec)) opndMadeUptoCard

/-- THE SECOND FORM's CARD OF 'palinglaw6.OpndPanics'. -/
def opndPanicsUptoCard : Claim7 := { stood := { row := opndPanicsUptoRow, standIns := [], harness := (true, "3246d00d78549866692b5fb6151ca96e05e51a4f317737f4c936c0b4e1ea41c9"), looks := true }, kinds := [], alts := [], laidByText := true, laidKinds := [.data], laidTests := true, laidLooks := .later }
def OpndPanicsUptoCardSaid : Prop := Claim7.holds Tryd.pinned (.plain (OpenSpec.upto opndPanicsSpec)) opndPanicsUptoCard

/-- THE SECOND FORM's CARD OF 'palinglaw6.OpndApart'. -/
def opndApartUptoCard : Claim7 := { stood := { row := opndApartUptoRow, standIns := [], harness := (true, "3246d00d78549866692b5fb6151ca96e05e51a4f317737f4c936c0b4e1ea41c9"), looks := true }, kinds := [], alts := [], laidByText := true, laidKinds := [.data], laidTests := true, laidLooks := .later }
def OpndApartUptoCardSaid : Prop := Claim7.holds Tryd.pinned (.plain (OpenSpec.upto opndApartSpec)) opndApartUptoCard
end Rows
end Go.Proofs.YtcajbhokebmmdaaDoor
