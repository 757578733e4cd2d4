/-
  DERIVED. GIVEN WITH THE SEED: THE CARDS: each row of YtginggelbfbcfaaDoorRows.lean that lists a variable, with what it lists TIED to the program's text (the seventh form; the later family's looks); each row that meets fmt, with fmt's text TOLD by the authors' own Lean function (tested against real Go, not proved from fmt's source: count such statements apart). THE CARD IS WHAT COUNTS. Prove the row's statement (the work); the ties are given (YtginggelbfbcfaaDoorTie.lean); close each card by the builder's one call (the guide's Derived/Test/ToyasCard.lean, 'card_holds'). Laid BY PROGRAM, IN A SANDBOX (cutbox-door.mjs). By AI agents, Wed Nov 11 2026. No macro, syntax, notation, axiom, sorry.
-/
import Derived.Test.YtginggelbfbcfaaDoorRows
import GoSem.ClaimSeven
namespace Go.Proofs.YtginggelbfbcfaaDoor
namespace Rows

/-- THE TIED CARD OF 'palinglaw7.InsTells'. -/
def insTellsCard : Claim7 := { stood := { row := insTellsRow, standIns := [], harness := (true, "6d9fa13e940b5e05a87e57978747324c108e7c59d9ae8d65fa20505f1b3c8207"), looks := true }, kinds := [], alts := [], laidByText := true, laidKinds := [.data, .data, .data, .data, .pinned], laidTests := true, laidLooks := .later }
def InsTellsCardSaid : Prop := Claim7.holds Tryd.pinned (.plain (OpenSpec.ofChange insTellsSpec)) insTellsCard

/-- THE TIED CARD OF 'palinglaw7.InsMakes'. -/
def insMakesCard : Claim7 := { stood := { row := insMakesRow, standIns := [], harness := (true, "6d9fa13e940b5e05a87e57978747324c108e7c59d9ae8d65fa20505f1b3c8207"), looks := true }, kinds := [], alts := [], laidByText := true, laidKinds := [.data, .data, .data, .data, .pinned], laidTests := true, laidLooks := .later }
def InsMakesCardSaid : Prop := Claim7.holds Tryd.pinned (.plain (OpenSpec.ofChange insMakesSpec)) insMakesCard

/-- THE TIED CARD OF 'palinglaw7.InsForms'. -/
def insFormsCard : Claim7 := { stood := { row := insFormsRow, standIns := [], harness := (true, "6d9fa13e940b5e05a87e57978747324c108e7c59d9ae8d65fa20505f1b3c8207"), looks := true }, kinds := [], alts := [], laidByText := true, laidKinds := [.data, .data, .data, .data, .pinned], laidTests := true, laidLooks := .later }
def InsFormsCardSaid : Prop := Claim7.holds Tryd.pinned (.plain (OpenSpec.ofChange insFormsSpec)) insFormsCard

/-- THE TIED CARD OF 'palinglaw7.InsReckons'. -/
def insReckonsCard : Claim7 := { stood := { row := insReckonsRow, standIns := [], harness := (true, "6d9fa13e940b5e05a87e57978747324c108e7c59d9ae8d65fa20505f1b3c8207"), looks := true }, kinds := [], alts := [], laidByText := true, laidKinds := [.data, .data, .data, .data, .pinned], laidTests := true, laidLooks := .later }
def InsReckonsCardSaid : Prop := Claim7.holds Tryd.pinned (.plain (OpenSpec.ofChange insReckonsSpec)) insReckonsCard

/-- THE TIED CARD OF 'palinglaw7.InsSame'. -/
def insSameCard : Claim7 := { stood := { row := insSameRow, standIns := [], harness := (true, "6d9fa13e940b5e05a87e57978747324c108e7c59d9ae8d65fa20505f1b3c8207"), looks := true }, kinds := [], alts := [], laidByText := true, laidKinds := [.data, .data, .data, .data, .pinned], laidTests := true, laidLooks := .later }
def InsSameCardSaid : Prop := Claim7.holds Tryd.pinned (.plain (OpenSpec.ofChange insSameSpec)) insSameCard

/-- THE SECOND FORM's CARD OF 'palinglaw7.InsTells'. -/
def insTellsUptoCard : Claim7 := { stood := { row := insTellsUptoRow, standIns := [], harness := (true, "6d9fa13e940b5e05a87e57978747324c108e7c59d9ae8d65fa20505f1b3c8207"), looks := true }, kinds := [], alts := [], laidByText := true, laidKinds := [.data, .data, .data, .data, .pinned], laidTests := true, laidLooks := .later }
def InsTellsUptoCardSaid : Prop := Claim7.holds Tryd.pinned (.plain (OpenSpec.upto insTellsSpec)) insTellsUptoCard

/-- THE SECOND FORM's CARD OF 'palinglaw7.InsMakes'. -/
def insMakesUptoCard : Claim7 := { stood := { row := insMakesUptoRow, standIns := [], harness := (true, "6d9fa13e940b5e05a87e57978747324c108e7c59d9ae8d65fa20505f1b3c8207"), looks := true }, kinds := [], alts := [], laidByText := true, laidKinds := [.data, .data, .data, .data, .pinned], laidTests := true, laidLooks := .later }
def InsMakesUptoCardSaid : Prop := Claim7.holds Tryd.pinned (.plain (OpenSpec.upto insMakesSpec)) insMakesUptoCard

/-- THE SECOND FORM's CARD OF 'palinglaw7.InsForms'. -/
def insFormsUptoCard : Claim7 := { stood := { row := insFormsUptoRow, standIns := [], harness := (true, "6d9fa13e940b5e05a87e57978747324c108e7c59d9ae8d65fa20505f1b3c8207"), looks := true }, kinds := [], alts := [], laidByText := true, laidKinds := [.data, .data, .data, .data, .pinned], laidTests := true, laidLooks := .later }
def InsFormsUptoCardSaid : Prop := Claim7.holds Tryd.pinned (.plain (OpenSpec.upto insFormsSpec)) insFormsUptoCard

/-- THE SECOND FORM's CARD OF 'palinglaw7.InsReckons'. -/
def insReckonsUptoCard : Claim7 := { stood := { row := insReckonsUptoRow, standIns := [], harness := (true, "6d9fa13e940b5e05a87e57978747324c108e7c59d9ae8d65fa20505f1b3c8207"), looks := true }, kinds := [], alts := [], laidByText := true, laidKinds := [.data, .data, .data, .data, .pinned], laidTests := true, laidLooks := .later }
def InsReckonsUptoCardSaid : Prop := Claim7.holds Tryd.pinned (.plain (OpenSpec.upto insReckonsSpec)) insReckonsUptoCard

/-- THE SECOND FORM's CARD OF 'palinglaw7.InsSame'. -/
def insSameUptoCard : Claim7 := { stood := { row := insSameUptoRow, standIns := [], harness := (true, "6d9fa13e940b5e05a87e57978747324c108e7c59d9ae8d65fa20505f1b3c8207"), looks := true }, kinds := [], alts := [], laidByText := true, laidKinds := [.data, .data, .data, .data, .pinned], laidTests := true, laidLooks := .later }
def InsSameUptoCardSaid : Prop := Claim7.holds Tryd.pinned (.plain (OpenSpec.upto insSameSpec)) insSameUptoCard
end Rows
end Go.Proofs.YtginggelbfbcfaaDoor
