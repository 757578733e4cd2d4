/-
  DERIVED. GIVEN WITH THE SEED: THE CARDS: each row of YtmmimlpgpionnaaGreatDoorRows.lean that lists a variable, with what it lists TIED to the program's text (the seventh form; the later family's looks); each row that meets fmt, with fmt's text TOLD by the authors' own Lean function (tested against real Go, not proved from fmt's source: count such statements apart). THE CARD IS WHAT COUNTS. Prove the row's statement (the work); the ties are given (YtmmimlpgpionnaaGreatDoorTie.lean); close each card by the builder's one call (the guide's Derived/Test/ToyasCard.lean, 'card_holds'). Laid BY PROGRAM, IN A SANDBOX (cutbox-door.mjs). By AI agents, Wed Nov 11 2026. No macro, syntax, notation, axiom, sorry.
-/
import Derived.Test.YtmmimlpgpionnaaGreatDoorRows
import GoSem.ClaimSeven
namespace Go.Proofs.YtmmimlpgpionnaaGreatDoor
namespace Rows

/-- THE TIED CARD OF 'palinglaw9.ShowTells'. -/
def showTellsCard : Claim7 := { stood := { row := showTellsRow, standIns := [], harness := (true, "1b4a1869fa767655766cda6cdee0561e398b2277653b9b1262943f36d5075bd6"), looks := true }, kinds := [], alts := [], laidByText := true, laidKinds := [.data, .data, .data, .data, .data, .data, .data, .pinned], laidTests := true, laidLooks := .later }
def ShowTellsCardSaid : Prop := Claim7.holds Tryz.pinned (.plain (OpenSpec.ofChange showTellsSpec)) showTellsCard

/-- THE TIED CARD OF 'palinglaw9.ShowMade'. -/
def showMadeCard : Claim7 := { stood := { row := showMadeRow, standIns := [], harness := (true, "1b4a1869fa767655766cda6cdee0561e398b2277653b9b1262943f36d5075bd6"), looks := true }, kinds := [], alts := [], laidByText := true, laidKinds := [.data, .data, .data, .data, .data, .data, .data, .pinned], laidTests := true, laidLooks := .later }
def ShowMadeCardSaid : Prop := Claim7.holds Tryz.pinned (.plain (OpenSpec.ofChange showMadeSpec)) showMadeCard

/-- THE TIED CARD OF 'palinglaw9.ShowIns'. -/
def showInsCard : Claim7 := { stood := { row := showInsRow, standIns := [], harness := (true, "1b4a1869fa767655766cda6cdee0561e398b2277653b9b1262943f36d5075bd6"), looks := true }, kinds := [], alts := [], laidByText := true, laidKinds := [.data, .data, .data, .data, .data, .data, .data, .pinned], laidTests := true, laidLooks := .later }
def ShowInsCardSaid : Prop := Claim7.holds Tryz.pinned (.plain (OpenSpec.ofChange showInsSpec)) showInsCard

/-- THE SECOND FORM's CARD OF 'palinglaw9.ShowTells'. -/
def showTellsUptoCard : Claim7 := { stood := { row := showTellsUptoRow, standIns := [], harness := (true, "1b4a1869fa767655766cda6cdee0561e398b2277653b9b1262943f36d5075bd6"), looks := true }, kinds := [], alts := [], laidByText := true, laidKinds := [.data, .data, .data, .data, .data, .data, .data, .pinned], laidTests := true, laidLooks := .later }
def ShowTellsUptoCardSaid : Prop := Claim7.holds Tryz.pinned (.plain (OpenSpec.upto showTellsSpec)) showTellsUptoCard

/-- THE SECOND FORM's CARD OF 'palinglaw9.ShowMade'. -/
def showMadeUptoCard : Claim7 := { stood := { row := showMadeUptoRow, standIns := [], harness := (true, "1b4a1869fa767655766cda6cdee0561e398b2277653b9b1262943f36d5075bd6"), looks := true }, kinds := [], alts := [], laidByText := true, laidKinds := [.data, .data, .data, .data, .data, .data, .data, .pinned], laidTests := true, laidLooks := .later }
def ShowMadeUptoCardSaid : Prop := Claim7.holds Tryz.pinned (.plain (OpenSpec.upto showMadeSpec)) showMadeUptoCard

/-- THE SECOND FORM's CARD OF 'palinglaw9.ShowIns'. -/
def showInsUptoCard : Claim7 := { stood := { row := showInsUptoRow, standIns := [], harness := (true, "1b4a1869fa767655766cda6cdee0561e398b2277653b9b1262943f36d5075bd6"), looks := true }, kinds := [], alts := [], laidByText := true, laidKinds := [.data, .data, .data, .data, .data, .data, .data, .pinned], laidTests := true, laidLooks := .later }
def ShowInsUptoCardSaid : Prop := Claim7.holds Tryz.pinned (.plain (OpenSpec.upto showInsSpec)) showInsUptoCard
end Rows
end Go.Proofs.YtmmimlpgpionnaaGreatDoor
