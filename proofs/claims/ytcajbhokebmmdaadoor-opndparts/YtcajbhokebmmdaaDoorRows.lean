/-
  NARROWER THAN 'FOR EVERY INPUT', by the rows' own cells (each row's printed sentence says how): OpndTells: laid · OpndParts: laid · OpndMade: laid · OpndPanics: laid · OpndApart: laid.
  DERIVED. THE GIVEN ROWS OF THIS SEAT. 5 by the template 'for every input the law returns true; each argument reads behind the call as it read before'; 0 by the template 'total and deterministic' (their statements: YtcajbhokebmmdaaDoorTotals.lean).
  GIVEN WITH THE SEED: the statements are not yours to turn. If you find one false, say at which input.
  Laid BY PROGRAM, IN A SANDBOX (cutbox-rows.mjs): the forced cells as the released guide's own fill.sh prints them over the translation 4a8e423220fb8db0… (all of the seat's roots in one cut). By AI agents, Wed Nov 11 2026. No macro, syntax, notation, axiom, sorry.
-/
import Derived.Test.YtcajbhokebmmdaaDoorChecked
import GoSem.Claim
import GoSem.ClaimJoined
import GoSem.ClaimMapViews
import Derived.JoinedTies
import Derived.KernelRfl
namespace Go.Proofs.YtcajbhokebmmdaaDoor
/- THE CELL 'sum', in the pinned program and in every row, IS THE sha256 OF THE DUMP (.gsa) THAT YtcajbhokebmmdaaDoorProg.lean LOADS. Nothing in Lean hashes anything: it is a label: what it is worth is what the hold of that sum in a sandbox is worth. -/
noncomputable def Tryd.pinned : Pinned := { name := "ytcajbhokebmmdaadoor", sum := "4a8e423220fb8db092240a8c0046c08fd73c65e686a5340b8deff622f6f351a9", checked := Tryd.checked }
namespace Rows
def none {H : Type} : Left H := { results := [], args := [] }

/- WHAT THE LISTED PACKAGE-LEVEL VARIABLES READ AS WHEN THE CALL BEGINS. Each datum BY PROGRAM (the guide's laid-datum.mjs) off the statement by which the dump's own 'gosem.cut.vars' lays the variable. In a bare row this is a premise. The card (YtcajbhokebmmdaaDoorCards.lean) ties it to the program's text. -/
def laid_paling_names_regs {H : Type} : DataW H := .agg [.lit (.string [114, 97, 120]), .lit (.string [114, 98, 120]), .lit (.string [114, 99, 120]), .lit (.string [114, 100, 120]), .lit (.string [114, 115, 105]), .lit (.string [114, 100, 105]), .lit (.string [114, 56]), .lit (.string [114, 57])]

/-- 'palinglaw6.OpndTells': WHATEVER THE INPUT: true; the input reads as it did. -/
def opndTellsSpec : ChangeSpec := { name := "opndTells", fn := fun _ => fun
  | [d1, d2] => { results := [.lit (.bool true)], args := [d1, d2] }
  | _ => none }
def opndTellsRow : OpenClaim := { program := "ytcajbhokebmmdaadoor", sum := "4a8e423220fb8db092240a8c0046c08fd73c65e686a5340b8deff622f6f351a9", func := "paling/palinglaw6.OpndTells", spec := "opndTells", unfollowed := true, recurses := true, named := ["paling/names.regs"], apart := false, laid := [("paling/names.regs", laid_paling_names_regs)] }
def OpndTellsSaid : Prop := opndTellsRow.holds Tryd.pinned (OpenSpec.ofChange opndTellsSpec)

/-- ITS FALSE NEIGHBOUR: 'it returns false'. Refute it at one input. -/
def opndTellsWrong : ChangeSpec := { name := "opndTells", fn := fun _ => fun
  | [d1, d2] => { results := [.lit (.bool false)], args := [d1, d2] }
  | _ => none }
def OpndTellsWrongFalsely : Prop := opndTellsRow.holds Tryd.pinned (OpenSpec.ofChange opndTellsWrong)

/-- 'palinglaw6.OpndParts': WHATEVER THE INPUT: true; the input reads as it did. -/
def opndPartsSpec : ChangeSpec := { name := "opndParts", fn := fun _ => fun
  | [d] => { results := [.lit (.bool true)], args := [d] }
  | _ => none }
def opndPartsRow : OpenClaim := { program := "ytcajbhokebmmdaadoor", sum := "4a8e423220fb8db092240a8c0046c08fd73c65e686a5340b8deff622f6f351a9", func := "paling/palinglaw6.OpndParts", spec := "opndParts", unfollowed := true, recurses := true, named := ["paling/names.regs"], apart := false, laid := [("paling/names.regs", laid_paling_names_regs)] }
def OpndPartsSaid : Prop := opndPartsRow.holds Tryd.pinned (OpenSpec.ofChange opndPartsSpec)

/-- ITS FALSE NEIGHBOUR: 'it returns false'. Refute it at one input. -/
def opndPartsWrong : ChangeSpec := { name := "opndParts", fn := fun _ => fun
  | [d] => { results := [.lit (.bool false)], args := [d] }
  | _ => none }
def OpndPartsWrongFalsely : Prop := opndPartsRow.holds Tryd.pinned (OpenSpec.ofChange opndPartsWrong)

/-- 'palinglaw6.OpndMade': WHATEVER THE INPUT: true; the input reads as it did. -/
def opndMadeSpec : ChangeSpec := { name := "opndMade", fn := fun _ => fun
  | [d1, d2, d3, d4] => { results := [.lit (.bool true)], args := [d1, d2, d3, d4] }
  | _ => none }
def opndMadeRow : OpenClaim := { program := "ytcajbhokebmmdaadoor", sum := "4a8e423220fb8db092240a8c0046c08fd73c65e686a5340b8deff622f6f351a9", func := "paling/palinglaw6.OpndMade", spec := "opndMade", unfollowed := true, recurses := true, named := ["paling/names.regs"], apart := false, laid := [("paling/names.regs", laid_paling_names_regs)] }
def OpndMadeSaid : Prop := opndMadeRow.holds Tryd.pinned (OpenSpec.ofChange opndMadeSpec)

/-- ITS FALSE NEIGHBOUR: 'it returns false'. Refute it at one input. -/
def opndMadeWrong : ChangeSpec := { name := "opndMade", fn := fun _ => fun
  | [d1, d2, d3, d4] => { results := [.lit (.bool false)], args := [d1, d2, d3, d4] }
  | _ => none }
def OpndMadeWrongFalsely : Prop := opndMadeRow.holds Tryd.pinned (OpenSpec.ofChange opndMadeWrong)

/-- 'palinglaw6.OpndPanics': WHATEVER THE INPUT: true; the input reads as it did. -/
def opndPanicsSpec : ChangeSpec := { name := "opndPanics", fn := fun _ => fun
  | [d1, d2, d3] => { results := [.lit (.bool true)], args := [d1, d2, d3] }
  | _ => none }
def opndPanicsRow : OpenClaim := { program := "ytcajbhokebmmdaadoor", sum := "4a8e423220fb8db092240a8c0046c08fd73c65e686a5340b8deff622f6f351a9", func := "paling/palinglaw6.OpndPanics", spec := "opndPanics", unfollowed := true, recurses := true, named := ["paling/names.regs"], apart := false, laid := [("paling/names.regs", laid_paling_names_regs)] }
def OpndPanicsSaid : Prop := opndPanicsRow.holds Tryd.pinned (OpenSpec.ofChange opndPanicsSpec)

/-- ITS FALSE NEIGHBOUR: 'it returns false'. Refute it at one input. -/
def opndPanicsWrong : ChangeSpec := { name := "opndPanics", fn := fun _ => fun
  | [d1, d2, d3] => { results := [.lit (.bool false)], args := [d1, d2, d3] }
  | _ => none }
def OpndPanicsWrongFalsely : Prop := opndPanicsRow.holds Tryd.pinned (OpenSpec.ofChange opndPanicsWrong)

/-- 'palinglaw6.OpndApart': WHATEVER THE INPUT: true; the input reads as it did. -/
def opndApartSpec : ChangeSpec := { name := "opndApart", fn := fun _ => fun
  | [d1, d2] => { results := [.lit (.bool true)], args := [d1, d2] }
  | _ => none }
def opndApartRow : OpenClaim := { program := "ytcajbhokebmmdaadoor", sum := "4a8e423220fb8db092240a8c0046c08fd73c65e686a5340b8deff622f6f351a9", func := "paling/palinglaw6.OpndApart", spec := "opndApart", unfollowed := true, recurses := true, named := ["paling/names.regs"], apart := false, laid := [("paling/names.regs", laid_paling_names_regs)] }
def OpndApartSaid : Prop := opndApartRow.holds Tryd.pinned (OpenSpec.ofChange opndApartSpec)

/-- ITS FALSE NEIGHBOUR: 'it returns false'. Refute it at one input. -/
def opndApartWrong : ChangeSpec := { name := "opndApart", fn := fun _ => fun
  | [d1, d2] => { results := [.lit (.bool false)], args := [d1, d2] }
  | _ => none }
def OpndApartWrongFalsely : Prop := opndApartRow.holds Tryd.pinned (OpenSpec.ofChange opndApartWrong)

/- THE SECOND FORM. 'bulk': how many values and letters a reading holds, each counted each time it is reached (what is shared counts as often as it is met; a slice's spare places count too). A statement '..UptoSaid' is the law's where the arguments, and the package variables that the reading takes, are together of bulk at most 1048576: NARROWER than '..Said'. Prove '..Said' where nothing that the law and all that it calls make is longer than what came in: it says more and counts as full. Else prove '..UptoSaid'. A law counts once. -/
mutual
def uptoBulk {H : Type} : DataW H → Nat
  | .lit (.string bytes) => bytes.length + 1
  | .lit _ => 1
  | .nil => 1
  | .ptr d => uptoBulk d + 1
  | .slice elems spare => uptoBulkAll elems + uptoBulkAll spare + 1
  | .agg parts => uptoBulkAll parts + 1
  | .iface _ d => uptoBulk d + 1
  | .map entries => uptoBulkEntries entries + 1
  | .held _ => 1
def uptoBulkAll {H : Type} : List (DataW H) → Nat
  | [] => 0
  | d :: r => uptoBulk d + uptoBulkAll r
def uptoBulkEntries {H : Type} : List (Lit × DataW H) → Nat
  | [] => 0
  | x :: r => uptoBulkEntry x + uptoBulkEntries r
def uptoBulkEntry {H : Type} : Lit × DataW H → Nat
  | (.string bytes, d) => bytes.length + uptoBulk d + 1
  | (_, d) => uptoBulk d + 1
 end
def uptoSmall : (H : Type) → List (DataW H) → Bool := fun _ ds => decide (uptoBulkAll ds ≤ 1048576)
def OpenSpec.upto (s : _root_.Go.ChangeSpec) : _root_.Go.OpenSpec := { _root_.Go.OpenSpec.ofChange s with cond := some uptoSmall }

/-- 'palinglaw6.OpndTells', WHERE WHAT IT READS IS OF BULK AT MOST 1048576: true; the input reads as it did. -/
def opndTellsUptoRow : OpenClaim := { program := "ytcajbhokebmmdaadoor", sum := "4a8e423220fb8db092240a8c0046c08fd73c65e686a5340b8deff622f6f351a9", func := "paling/palinglaw6.OpndTells", spec := "opndTells", unfollowed := true, recurses := true, named := ["paling/names.regs"], apart := false, laid := [("paling/names.regs", laid_paling_names_regs)], narrowed := true }
def OpndTellsUptoSaid : Prop := opndTellsUptoRow.holds Tryd.pinned (OpenSpec.upto opndTellsSpec)

/-- 'palinglaw6.OpndParts', WHERE WHAT IT READS IS OF BULK AT MOST 1048576: true; the input reads as it did. -/
def opndPartsUptoRow : OpenClaim := { program := "ytcajbhokebmmdaadoor", sum := "4a8e423220fb8db092240a8c0046c08fd73c65e686a5340b8deff622f6f351a9", func := "paling/palinglaw6.OpndParts", spec := "opndParts", unfollowed := true, recurses := true, named := ["paling/names.regs"], apart := false, laid := [("paling/names.regs", laid_paling_names_regs)], narrowed := true }
def OpndPartsUptoSaid : Prop := opndPartsUptoRow.holds Tryd.pinned (OpenSpec.upto opndPartsSpec)

/-- 'palinglaw6.OpndMade', WHERE WHAT IT READS IS OF BULK AT MOST 1048576: true; the input reads as it did. -/
def opndMadeUptoRow : OpenClaim := { program := "ytcajbhokebmmdaadoor", sum := "4a8e423220fb8db092240a8c0046c08fd73c65e686a5340b8deff622f6f351a9", func := "paling/palinglaw6.OpndMade", spec := "opndMade", unfollowed := true, recurses := true, named := ["paling/names.regs"], apart := false, laid := [("paling/names.regs", laid_paling_names_regs)], narrowed := true }
def OpndMadeUptoSaid : Prop := opndMadeUptoRow.holds Tryd.pinned (OpenSpec.upto opndMadeSpec)

/-- 'palinglaw6.OpndPanics', WHERE WHAT IT READS IS OF BULK AT MOST 1048576: true; the input reads as it did. -/
def opndPanicsUptoRow : OpenClaim := { program := "ytcajbhokebmmdaadoor", sum := "4a8e423220fb8db092240a8c0046c08fd73c65e686a5340b8deff622f6f351a9", func := "paling/palinglaw6.OpndPanics", spec := "opndPanics", unfollowed := true, recurses := true, named := ["paling/names.regs"], apart := false, laid := [("paling/names.regs", laid_paling_names_regs)], narrowed := true }
def OpndPanicsUptoSaid : Prop := opndPanicsUptoRow.holds Tryd.pinned (OpenSpec.upto opndPanicsSpec)

/-- 'palinglaw6.OpndApart', WHERE WHAT IT READS IS OF BULK AT MOST 1048576: true; the input reads as it did. -/
def opndApartUptoRow : OpenClaim := { program := "ytcajbhokebmmdaadoor", sum := "4a8e423220fb8db092240a8c0046c08fd73c65e686a5340b8deff622f6f351a9", func := "paling/palinglaw6.OpndApart", spec := "opndApart", unfollowed := true, recurses := true, named := ["paling/names.regs"], apart := false, laid := [("paling/names.regs", laid_paling_names_regs)], narrowed := true }
def OpndApartUptoSaid : Prop := opndApartUptoRow.holds Tryd.pinned (OpenSpec.upto opndApartSpec)

end Rows
end Go.Proofs.YtcajbhokebmmdaaDoor
