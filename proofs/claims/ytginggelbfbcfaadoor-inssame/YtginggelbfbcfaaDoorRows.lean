/-
  NARROWER THAN 'FOR EVERY INPUT', by the rows' own cells (each row's printed sentence says how): InsTells: laid · InsMakes: laid · InsForms: laid · InsReckons: laid · InsSame: laid.
  DERIVED. THE GIVEN ROWS OF THIS SEAT. 5 by the template 'for every input the law returns true; each argument reads behind the call as it read before'; 0 by the template 'total and deterministic' (their statements: YtginggelbfbcfaaDoorTotals.lean).
  GIVEN WITH THE SEED: the statements are not yours to turn. If you find one false, say at which input.
  Laid BY PROGRAM, IN A SANDBOX (cutbox-rows.mjs): the forced cells as the released guide's own fill.sh prints them over the translation b82d262a26df04d1… (all of the seat's roots in one cut). By AI agents, Wed Nov 11 2026. No macro, syntax, notation, axiom, sorry.
-/
import Derived.Test.YtginggelbfbcfaaDoorChecked
import GoSem.PinnedTables
import GoSem.Claim
import GoSem.ClaimJoined
import GoSem.ClaimMapViews
import Derived.JoinedTies
import Derived.KernelRfl
namespace Go.Proofs.YtginggelbfbcfaaDoor
/- THE CELL 'sum', in the pinned program and in every row, IS THE sha256 OF THE DUMP (.gsa) THAT YtginggelbfbcfaaDoorProg.lean LOADS. Nothing in Lean hashes anything: it is a label: what it is worth is what the hold of that sum in a sandbox is worth. -/
noncomputable def Tryd.pinned : Pinned := { name := "ytginggelbfbcfaadoor", sum := "b82d262a26df04d1a207a80fb919d3f8d0d05e9ce64faffcf4b831f2844a8f61", checked := Tryd.checked }
namespace Rows
def none {H : Type} : Left H := { results := [], args := [] }

/- WHAT THE LISTED PACKAGE-LEVEL VARIABLES READ AS WHEN THE CALL BEGINS. Each datum BY PROGRAM (the guide's laid-datum.mjs) off the statement by which the dump's own 'gosem.cut.vars' lays the variable. In a bare row this is a premise. The card (YtginggelbfbcfaaDoorCards.lean) ties it to the program's text. -/
def laid_unicode_utf8_acceptRanges {H : Type} : DataW H := .agg [.agg [.lit (.int .u8 128), .lit (.int .u8 191)], .agg [.lit (.int .u8 160), .lit (.int .u8 191)], .agg [.lit (.int .u8 128), .lit (.int .u8 159)], .agg [.lit (.int .u8 144), .lit (.int .u8 191)], .agg [.lit (.int .u8 128), .lit (.int .u8 143)], .agg [.lit (.int .u8 0), .lit (.int .u8 0)], .agg [.lit (.int .u8 0), .lit (.int .u8 0)], .agg [.lit (.int .u8 0), .lit (.int .u8 0)], .agg [.lit (.int .u8 0), .lit (.int .u8 0)], .agg [.lit (.int .u8 0), .lit (.int .u8 0)], .agg [.lit (.int .u8 0), .lit (.int .u8 0)], .agg [.lit (.int .u8 0), .lit (.int .u8 0)], .agg [.lit (.int .u8 0), .lit (.int .u8 0)], .agg [.lit (.int .u8 0), .lit (.int .u8 0)], .agg [.lit (.int .u8 0), .lit (.int .u8 0)], .agg [.lit (.int .u8 0), .lit (.int .u8 0)]]
def laid_paling_names_regs {H : Type} : DataW H := .agg [.lit (.string [114, 97, 120]), .lit (.string [114, 98, 120]), .lit (.string [114, 99, 120]), .lit (.string [114, 100, 120]), .lit (.string [114, 115, 105]), .lit (.string [114, 100, 105]), .lit (.string [114, 56]), .lit (.string [114, 57])]
def laid_paling_names_ops {H : Type} : DataW H := .agg [.lit (.string []), .lit (.string [109, 111, 118]), .lit (.string [97, 100, 100]), .lit (.string [115, 117, 98]), .lit (.string [97, 110, 100]), .lit (.string [111, 114]), .lit (.string [120, 111, 114]), .lit (.string [99, 109, 112]), .lit (.string [120, 99, 104, 103]), .lit (.string [99, 109, 112, 120, 99, 104, 103]), .lit (.string [106, 109, 112]), .lit (.string []), .lit (.string [109, 102, 101, 110, 99, 101]), .lit (.string [110, 111, 112]), .lit (.string [104, 108, 116])]
def laid_paling_names_jumps {H : Type} : DataW H := .agg [.lit (.string []), .lit (.string [106, 101]), .lit (.string [106, 110, 101]), .lit (.string [106, 108]), .lit (.string [106, 108, 101]), .lit (.string [106, 103]), .lit (.string [106, 103, 101]), .lit (.string [106, 98]), .lit (.string [106, 98, 101]), .lit (.string [106, 97]), .lit (.string [106, 97, 101])]
/-- One of Go's own tables, pinned by name: the form's constant. -/
def laid_unicode_utf8_first : DataW Unit := Go.Pinned.utf8First

/-- 'palinglaw7.InsTells': WHATEVER THE INPUT: true; the input reads as it did. -/
def insTellsSpec : ChangeSpec := { name := "insTells", fn := fun _ => fun
  | [d] => { results := [.lit (.bool true)], args := [d] }
  | _ => none }
def insTellsRow : OpenClaim := { program := "ytginggelbfbcfaadoor", sum := "b82d262a26df04d1a207a80fb919d3f8d0d05e9ce64faffcf4b831f2844a8f61", func := "paling/palinglaw7.InsTells", spec := "insTells", named := ["paling/names.regs", "unicode/utf8.first", "unicode/utf8.acceptRanges", "paling/names.ops", "paling/names.jumps"], apart := false, laid := [("unicode/utf8.acceptRanges", laid_unicode_utf8_acceptRanges), ("paling/names.regs", laid_paling_names_regs), ("paling/names.ops", laid_paling_names_ops), ("paling/names.jumps", laid_paling_names_jumps), ("unicode/utf8.first", laid_unicode_utf8_first)] }
def InsTellsSaid : Prop := insTellsRow.holds Tryd.pinned (OpenSpec.ofChange insTellsSpec)

/-- ITS FALSE NEIGHBOUR: 'it returns false'. Refute it at one input. -/
def insTellsWrong : ChangeSpec := { name := "insTells", fn := fun _ => fun
  | [d] => { results := [.lit (.bool false)], args := [d] }
  | _ => none }
def InsTellsWrongFalsely : Prop := insTellsRow.holds Tryd.pinned (OpenSpec.ofChange insTellsWrong)

/-- 'palinglaw7.InsMakes': WHATEVER THE INPUT: true; the input reads as it did. -/
def insMakesSpec : ChangeSpec := { name := "insMakes", fn := fun _ => fun
  | [d1, d2, d3] => { results := [.lit (.bool true)], args := [d1, d2, d3] }
  | _ => none }
def insMakesRow : OpenClaim := { program := "ytginggelbfbcfaadoor", sum := "b82d262a26df04d1a207a80fb919d3f8d0d05e9ce64faffcf4b831f2844a8f61", func := "paling/palinglaw7.InsMakes", spec := "insMakes", named := ["paling/names.regs", "unicode/utf8.first", "unicode/utf8.acceptRanges", "paling/names.ops", "paling/names.jumps"], apart := false, laid := [("unicode/utf8.acceptRanges", laid_unicode_utf8_acceptRanges), ("paling/names.regs", laid_paling_names_regs), ("paling/names.ops", laid_paling_names_ops), ("paling/names.jumps", laid_paling_names_jumps), ("unicode/utf8.first", laid_unicode_utf8_first)] }
def InsMakesSaid : Prop := insMakesRow.holds Tryd.pinned (OpenSpec.ofChange insMakesSpec)

/-- ITS FALSE NEIGHBOUR: 'it returns false'. Refute it at one input. -/
def insMakesWrong : ChangeSpec := { name := "insMakes", fn := fun _ => fun
  | [d1, d2, d3] => { results := [.lit (.bool false)], args := [d1, d2, d3] }
  | _ => none }
def InsMakesWrongFalsely : Prop := insMakesRow.holds Tryd.pinned (OpenSpec.ofChange insMakesWrong)

/-- 'palinglaw7.InsForms': WHATEVER THE INPUT: true; the input reads as it did. -/
def insFormsSpec : ChangeSpec := { name := "insForms", fn := fun _ => fun
  | [d1, d2, d3, d4, d5] => { results := [.lit (.bool true)], args := [d1, d2, d3, d4, d5] }
  | _ => none }
def insFormsRow : OpenClaim := { program := "ytginggelbfbcfaadoor", sum := "b82d262a26df04d1a207a80fb919d3f8d0d05e9ce64faffcf4b831f2844a8f61", func := "paling/palinglaw7.InsForms", spec := "insForms", named := ["paling/names.regs", "unicode/utf8.first", "unicode/utf8.acceptRanges", "paling/names.ops", "paling/names.jumps"], apart := false, laid := [("unicode/utf8.acceptRanges", laid_unicode_utf8_acceptRanges), ("paling/names.regs", laid_paling_names_regs), ("paling/names.ops", laid_paling_names_ops), ("paling/names.jumps", laid_paling_names_jumps), ("unicode/utf8.first", laid_unicode_utf8_first)] }
def InsFormsSaid : Prop := insFormsRow.holds Tryd.pinned (OpenSpec.ofChange insFormsSpec)

/-- ITS FALSE NEIGHBOUR: 'it returns false'. Refute it at one input. -/
def insFormsWrong : ChangeSpec := { name := "insForms", fn := fun _ => fun
  | [d1, d2, d3, d4, d5] => { results := [.lit (.bool false)], args := [d1, d2, d3, d4, d5] }
  | _ => none }
def InsFormsWrongFalsely : Prop := insFormsRow.holds Tryd.pinned (OpenSpec.ofChange insFormsWrong)

/-- 'palinglaw7.InsReckons': WHATEVER THE INPUT: true; the input reads as it did. -/
def insReckonsSpec : ChangeSpec := { name := "insReckons", fn := fun _ => fun
  | [d] => { results := [.lit (.bool true)], args := [d] }
  | _ => none }
def insReckonsRow : OpenClaim := { program := "ytginggelbfbcfaadoor", sum := "b82d262a26df04d1a207a80fb919d3f8d0d05e9ce64faffcf4b831f2844a8f61", func := "paling/palinglaw7.InsReckons", spec := "insReckons", named := ["paling/names.regs", "unicode/utf8.first", "unicode/utf8.acceptRanges", "paling/names.ops", "paling/names.jumps"], apart := false, laid := [("unicode/utf8.acceptRanges", laid_unicode_utf8_acceptRanges), ("paling/names.regs", laid_paling_names_regs), ("paling/names.ops", laid_paling_names_ops), ("paling/names.jumps", laid_paling_names_jumps), ("unicode/utf8.first", laid_unicode_utf8_first)] }
def InsReckonsSaid : Prop := insReckonsRow.holds Tryd.pinned (OpenSpec.ofChange insReckonsSpec)

/-- ITS FALSE NEIGHBOUR: 'it returns false'. Refute it at one input. -/
def insReckonsWrong : ChangeSpec := { name := "insReckons", fn := fun _ => fun
  | [d] => { results := [.lit (.bool false)], args := [d] }
  | _ => none }
def InsReckonsWrongFalsely : Prop := insReckonsRow.holds Tryd.pinned (OpenSpec.ofChange insReckonsWrong)

/-- 'palinglaw7.InsSame': WHATEVER THE INPUT: true; the input reads as it did. -/
def insSameSpec : ChangeSpec := { name := "insSame", fn := fun _ => fun
  | [d1, d2] => { results := [.lit (.bool true)], args := [d1, d2] }
  | _ => none }
def insSameRow : OpenClaim := { program := "ytginggelbfbcfaadoor", sum := "b82d262a26df04d1a207a80fb919d3f8d0d05e9ce64faffcf4b831f2844a8f61", func := "paling/palinglaw7.InsSame", spec := "insSame", named := ["paling/names.regs", "unicode/utf8.first", "unicode/utf8.acceptRanges", "paling/names.ops", "paling/names.jumps"], apart := false, laid := [("unicode/utf8.acceptRanges", laid_unicode_utf8_acceptRanges), ("paling/names.regs", laid_paling_names_regs), ("paling/names.ops", laid_paling_names_ops), ("paling/names.jumps", laid_paling_names_jumps), ("unicode/utf8.first", laid_unicode_utf8_first)] }
def InsSameSaid : Prop := insSameRow.holds Tryd.pinned (OpenSpec.ofChange insSameSpec)

/-- ITS FALSE NEIGHBOUR: 'it returns false'. Refute it at one input. -/
def insSameWrong : ChangeSpec := { name := "insSame", fn := fun _ => fun
  | [d1, d2] => { results := [.lit (.bool false)], args := [d1, d2] }
  | _ => none }
def InsSameWrongFalsely : Prop := insSameRow.holds Tryd.pinned (OpenSpec.ofChange insSameWrong)

/- THE SECOND FORM. 'bulk': how many values and letters a reading holds, each counted each time it is reached (what is shared counts as often as it is met; a slice's spare places count too). A statement '..UptoSaid' is the law's where the arguments, and the package variables that the reading takes, are together of bulk at most 1048576: NARROWER than '..Said'. Prove '..Said' where nothing that the law and all that it calls make is longer than what came in: it says more and counts as full. Else prove '..UptoSaid'. A law counts once. -/
mutual
def uptoBulk {H : Type} : DataW H → Nat
  | .lit (.string bytes) => bytes.length + 1
  | .lit _ => 1
  | .nil => 1
  | .ptr d => uptoBulk d + 1
  | .slice elems spare => uptoBulkAll elems + uptoBulkAll spare + 1
  | .agg parts => uptoBulkAll parts + 1
  | .iface _ d => uptoBulk d + 1
  | .map entries => uptoBulkEntries entries + 1
  | .held _ => 1
def uptoBulkAll {H : Type} : List (DataW H) → Nat
  | [] => 0
  | d :: r => uptoBulk d + uptoBulkAll r
def uptoBulkEntries {H : Type} : List (Lit × DataW H) → Nat
  | [] => 0
  | x :: r => uptoBulkEntry x + uptoBulkEntries r
def uptoBulkEntry {H : Type} : Lit × DataW H → Nat
  | (.string bytes, d) => bytes.length + uptoBulk d + 1
  | (_, d) => uptoBulk d + 1
 end
def uptoSmall : (H : Type) → List (DataW H) → Bool := fun _ ds => decide (uptoBulkAll ds ≤ 1048576)
def OpenSpec.upto (s : _root_.Go.ChangeSpec) : _root_.Go.OpenSpec := { _root_.Go.OpenSpec.ofChange s with cond := some uptoSmall }

/-- 'palinglaw7.InsTells', WHERE WHAT IT READS IS OF BULK AT MOST 1048576: true; the input reads as it did. -/
def insTellsUptoRow : OpenClaim := { program := "ytginggelbfbcfaadoor", sum := "b82d262a26df04d1a207a80fb919d3f8d0d05e9ce64faffcf4b831f2844a8f61", func := "paling/palinglaw7.InsTells", spec := "insTells", named := ["paling/names.regs", "unicode/utf8.first", "unicode/utf8.acceptRanges", "paling/names.ops", "paling/names.jumps"], apart := false, laid := [("unicode/utf8.acceptRanges", laid_unicode_utf8_acceptRanges), ("paling/names.regs", laid_paling_names_regs), ("paling/names.ops", laid_paling_names_ops), ("paling/names.jumps", laid_paling_names_jumps), ("unicode/utf8.first", laid_unicode_utf8_first)], narrowed := true }
def InsTellsUptoSaid : Prop := insTellsUptoRow.holds Tryd.pinned (OpenSpec.upto insTellsSpec)

/-- 'palinglaw7.InsMakes', WHERE WHAT IT READS IS OF BULK AT MOST 1048576: true; the input reads as it did. -/
def insMakesUptoRow : OpenClaim := { program := "ytginggelbfbcfaadoor", sum := "b82d262a26df04d1a207a80fb919d3f8d0d05e9ce64faffcf4b831f2844a8f61", func := "paling/palinglaw7.InsMakes", spec := "insMakes", named := ["paling/names.regs", "unicode/utf8.first", "unicode/utf8.acceptRanges", "paling/names.ops", "paling/names.jumps"], apart := false, laid := [("unicode/utf8.acceptRanges", laid_unicode_utf8_acceptRanges), ("paling/names.regs", laid_paling_names_regs), ("paling/names.ops", laid_paling_names_ops), ("paling/names.jumps", laid_paling_names_jumps), ("unicode/utf8.first", laid_unicode_utf8_first)], narrowed := true }
def InsMakesUptoSaid : Prop := insMakesUptoRow.holds Tryd.pinned (OpenSpec.upto insMakesSpec)

/-- 'palinglaw7.InsForms', WHERE WHAT IT READS IS OF BULK AT MOST 1048576: true; the input reads as it did. -/
def insFormsUptoRow : OpenClaim := { program := "ytginggelbfbcfaadoor", sum := "b82d262a26df04d1a207a80fb919d3f8d0d05e9ce64faffcf4b831f2844a8f61", func := "paling/palinglaw7.InsForms", spec := "insForms", named := ["paling/names.regs", "unicode/utf8.first", "unicode/utf8.acceptRanges", "paling/names.ops", "paling/names.jumps"], apart := false, laid := [("unicode/utf8.acceptRanges", laid_unicode_utf8_acceptRanges), ("paling/names.regs", laid_paling_names_regs), ("paling/names.ops", laid_paling_names_ops), ("paling/names.jumps", laid_paling_names_jumps), ("unicode/utf8.first", laid_unicode_utf8_first)], narrowed := true }
def InsFormsUptoSaid : Prop := insFormsUptoRow.holds Tryd.pinned (OpenSpec.upto insFormsSpec)

/-- 'palinglaw7.InsReckons', WHERE WHAT IT READS IS OF BULK AT MOST 1048576: true; the input reads as it did. -/
def insReckonsUptoRow : OpenClaim := { program := "ytginggelbfbcfaadoor", sum := "b82d262a26df04d1a207a80fb919d3f8d0d05e9ce64faffcf4b831f2844a8f61", func := "paling/palinglaw7.InsReckons", spec := "insReckons", named := ["paling/names.regs", "unicode/utf8.first", "unicode/utf8.acceptRanges", "paling/names.ops", "paling/names.jumps"], apart := false, laid := [("unicode/utf8.acceptRanges", laid_unicode_utf8_acceptRanges), ("paling/names.regs", laid_paling_names_regs), ("paling/names.ops", laid_paling_names_ops), ("paling/names.jumps", laid_paling_names_jumps), ("unicode/utf8.first", laid_unicode_utf8_first)], narrowed := true }
def InsReckonsUptoSaid : Prop := insReckonsUptoRow.holds Tryd.pinned (OpenSpec.upto insReckonsSpec)

/-- 'palinglaw7.InsSame', WHERE WHAT IT READS IS OF BULK AT MOST 1048576: true; the input reads as it did. -/
def insSameUptoRow : OpenClaim := { program := "ytginggelbfbcfaadoor", sum := "b82d262a26df04d1a207a80fb919d3f8d0d05e9ce64faffcf4b831f2844a8f61", func := "paling/palinglaw7.InsSame", spec := "insSame", named := ["paling/names.regs", "unicode/utf8.first", "unicode/utf8.acceptRanges", "paling/names.ops", "paling/names.jumps"], apart := false, laid := [("unicode/utf8.acceptRanges", laid_unicode_utf8_acceptRanges), ("paling/names.regs", laid_paling_names_regs), ("paling/names.ops", laid_paling_names_ops), ("paling/names.jumps", laid_paling_names_jumps), ("unicode/utf8.first", laid_unicode_utf8_first)], narrowed := true }
def InsSameUptoSaid : Prop := insSameUptoRow.holds Tryd.pinned (OpenSpec.upto insSameSpec)

end Rows
end Go.Proofs.YtginggelbfbcfaaDoor
