/-
  NARROWER THAN 'FOR EVERY INPUT', by the rows' own cells (each row's printed sentence says how): ValidTells: laid · ValidBent: laid · ValidMany: laid · ValidLong: laid · ValidCopies: laid · ValidFinds: laid.
  DERIVED. THE GIVEN ROWS OF THIS SEAT. 6 by the template 'for every input the law returns true; each argument reads behind the call as it read before'; 0 by the template 'total and deterministic' (their statements: YtkceppfimbkeoaaDoorTotals.lean).
  GIVEN WITH THE SEED: the statements are not yours to turn. If you find one false, say at which input.
  Laid BY PROGRAM, IN A SANDBOX (cutbox-rows.mjs): the forced cells as the released guide's own fill.sh prints them over the translation ce047b840d03308d… (all of the seat's roots in one cut). By AI agents, Wed Nov 11 2026. No macro, syntax, notation, axiom, sorry.
-/
import Derived.Test.YtkceppfimbkeoaaDoorChecked
import GoSem.PinnedTables
import GoSem.Claim
import GoSem.ClaimJoined
import GoSem.ClaimMapViews
import Derived.JoinedTies
import Derived.KernelRfl
namespace Go.Proofs.YtkceppfimbkeoaaDoor
/- THE CELL 'sum', in the pinned program and in every row, IS THE sha256 OF THE DUMP (.gsa) THAT YtkceppfimbkeoaaDoorProg.lean LOADS. Nothing in Lean hashes anything: it is a label: what it is worth is what the hold of that sum in a sandbox is worth. -/
noncomputable def Tryd.pinned : Pinned := { name := "ytkceppfimbkeoaadoor", sum := "ce047b840d03308d40a186d9287f7ec7b6c8e3339f3cbbb762b0763e276f3f25", checked := Tryd.checked }
namespace Rows
def none {H : Type} : Left H := { results := [], args := [] }

/- WHAT THE LISTED PACKAGE-LEVEL VARIABLES READ AS WHEN THE CALL BEGINS. Each datum BY PROGRAM (the guide's laid-datum.mjs) off the statement by which the dump's own 'gosem.cut.vars' lays the variable. In a bare row this is a premise. The card (YtkceppfimbkeoaaDoorCards.lean) ties it to the program's text. -/
def laid_unicode_utf8_acceptRanges {H : Type} : DataW H := .agg [.agg [.lit (.int .u8 128), .lit (.int .u8 191)], .agg [.lit (.int .u8 160), .lit (.int .u8 191)], .agg [.lit (.int .u8 128), .lit (.int .u8 159)], .agg [.lit (.int .u8 144), .lit (.int .u8 191)], .agg [.lit (.int .u8 128), .lit (.int .u8 143)], .agg [.lit (.int .u8 0), .lit (.int .u8 0)], .agg [.lit (.int .u8 0), .lit (.int .u8 0)], .agg [.lit (.int .u8 0), .lit (.int .u8 0)], .agg [.lit (.int .u8 0), .lit (.int .u8 0)], .agg [.lit (.int .u8 0), .lit (.int .u8 0)], .agg [.lit (.int .u8 0), .lit (.int .u8 0)], .agg [.lit (.int .u8 0), .lit (.int .u8 0)], .agg [.lit (.int .u8 0), .lit (.int .u8 0)], .agg [.lit (.int .u8 0), .lit (.int .u8 0)], .agg [.lit (.int .u8 0), .lit (.int .u8 0)], .agg [.lit (.int .u8 0), .lit (.int .u8 0)]]
def laid_paling_names_regs {H : Type} : DataW H := .agg [.lit (.string [114, 97, 120]), .lit (.string [114, 98, 120]), .lit (.string [114, 99, 120]), .lit (.string [114, 100, 120]), .lit (.string [114, 115, 105]), .lit (.string [114, 100, 105]), .lit (.string [114, 56]), .lit (.string [114, 57])]
def laid_paling_names_ops {H : Type} : DataW H := .agg [.lit (.string []), .lit (.string [109, 111, 118]), .lit (.string [97, 100, 100]), .lit (.string [115, 117, 98]), .lit (.string [97, 110, 100]), .lit (.string [111, 114]), .lit (.string [120, 111, 114]), .lit (.string [99, 109, 112]), .lit (.string [120, 99, 104, 103]), .lit (.string [99, 109, 112, 120, 99, 104, 103]), .lit (.string [106, 109, 112]), .lit (.string []), .lit (.string [109, 102, 101, 110, 99, 101]), .lit (.string [110, 111, 112]), .lit (.string [104, 108, 116])]
def laid_paling_names_jumps {H : Type} : DataW H := .agg [.lit (.string []), .lit (.string [106, 101]), .lit (.string [106, 110, 101]), .lit (.string [106, 108]), .lit (.string [106, 108, 101]), .lit (.string [106, 103]), .lit (.string [106, 103, 101]), .lit (.string [106, 98]), .lit (.string [106, 98, 101]), .lit (.string [106, 97]), .lit (.string [106, 97, 101])]
/-- One of Go's own tables, pinned by name: the form's constant. -/
def laid_unicode_utf8_first : DataW Unit := Go.Pinned.utf8First

/-- 'palinglaw8.ValidTells': WHATEVER THE INPUT: true; the input reads as it did. -/
def validTellsSpec : ChangeSpec := { name := "validTells", fn := fun _ => fun
  | [d] => { results := [.lit (.bool true)], args := [d] }
  | _ => none }
def validTellsRow : OpenClaim := { program := "ytkceppfimbkeoaadoor", sum := "ce047b840d03308d40a186d9287f7ec7b6c8e3339f3cbbb762b0763e276f3f25", func := "paling/palinglaw8.ValidTells", spec := "validTells", unfollowed := true, recurses := true, named := ["unicode/utf8.first", "unicode/utf8.acceptRanges", "paling/names.regs", "paling/names.ops", "paling/names.jumps"], apart := false, laid := [("unicode/utf8.acceptRanges", laid_unicode_utf8_acceptRanges), ("paling/names.regs", laid_paling_names_regs), ("paling/names.ops", laid_paling_names_ops), ("paling/names.jumps", laid_paling_names_jumps), ("unicode/utf8.first", laid_unicode_utf8_first)] }
def ValidTellsSaid : Prop := validTellsRow.holds Tryd.pinned (OpenSpec.ofChange validTellsSpec)

/-- ITS FALSE NEIGHBOUR: 'it returns false'. Refute it at one input. -/
def validTellsWrong : ChangeSpec := { name := "validTells", fn := fun _ => fun
  | [d] => { results := [.lit (.bool false)], args := [d] }
  | _ => none }
def ValidTellsWrongFalsely : Prop := validTellsRow.holds Tryd.pinned (OpenSpec.ofChange validTellsWrong)

/-- 'palinglaw8.ValidBent': WHATEVER THE INPUT: true; the input reads as it did. -/
def validBentSpec : ChangeSpec := { name := "validBent", fn := fun _ => fun
  | [d1, d2, d3, d4, d5, d6] => { results := [.lit (.bool true)], args := [d1, d2, d3, d4, d5, d6] }
  | _ => none }
def validBentRow : OpenClaim := { program := "ytkceppfimbkeoaadoor", sum := "ce047b840d03308d40a186d9287f7ec7b6c8e3339f3cbbb762b0763e276f3f25", func := "paling/palinglaw8.ValidBent", spec := "validBent", unfollowed := true, recurses := true, named := ["unicode/utf8.first", "unicode/utf8.acceptRanges", "paling/names.regs", "paling/names.ops", "paling/names.jumps"], apart := false, laid := [("unicode/utf8.acceptRanges", laid_unicode_utf8_acceptRanges), ("paling/names.regs", laid_paling_names_regs), ("paling/names.ops", laid_paling_names_ops), ("paling/names.jumps", laid_paling_names_jumps), ("unicode/utf8.first", laid_unicode_utf8_first)] }
def ValidBentSaid : Prop := validBentRow.holds Tryd.pinned (OpenSpec.ofChange validBentSpec)

/-- ITS FALSE NEIGHBOUR: 'it returns false'. Refute it at one input. -/
def validBentWrong : ChangeSpec := { name := "validBent", fn := fun _ => fun
  | [d1, d2, d3, d4, d5, d6] => { results := [.lit (.bool false)], args := [d1, d2, d3, d4, d5, d6] }
  | _ => none }
def ValidBentWrongFalsely : Prop := validBentRow.holds Tryd.pinned (OpenSpec.ofChange validBentWrong)

/-- 'palinglaw8.ValidMany': WHATEVER THE INPUT: true; the input reads as it did. -/
def validManySpec : ChangeSpec := { name := "validMany", fn := fun _ => fun
  | [d1, d2, d3] => { results := [.lit (.bool true)], args := [d1, d2, d3] }
  | _ => none }
def validManyRow : OpenClaim := { program := "ytkceppfimbkeoaadoor", sum := "ce047b840d03308d40a186d9287f7ec7b6c8e3339f3cbbb762b0763e276f3f25", func := "paling/palinglaw8.ValidMany", spec := "validMany", unfollowed := true, recurses := true, named := ["unicode/utf8.first", "unicode/utf8.acceptRanges", "paling/names.regs", "paling/names.ops", "paling/names.jumps"], apart := false, laid := [("unicode/utf8.acceptRanges", laid_unicode_utf8_acceptRanges), ("paling/names.regs", laid_paling_names_regs), ("paling/names.ops", laid_paling_names_ops), ("paling/names.jumps", laid_paling_names_jumps), ("unicode/utf8.first", laid_unicode_utf8_first)] }
def ValidManySaid : Prop := validManyRow.holds Tryd.pinned (OpenSpec.ofChange validManySpec)

/-- ITS FALSE NEIGHBOUR: 'it returns false'. Refute it at one input. -/
def validManyWrong : ChangeSpec := { name := "validMany", fn := fun _ => fun
  | [d1, d2, d3] => { results := [.lit (.bool false)], args := [d1, d2, d3] }
  | _ => none }
def ValidManyWrongFalsely : Prop := validManyRow.holds Tryd.pinned (OpenSpec.ofChange validManyWrong)

/-- 'palinglaw8.ValidLong': WHATEVER THE INPUT: true; the input reads as it did. -/
def validLongSpec : ChangeSpec := { name := "validLong", fn := fun _ => fun
  | [d1, d2] => { results := [.lit (.bool true)], args := [d1, d2] }
  | _ => none }
def validLongRow : OpenClaim := { program := "ytkceppfimbkeoaadoor", sum := "ce047b840d03308d40a186d9287f7ec7b6c8e3339f3cbbb762b0763e276f3f25", func := "paling/palinglaw8.ValidLong", spec := "validLong", unfollowed := true, recurses := true, named := ["unicode/utf8.first", "unicode/utf8.acceptRanges", "paling/names.regs", "paling/names.ops", "paling/names.jumps"], apart := false, laid := [("unicode/utf8.acceptRanges", laid_unicode_utf8_acceptRanges), ("paling/names.regs", laid_paling_names_regs), ("paling/names.ops", laid_paling_names_ops), ("paling/names.jumps", laid_paling_names_jumps), ("unicode/utf8.first", laid_unicode_utf8_first)] }
def ValidLongSaid : Prop := validLongRow.holds Tryd.pinned (OpenSpec.ofChange validLongSpec)

/-- ITS FALSE NEIGHBOUR: 'it returns false'. Refute it at one input. -/
def validLongWrong : ChangeSpec := { name := "validLong", fn := fun _ => fun
  | [d1, d2] => { results := [.lit (.bool false)], args := [d1, d2] }
  | _ => none }
def ValidLongWrongFalsely : Prop := validLongRow.holds Tryd.pinned (OpenSpec.ofChange validLongWrong)

/-- 'palinglaw8.ValidCopies': WHATEVER THE INPUT: true; the input reads as it did. -/
def validCopiesSpec : ChangeSpec := { name := "validCopies", fn := fun _ => fun
  | [d1, d2, d3] => { results := [.lit (.bool true)], args := [d1, d2, d3] }
  | _ => none }
def validCopiesRow : OpenClaim := { program := "ytkceppfimbkeoaadoor", sum := "ce047b840d03308d40a186d9287f7ec7b6c8e3339f3cbbb762b0763e276f3f25", func := "paling/palinglaw8.ValidCopies", spec := "validCopies", unfollowed := true, recurses := true, named := ["unicode/utf8.first", "unicode/utf8.acceptRanges", "paling/names.regs", "paling/names.ops", "paling/names.jumps"], apart := false, laid := [("unicode/utf8.acceptRanges", laid_unicode_utf8_acceptRanges), ("paling/names.regs", laid_paling_names_regs), ("paling/names.ops", laid_paling_names_ops), ("paling/names.jumps", laid_paling_names_jumps), ("unicode/utf8.first", laid_unicode_utf8_first)] }
def ValidCopiesSaid : Prop := validCopiesRow.holds Tryd.pinned (OpenSpec.ofChange validCopiesSpec)

/-- ITS FALSE NEIGHBOUR: 'it returns false'. Refute it at one input. -/
def validCopiesWrong : ChangeSpec := { name := "validCopies", fn := fun _ => fun
  | [d1, d2, d3] => { results := [.lit (.bool false)], args := [d1, d2, d3] }
  | _ => none }
def ValidCopiesWrongFalsely : Prop := validCopiesRow.holds Tryd.pinned (OpenSpec.ofChange validCopiesWrong)

/-- 'palinglaw8.ValidFinds': WHATEVER THE INPUT: true; the input reads as it did. -/
def validFindsSpec : ChangeSpec := { name := "validFinds", fn := fun _ => fun
  | [d1, d2] => { results := [.lit (.bool true)], args := [d1, d2] }
  | _ => none }
def validFindsRow : OpenClaim := { program := "ytkceppfimbkeoaadoor", sum := "ce047b840d03308d40a186d9287f7ec7b6c8e3339f3cbbb762b0763e276f3f25", func := "paling/palinglaw8.ValidFinds", spec := "validFinds", unfollowed := true, recurses := true, named := ["unicode/utf8.first", "unicode/utf8.acceptRanges", "paling/names.regs", "paling/names.ops", "paling/names.jumps"], apart := false, laid := [("unicode/utf8.acceptRanges", laid_unicode_utf8_acceptRanges), ("paling/names.regs", laid_paling_names_regs), ("paling/names.ops", laid_paling_names_ops), ("paling/names.jumps", laid_paling_names_jumps), ("unicode/utf8.first", laid_unicode_utf8_first)] }
def ValidFindsSaid : Prop := validFindsRow.holds Tryd.pinned (OpenSpec.ofChange validFindsSpec)

/-- ITS FALSE NEIGHBOUR: 'it returns false'. Refute it at one input. -/
def validFindsWrong : ChangeSpec := { name := "validFinds", fn := fun _ => fun
  | [d1, d2] => { results := [.lit (.bool false)], args := [d1, d2] }
  | _ => none }
def ValidFindsWrongFalsely : Prop := validFindsRow.holds Tryd.pinned (OpenSpec.ofChange validFindsWrong)

/- THE SECOND FORM. 'bulk': how many values and letters a reading holds, each counted each time it is reached (what is shared counts as often as it is met; a slice's spare places count too). A statement '..UptoSaid' is the law's where the arguments, and the package variables that the reading takes, are together of bulk at most 1048576: NARROWER than '..Said'. Prove '..Said' where nothing that the law and all that it calls make is longer than what came in: it says more and counts as full. Else prove '..UptoSaid'. A law counts once. -/
mutual
def uptoBulk {H : Type} : DataW H → Nat
  | .lit (.string bytes) => bytes.length + 1
  | .lit _ => 1
  | .nil => 1
  | .ptr d => uptoBulk d + 1
  | .slice elems spare => uptoBulkAll elems + uptoBulkAll spare + 1
  | .agg parts => uptoBulkAll parts + 1
  | .iface _ d => uptoBulk d + 1
  | .map entries => uptoBulkEntries entries + 1
  | .held _ => 1
def uptoBulkAll {H : Type} : List (DataW H) → Nat
  | [] => 0
  | d :: r => uptoBulk d + uptoBulkAll r
def uptoBulkEntries {H : Type} : List (Lit × DataW H) → Nat
  | [] => 0
  | x :: r => uptoBulkEntry x + uptoBulkEntries r
def uptoBulkEntry {H : Type} : Lit × DataW H → Nat
  | (.string bytes, d) => bytes.length + uptoBulk d + 1
  | (_, d) => uptoBulk d + 1
 end
def uptoSmall : (H : Type) → List (DataW H) → Bool := fun _ ds => decide (uptoBulkAll ds ≤ 1048576)
def OpenSpec.upto (s : _root_.Go.ChangeSpec) : _root_.Go.OpenSpec := { _root_.Go.OpenSpec.ofChange s with cond := some uptoSmall }

/-- 'palinglaw8.ValidTells', WHERE WHAT IT READS IS OF BULK AT MOST 1048576: true; the input reads as it did. -/
def validTellsUptoRow : OpenClaim := { program := "ytkceppfimbkeoaadoor", sum := "ce047b840d03308d40a186d9287f7ec7b6c8e3339f3cbbb762b0763e276f3f25", func := "paling/palinglaw8.ValidTells", spec := "validTells", unfollowed := true, recurses := true, named := ["unicode/utf8.first", "unicode/utf8.acceptRanges", "paling/names.regs", "paling/names.ops", "paling/names.jumps"], apart := false, laid := [("unicode/utf8.acceptRanges", laid_unicode_utf8_acceptRanges), ("paling/names.regs", laid_paling_names_regs), ("paling/names.ops", laid_paling_names_ops), ("paling/names.jumps", laid_paling_names_jumps), ("unicode/utf8.first", laid_unicode_utf8_first)], narrowed := true }
def ValidTellsUptoSaid : Prop := validTellsUptoRow.holds Tryd.pinned (OpenSpec.upto validTellsSpec)

/-- 'palinglaw8.ValidBent', WHERE WHAT IT READS IS OF BULK AT MOST 1048576: true; the input reads as it did. -/
def validBentUptoRow : OpenClaim := { program := "ytkceppfimbkeoaadoor", sum := "ce047b840d03308d40a186d9287f7ec7b6c8e3339f3cbbb762b0763e276f3f25", func := "paling/palinglaw8.ValidBent", spec := "validBent", unfollowed := true, recurses := true, named := ["unicode/utf8.first", "unicode/utf8.acceptRanges", "paling/names.regs", "paling/names.ops", "paling/names.jumps"], apart := false, laid := [("unicode/utf8.acceptRanges", laid_unicode_utf8_acceptRanges), ("paling/names.regs", laid_paling_names_regs), ("paling/names.ops", laid_paling_names_ops), ("paling/names.jumps", laid_paling_names_jumps), ("unicode/utf8.first", laid_unicode_utf8_first)], narrowed := true }
def ValidBentUptoSaid : Prop := validBentUptoRow.holds Tryd.pinned (OpenSpec.upto validBentSpec)

/-- 'palinglaw8.ValidMany', WHERE WHAT IT READS IS OF BULK AT MOST 1048576: true; the input reads as it did. -/
def validManyUptoRow : OpenClaim := { program := "ytkceppfimbkeoaadoor", sum := "ce047b840d03308d40a186d9287f7ec7b6c8e3339f3cbbb762b0763e276f3f25", func := "paling/palinglaw8.ValidMany", spec := "validMany", unfollowed := true, recurses := true, named := ["unicode/utf8.first", "unicode/utf8.acceptRanges", "paling/names.regs", "paling/names.ops", "paling/names.jumps"], apart := false, laid := [("unicode/utf8.acceptRanges", laid_unicode_utf8_acceptRanges), ("paling/names.regs", laid_paling_names_regs), ("paling/names.ops", laid_paling_names_ops), ("paling/names.jumps", laid_paling_names_jumps), ("unicode/utf8.first", laid_unicode_utf8_first)], narrowed := true }
def ValidManyUptoSaid : Prop := validManyUptoRow.holds Tryd.pinned (OpenSpec.upto validManySpec)

/-- 'palinglaw8.ValidLong', WHERE WHAT IT READS IS OF BULK AT MOST 1048576: true; the input reads as it did. -/
def validLongUptoRow : OpenClaim := { program := "ytkceppfimbkeoaadoor", sum := "ce047b840d03308d40a186d9287f7ec7b6c8e3339f3cbbb762b0763e276f3f25", func := "paling/palinglaw8.ValidLong", spec := "validLong", unfollowed := true, recurses := true, named := ["unicode/utf8.first", "unicode/utf8.acceptRanges", "paling/names.regs", "paling/names.ops", "paling/names.jumps"], apart := false, laid := [("unicode/utf8.acceptRanges", laid_unicode_utf8_acceptRanges), ("paling/names.regs", laid_paling_names_regs), ("paling/names.ops", laid_paling_names_ops), ("paling/names.jumps", laid_paling_names_jumps), ("unicode/utf8.first", laid_unicode_utf8_first)], narrowed := true }
def ValidLongUptoSaid : Prop := validLongUptoRow.holds Tryd.pinned (OpenSpec.upto validLongSpec)

/-- 'palinglaw8.ValidCopies', WHERE WHAT IT READS IS OF BULK AT MOST 1048576: true; the input reads as it did. -/
def validCopiesUptoRow : OpenClaim := { program := "ytkceppfimbkeoaadoor", sum := "ce047b840d03308d40a186d9287f7ec7b6c8e3339f3cbbb762b0763e276f3f25", func := "paling/palinglaw8.ValidCopies", spec := "validCopies", unfollowed := true, recurses := true, named := ["unicode/utf8.first", "unicode/utf8.acceptRanges", "paling/names.regs", "paling/names.ops", "paling/names.jumps"], apart := false, laid := [("unicode/utf8.acceptRanges", laid_unicode_utf8_acceptRanges), ("paling/names.regs", laid_paling_names_regs), ("paling/names.ops", laid_paling_names_ops), ("paling/names.jumps", laid_paling_names_jumps), ("unicode/utf8.first", laid_unicode_utf8_first)], narrowed := true }
def ValidCopiesUptoSaid : Prop := validCopiesUptoRow.holds Tryd.pinned (OpenSpec.upto validCopiesSpec)

/-- 'palinglaw8.ValidFinds', WHERE WHAT IT READS IS OF BULK AT MOST 1048576: true; the input reads as it did. -/
def validFindsUptoRow : OpenClaim := { program := "ytkceppfimbkeoaadoor", sum := "ce047b840d03308d40a186d9287f7ec7b6c8e3339f3cbbb762b0763e276f3f25", func := "paling/palinglaw8.ValidFinds", spec := "validFinds", unfollowed := true, recurses := true, named := ["unicode/utf8.first", "unicode/utf8.acceptRanges", "paling/names.regs", "paling/names.ops", "paling/names.jumps"], apart := false, laid := [("unicode/utf8.acceptRanges", laid_unicode_utf8_acceptRanges), ("paling/names.regs", laid_paling_names_regs), ("paling/names.ops", laid_paling_names_ops), ("paling/names.jumps", laid_paling_names_jumps), ("unicode/utf8.first", laid_unicode_utf8_first)], narrowed := true }
def ValidFindsUptoSaid : Prop := validFindsUptoRow.holds Tryd.pinned (OpenSpec.upto validFindsSpec)

end Rows
end Go.Proofs.YtkceppfimbkeoaaDoor
