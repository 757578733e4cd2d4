/-
  What the listed package variables give the calls: the library's table of powers of ten stands where its name says, and it stands so in every later world. And one start in which the list is met. Conditions: the row's list.
-/
import Derived.Test.YtpnbpjhoilibcaaDoorRows
import Derived.Test.YtpnbpjhoilibcaaDoorNumTab
import Derived.Lib.LaidTab
import Derived.LaidMore
import Derived.Stop.LaidErr
import Derived.Lay
import Derived.MakeChecks
import Derived.ChangeArms
set_option linter.unusedVariables false
namespace Go.Proofs.YtpnbpjhoilibcaaDoor
open Go.RowKit

/-- What the list gives. -/
abbrev Good (w : World) : Prop := TabGood w

/-- The list, as each of the rows has it. -/
abbrev theList : List (String × DataW Unit) := Rows.stateTellsRow.laid

theorem gTab : Tryd.prog.globalNamed "internal/strconv.uint64pow10" = some 0 := by kernel_rfl

theorem tTab : (Tryd.prog.globals[0]?).map (·.type) = some 81 := by kernel_rfl

theorem cU64 : Tryd.prog.cellsOf 70 = 1 := by kernel_rfl

theorem cTab : Tryd.prog.cellsOf 81 = 20 := by kernel_rfl

theorem tabData_eq : (Rows.laid_internal_strconv_uint64pow10 : DataW Unit) = Lib.tabData .u64 Lib.pow10Tab := by kernel_rfl

theorem Good.of_laid {W : World} (h : laidMetH Tryd.prog theList W) : Good W := by
  rw [MakeChecks.laidMetH_plain _ _ _ (by kernel_rfl)] at h
  have h5 : laidMet Tryd.prog (("internal/strconv.uint64pow10", Rows.laid_internal_strconv_uint64pow10) :: []) W := laidMet.tail (laidMet.tail h)
  rw [tabData_eq] at h5
  exact Lib.tabIs_of_head gTab tTab Tryd.underlying81 Tryd.underlying70 cU64 cTab h5

/-- A start that the list itself lays meets it. -/
theorem door_met (os : Os) (args : Array Value) : laidMetH Tryd.prog theList ((World.laidAll Tryd.prog os theList).forCall (fun _ _ => 0) ⟨#[], args, []⟩).memory := by
  rw [MakeChecks.laidMetH_plain _ _ _ (by kernel_rfl)]
  exact laidMet_laidAll _ (by kernel_rfl) (by kernel_rfl)

end Go.Proofs.YtpnbpjhoilibcaaDoor
