/-
  What the listed package variable gives the calls: the table of the registers' words stands where its name says, and it stands so in every later world. And one start in which the list is met. Conditions: the row's list.
-/
import Derived.Test.YtcajbhokebmmdaaDoorRows
import Derived.Test.YtcajbhokebmmdaaDoorTables
import Derived.Lib.LaidU8T
import Derived.Lay
import Derived.MakeChecks
import Derived.ChangeArms
set_option linter.unusedVariables false
namespace Go.Proofs.YtcajbhokebmmdaaDoor
open Go.RowKit

/-- The program's table, as its text lays it. -/
def Good (w : World) : Prop := Tab w 0 regsT

theorem Good.later {w w' : World} (g : Good w) (h : Later w w') : Good w' := Tab.later g h

/-- The list, as each of the rows has it. -/
abbrev theList : List (String × DataW Unit) := Rows.opndTellsRow.laid

/-- A table of texts that is listed stands in memory. -/
theorem tab_of_reads {w : World} {n : String} {g m : Nat} {t : TypeId} {T : List ByteArray} (h : Lib.VarReads Tryd.prog w n (.agg (T.map fun x => .lit (.string x.data.toList))))
    (hm : T.length = m) (hn : Tryd.prog.globalNamed n = some g) (hy : (Tryd.prog.globals[g]?).map (·.type) = some t) (hu : Tryd.prog.underlying t = some (.array m 9)) (hc : Tryd.prog.cellsOf 9 = 1) : Tab w g T := by
  intro i x hx
  obtain ⟨g', t', cs, fuel, p, hg, hty, hvar, hd⟩ := h
  obtain rfl := Option.some.inj (hn.symm.trans hg)
  obtain rfl := Option.some.inj (hy.symm.trans hty)
  have hi : i < m := by rw [← hm]; exact (List.getElem?_eq_some_iff.1 hx).1
  obtain ⟨fuel', d, q, hdi, he⟩ := Lib.array_elem hu hd i hi
  rw [List.getElem?_map, hx] at hdi
  simp only [Option.map_some, Option.some.injEq] at hdi
  subst hdi
  rw [hc] at he
  obtain ⟨s, hs, hx', _⟩ := DataW.trod_string Tryd.underlying9 he
  have hb : x.data.toList = s.data.toList := by
    have := congrArg Prod.fst hx'
    simpa using this
  have hxs : x = s := by
    apply ByteArray.ext
    exact Array.toList_inj.1 hb
  subst hxs
  have e0 := congrArg (·[0]?) hs
  simp only [List.getElem?_take, List.getElem?_drop] at e0
  rw [World.var?_cell hg hvar i, ← Array.getElem?_toList]
  simpa using e0

theorem Good.of_laid {W : World} (h : laidMetH Tryd.prog theList W) : Good W := by
  rw [MakeChecks.laidMetH_plain _ _ _ (by kernel_rfl)] at h
  have h0 := Lib.laidMet.reads h (n := "paling/names.regs") (d := Rows.laid_paling_names_regs) (by simp [theList, Rows.opndTellsRow])
  exact tab_of_reads (T := regsT) h0 rfl (by kernel_rfl) (by kernel_rfl) Tryd.underlying68 (by kernel_rfl)

/-- A start that the list itself lays meets it. -/
theorem door_met (os : Os) (args : Array Value) : laidMetH Tryd.prog theList ((World.laidAll Tryd.prog os theList).forCall (fun _ _ => 0) ⟨#[], args, []⟩).memory := by
  rw [MakeChecks.laidMetH_plain _ _ _ (by kernel_rfl)]
  exact laidMet_laidAll _ (by kernel_rfl) (by kernel_rfl)

end Go.Proofs.YtcajbhokebmmdaaDoor
