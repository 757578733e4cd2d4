/-
  What the listed package variables give the calls: the library's two tables and the program's three tables of words stand where their names say, and they stand so in every later world. And one start in which the list is met. Conditions: the row's list.
-/
import Derived.Test.YtegogmbcjjjjjaaDoorRows
import Derived.Test.YtegogmbcjjjjjaaDoorJc
import Derived.Lib.LaidU8T
import Derived.Lay
import Derived.MakeChecks
import Derived.ChangeArms
set_option linter.unusedVariables false
namespace Go.Proofs.YtegogmbcjjjjjaaDoor
open Go.RowKit

/-- What the list gives. -/
abbrev Good (w : World) : Prop := NamesGood w

/-- The list, as each of the five rows has it. -/
abbrev theList : List (String × DataW Unit) := Rows.validCopiesRow.laid

theorem first_eq : Rows.laid_unicode_utf8_first = Lib.firstData := by kernel_rfl
theorem accept_eq : (Rows.laid_unicode_utf8_acceptRanges : DataW Unit) = Lib.acceptData := by kernel_rfl

theorem extra : U8Extra Tryd.prog Tryd.laysValid_ren :=
  ⟨by kernel_rfl, by kernel_rfl, by kernel_rfl, by kernel_rfl, by kernel_rfl, by kernel_rfl, by kernel_rfl⟩

/-- A table of texts that is listed stands in memory. -/
theorem tab_of_reads {w : World} {n : String} {g m : Nat} {t : TypeId} {T : List ByteArray} (h : Lib.VarReads Tryd.prog w n (.agg (T.map fun x => .lit (.string x.data.toList))))
    (hm : T.length = m) (hn : Tryd.prog.globalNamed n = some g) (hy : (Tryd.prog.globals[g]?).map (·.type) = some t) (hu : Tryd.prog.underlying t = some (.array m 9)) (hc : Tryd.prog.cellsOf 9 = 1) : Tab w g T := by
  intro i x hx
  obtain ⟨g', t', cs, fuel, p, hg, hty, hvar, hd⟩ := h
  obtain rfl := Option.some.inj (hn.symm.trans hg)
  obtain rfl := Option.some.inj (hy.symm.trans hty)
  have hi : i < m := by rw [← hm]; exact (List.getElem?_eq_some_iff.1 hx).1
  obtain ⟨fuel', d, q, hdi, he⟩ := Lib.array_elem hu hd i hi
  rw [List.getElem?_map, hx] at hdi
  simp only [Option.map_some, Option.some.injEq] at hdi
  subst hdi
  rw [hc] at he
  obtain ⟨s, hs, hx', _⟩ := DataW.trod_string Tryd.underlying9 he
  have hb : x.data.toList = s.data.toList := by
    have := congrArg Prod.fst hx'
    simpa using this
  have hxs : x = s := by
    apply ByteArray.ext
    exact Array.toList_inj.1 hb
  subst hxs
  have e0 := congrArg (·[0]?) hs
  simp only [List.getElem?_take, List.getElem?_drop] at e0
  rw [World.var?_cell hg hvar i, ← Array.getElem?_toList]
  simpa using e0

theorem Good.of_laid {W : World} (h : laidMetH Tryd.prog theList W) : Good W := by
  rw [MakeChecks.laidMetH_plain _ _ _ (by kernel_rfl)] at h
  have h4 := Lib.laidMet.reads h (n := "unicode/utf8.acceptRanges") (d := Rows.laid_unicode_utf8_acceptRanges) (by simp [theList, Rows.validCopiesRow])
  have h3 := Lib.laidMet.reads h (n := "unicode/utf8.first") (d := Rows.laid_unicode_utf8_first) (by simp [theList, Rows.validCopiesRow])
  have h0 := Lib.laidMet.reads h (n := "paling/names.regs") (d := Rows.laid_paling_names_regs) (by simp [theList, Rows.validCopiesRow])
  have h1 := Lib.laidMet.reads h (n := "paling/names.ops") (d := Rows.laid_paling_names_ops) (by simp [theList, Rows.validCopiesRow])
  have h2 := Lib.laidMet.reads h (n := "paling/names.jumps") (d := Rows.laid_paling_names_jumps) (by simp [theList, Rows.validCopiesRow])
  rw [first_eq] at h3
  rw [accept_eq] at h4
  exact ⟨utf8Tabs_of_readsT (P := Tryd.prog) (ρ := Tryd.laysValid_ren) ⟨Tryd.underlying5, Tryd.underlying92, Tryd.underlying94, Tryd.underlying95⟩ extra h3 h4,
    tab_of_reads (T := regsT) h0 rfl (by kernel_rfl) (by kernel_rfl) Tryd.underlying104 (by kernel_rfl),
    tab_of_reads (T := opsT) h1 rfl (by kernel_rfl) (by kernel_rfl) Tryd.underlying105 (by kernel_rfl),
    tab_of_reads (T := jumpsT) h2 rfl (by kernel_rfl) (by kernel_rfl) Tryd.underlying106 (by kernel_rfl)⟩

/-- A start that the list itself lays meets it. -/
theorem door_met (os : Os) (args : Array Value) : laidMetH Tryd.prog theList ((World.laidAll Tryd.prog os theList).forCall (fun _ _ => 0) ⟨#[], args, []⟩).memory := by
  rw [MakeChecks.laidMetH_plain _ _ _ (by kernel_rfl)]
  exact laidMet_laidAll _ (by kernel_rfl) (by kernel_rfl)

end Go.Proofs.YtegogmbcjjjjjaaDoor
