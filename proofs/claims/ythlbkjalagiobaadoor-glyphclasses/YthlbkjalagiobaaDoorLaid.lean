/-
  What the listed package variables give the calls: the library's two tables stand where their names say, and they stand so in every later world. And one start in which the list is met. Conditions: the row's list.
-/
import Derived.Test.YthlbkjalagiobaaDoorRows
import Derived.Test.YthlbkjalagiobaaDoorShelf
import Derived.Test.YthlbkjalagiobaaDoorSmall
import Derived.Lib.LaidU8T
import Derived.Lay
import Derived.MakeChecks
namespace Go.Proofs.YthlbkjalagiobaaDoor
open Go.RowKit

/-- The library's two tables, as its text lays them. -/
def Good (w : World) : Prop := Lib.Utf8Tabs 0 1 w

theorem block_of_cell {w : World} {a : Addr} {v : Value} (h : w.cell? a = some v) : a.block < w.heap.size := by
  rcases Nat.lt_or_ge a.block w.heap.size with h' | h'
  · exact h'
  · rw [World.cell?, Array.getElem?_eq_none h'] at h; cases h

theorem cell_later {w w' : World} {a : Addr} {v : Value} (h : w.cell? a = some v) (hb : Later w w') : w'.cell? a = some v := by
  rw [Below.cell hb (block_of_cell h)]; exact h

theorem Good.later {w w' : World} (g : Good w) (h : Later w w') : Good w' :=
  ⟨fun c hc => cell_later (g.1 c hc) h, fun i hi => ⟨cell_later (g.2 i hi).1 h, cell_later (g.2 i hi).2 h⟩⟩

/-- The list, as each of the five rows has it. -/
abbrev theList : List (String × DataW Unit) := Rows.glyphTellsRow.laid

theorem first_eq : Rows.laid_unicode_utf8_first = Lib.firstData := by kernel_rfl
theorem accept_eq : (Rows.laid_unicode_utf8_acceptRanges : DataW Unit) = Lib.acceptData := by kernel_rfl

theorem extra : U8Extra Tryd.prog Tryd.lays197_ren :=
  ⟨by kernel_rfl, by kernel_rfl, by kernel_rfl, by kernel_rfl, by kernel_rfl, by kernel_rfl, by kernel_rfl⟩

theorem Good.of_laid {W : World} (h : laidMetH Tryd.prog theList W) : Good W := by
  rw [MakeChecks.laidMetH_plain _ _ _ (by kernel_rfl)] at h
  have h4 := Lib.laidMet.reads h (n := "unicode/utf8.acceptRanges") (d := Rows.laid_unicode_utf8_acceptRanges) (by simp [theList, Rows.glyphTellsRow])
  have h3 := Lib.laidMet.reads h (n := "unicode/utf8.first") (d := Rows.laid_unicode_utf8_first) (by simp [theList, Rows.glyphTellsRow])
  rw [first_eq] at h3
  rw [accept_eq] at h4
  exact utf8Tabs_of_readsT (P := Tryd.prog) (ρ := Tryd.lays197_ren) ⟨Tryd.underlying5, Tryd.underlying43, Tryd.underlying46, Tryd.underlying47⟩ extra h3 h4

/-- A start that the list itself lays meets it. -/
theorem door_met (os : Os) (args : Array Value) : laidMetH Tryd.prog theList ((World.laidAll Tryd.prog os theList).forCall (fun _ _ => 0) ⟨#[], args, []⟩).memory := by
  rw [MakeChecks.laidMetH_plain _ _ _ (by kernel_rfl)]
  exact laidMet_laidAll _ (by kernel_rfl) (by kernel_rfl)

end Go.Proofs.YthlbkjalagiobaaDoor
