/-
  What the document's own text of an operand is. Nothing that was in memory turns. Conditions: the names are at most 1000 texts of at most 1000 bytes that stand in memory; the operand's number is of 64 bits.
-/
import Derived.Test.YtegogmbcjjjjjaaDoorJa
import Derived.Test.YtegogmbcjjjjjaaDoorJd
import Derived.Test.YtegogmbcjjjjjaaDoorJb
import Derived.Test.YtegogmbcjjjjjaaDoorRefText
import Derived.Test.YtegogmbcjjjjjaaDoorJh
import Derived.RegionTactic
import Derived.Deep.CutRange
import Derived.Deep.RegionWith
namespace Go.Proofs.YtegogmbcjjjjjaaDoor
open Go.RowKit
set_option linter.unusedVariables false

/-- An operand's text. -/
def opdTextF (o : Opd) (T : List ByteArray) : ByteArray :=
  if opdRightF o = false then ⟨#[]⟩
  else if o.kind = 1 then textAt regsT o.reg
  else if o.kind = 2 then txt o.n
  else match T[o.sym.toNat]? with
    | none => ⟨#[]⟩
    | some t => if o.kind = 3 then t ++ ⟨#[91]⟩ ++ txt o.n ++ ⟨#[93]⟩ else t ++ ⟨#[91]⟩ ++ textAt regsT o.reg ++ ⟨#[93]⟩

theorem regText_size (r : Int) : (textAt regsT r).size ≤ 3 := by
  unfold textAt
  split
  · rename_i h
    obtain ⟨h0, h1⟩ := h
    have h2 : r.toNat < 8 := by
      have : (regsT.length : Int) = 8 := rfl
      omega
    generalize r.toNat = k at h2
    obtain rfl | rfl | rfl | rfl | rfl | rfl | rfl | rfl : k = 0 ∨ k = 1 ∨ k = 2 ∨ k = 3 ∨ k = 4 ∨ k = 5 ∨ k = 6 ∨ k = 7 := by omega
    all_goals decide
  · decide

theorem name_cell {w : World} {a : Option Addr} {T : List ByteArray} (h : CRow w a (T.map Value.string)) {i : Nat} {t : ByteArray} (ht : T[i]? = some t) : ∃ g, a = some ⟨g, 0, none⟩ ∧ w.cell? ⟨g, i, none⟩ = some (.string t) :=
  h i _ (by rw [List.getElem?_map, ht]; rfl)

end Go.Proofs.YtegogmbcjjjjjaaDoor
