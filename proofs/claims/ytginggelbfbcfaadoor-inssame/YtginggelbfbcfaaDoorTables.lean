/-
  Tables of texts in memory. Conditions: none.
-/
import Derived.Test.YtginggelbfbcfaaDoorLater
import Derived.Test.YtginggelbfbcfaaDoorWords
namespace Go.Proofs.YtginggelbfbcfaaDoor
open Go.RowKit

/-- A table of texts in memory. -/
def Tab (w : World) (g : Nat) (T : List ByteArray) : Prop := ∀ i t, T[i]? = some t → w.cell? ⟨g, i, none⟩ = some (.string t)

theorem Tab.later {w w' : World} {g : Nat} {T : List ByteArray} (h : Tab w g T) (hl : Later w w') : Tab w' g T := fun i t ht => cell_later (h i t ht) hl

theorem same_true {t s : ByteArray} (h : (t.data.toList == s.data.toList) = true) : (t.toList == s.toList) = true := by rw [ByteArray.toList_eq, ByteArray.toList_eq]; exact h
theorem same_false {t s : ByteArray} (h : ¬ (t.data.toList == s.data.toList) = true) : (t.toList == s.toList) = false := by rw [ByteArray.toList_eq, ByteArray.toList_eq]; exact Bool.eq_false_iff.2 h

end Go.Proofs.YtginggelbfbcfaaDoor
