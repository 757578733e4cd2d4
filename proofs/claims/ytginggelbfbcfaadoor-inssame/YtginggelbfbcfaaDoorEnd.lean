/-
  glyph.End.
-/
import Derived.Test.YtginggelbfbcfaaDoorBoxes
import Derived.Test.YtginggelbfbcfaaDoorRow
import Derived.Test.YtginggelbfbcfaaDoorSmall
import Derived.Deep.LoopGhost
import Derived.Lib.OthersKept
import Derived.Deep.QuietTactic
namespace Go.Proofs.YtginggelbfbcfaaDoor
open Go.RowKit

theorem two_new (w : World) (o p : Obj) : ((w.alloc o).alloc p).heap[w.heap.size]? = some o ∧ ((w.alloc o).alloc p).heap[w.heap.size + 1]? = some p := by
  constructor
  · rw [Below.heap_alloc _ _ _ (by simp)]; exact at_new w o
  · have : (w.alloc o).heap.size = w.heap.size + 1 := by simp
    rw [← this]; exact at_new _ p

theorem box_others {w : World} {B k : Nat} (hk : k ≠ B) (x y : Value) : ((w.setCell ⟨B, 0, none⟩ x).setCell ⟨B, 1, none⟩ y).heap[k]? = w.heap[k]? := by
  rw [Below.heap_setCell _ _ _ _ (by exact hk), Below.heap_setCell _ _ _ _ (by exact hk)]

end Go.Proofs.YtginggelbfbcfaaDoor
