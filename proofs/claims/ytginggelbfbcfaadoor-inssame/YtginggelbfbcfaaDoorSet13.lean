/-
  A block of thirteen cells behind a store of one of them. Conditions: none.
-/
import Derived.Test.YtginggelbfbcfaaDoorRefIns
namespace Go.Proofs.YtginggelbfbcfaaDoor
open Go.RowKit
set_option linter.unusedVariables false
set_option linter.unusedSimpArgs false

theorem set13_0 {w : World} {B : Nat} {a0 a1 a2 a3 a4 a5 a6 a7 a8 a9 a10 a11 a12 : Value} {t : TypeId} (h : w.heap[B]? = some (.cells #[a0, a1, a2, a3, a4, a5, a6, a7, a8, a9, a10, a11, a12] t)) (v : Value) :
    (w.setCell ⟨B, 0, none⟩ v).heap[B]? = some (.cells #[v, a1, a2, a3, a4, a5, a6, a7, a8, a9, a10, a11, a12] t) := by
  rw [setCell_block h 0 v]
  rfl

theorem set13_1 {w : World} {B : Nat} {a0 a1 a2 a3 a4 a5 a6 a7 a8 a9 a10 a11 a12 : Value} {t : TypeId} (h : w.heap[B]? = some (.cells #[a0, a1, a2, a3, a4, a5, a6, a7, a8, a9, a10, a11, a12] t)) (v : Value) :
    (w.setCell ⟨B, 1, none⟩ v).heap[B]? = some (.cells #[a0, v, a2, a3, a4, a5, a6, a7, a8, a9, a10, a11, a12] t) := by
  rw [setCell_block h 1 v]
  rfl

theorem set13_2 {w : World} {B : Nat} {a0 a1 a2 a3 a4 a5 a6 a7 a8 a9 a10 a11 a12 : Value} {t : TypeId} (h : w.heap[B]? = some (.cells #[a0, a1, a2, a3, a4, a5, a6, a7, a8, a9, a10, a11, a12] t)) (v : Value) :
    (w.setCell ⟨B, 2, none⟩ v).heap[B]? = some (.cells #[a0, a1, v, a3, a4, a5, a6, a7, a8, a9, a10, a11, a12] t) := by
  rw [setCell_block h 2 v]
  rfl

theorem set13_3 {w : World} {B : Nat} {a0 a1 a2 a3 a4 a5 a6 a7 a8 a9 a10 a11 a12 : Value} {t : TypeId} (h : w.heap[B]? = some (.cells #[a0, a1, a2, a3, a4, a5, a6, a7, a8, a9, a10, a11, a12] t)) (v : Value) :
    (w.setCell ⟨B, 3, none⟩ v).heap[B]? = some (.cells #[a0, a1, a2, v, a4, a5, a6, a7, a8, a9, a10, a11, a12] t) := by
  rw [setCell_block h 3 v]
  rfl

theorem set13_4 {w : World} {B : Nat} {a0 a1 a2 a3 a4 a5 a6 a7 a8 a9 a10 a11 a12 : Value} {t : TypeId} (h : w.heap[B]? = some (.cells #[a0, a1, a2, a3, a4, a5, a6, a7, a8, a9, a10, a11, a12] t)) (v : Value) :
    (w.setCell ⟨B, 4, none⟩ v).heap[B]? = some (.cells #[a0, a1, a2, a3, v, a5, a6, a7, a8, a9, a10, a11, a12] t) := by
  rw [setCell_block h 4 v]
  rfl

theorem set13_5 {w : World} {B : Nat} {a0 a1 a2 a3 a4 a5 a6 a7 a8 a9 a10 a11 a12 : Value} {t : TypeId} (h : w.heap[B]? = some (.cells #[a0, a1, a2, a3, a4, a5, a6, a7, a8, a9, a10, a11, a12] t)) (v : Value) :
    (w.setCell ⟨B, 5, none⟩ v).heap[B]? = some (.cells #[a0, a1, a2, a3, a4, v, a6, a7, a8, a9, a10, a11, a12] t) := by
  rw [setCell_block h 5 v]
  rfl

theorem set13_6 {w : World} {B : Nat} {a0 a1 a2 a3 a4 a5 a6 a7 a8 a9 a10 a11 a12 : Value} {t : TypeId} (h : w.heap[B]? = some (.cells #[a0, a1, a2, a3, a4, a5, a6, a7, a8, a9, a10, a11, a12] t)) (v : Value) :
    (w.setCell ⟨B, 6, none⟩ v).heap[B]? = some (.cells #[a0, a1, a2, a3, a4, a5, v, a7, a8, a9, a10, a11, a12] t) := by
  rw [setCell_block h 6 v]
  rfl

theorem set13_7 {w : World} {B : Nat} {a0 a1 a2 a3 a4 a5 a6 a7 a8 a9 a10 a11 a12 : Value} {t : TypeId} (h : w.heap[B]? = some (.cells #[a0, a1, a2, a3, a4, a5, a6, a7, a8, a9, a10, a11, a12] t)) (v : Value) :
    (w.setCell ⟨B, 7, none⟩ v).heap[B]? = some (.cells #[a0, a1, a2, a3, a4, a5, a6, v, a8, a9, a10, a11, a12] t) := by
  rw [setCell_block h 7 v]
  rfl

theorem set13_8 {w : World} {B : Nat} {a0 a1 a2 a3 a4 a5 a6 a7 a8 a9 a10 a11 a12 : Value} {t : TypeId} (h : w.heap[B]? = some (.cells #[a0, a1, a2, a3, a4, a5, a6, a7, a8, a9, a10, a11, a12] t)) (v : Value) :
    (w.setCell ⟨B, 8, none⟩ v).heap[B]? = some (.cells #[a0, a1, a2, a3, a4, a5, a6, a7, v, a9, a10, a11, a12] t) := by
  rw [setCell_block h 8 v]
  rfl

theorem set13_9 {w : World} {B : Nat} {a0 a1 a2 a3 a4 a5 a6 a7 a8 a9 a10 a11 a12 : Value} {t : TypeId} (h : w.heap[B]? = some (.cells #[a0, a1, a2, a3, a4, a5, a6, a7, a8, a9, a10, a11, a12] t)) (v : Value) :
    (w.setCell ⟨B, 9, none⟩ v).heap[B]? = some (.cells #[a0, a1, a2, a3, a4, a5, a6, a7, a8, v, a10, a11, a12] t) := by
  rw [setCell_block h 9 v]
  rfl

theorem set13_10 {w : World} {B : Nat} {a0 a1 a2 a3 a4 a5 a6 a7 a8 a9 a10 a11 a12 : Value} {t : TypeId} (h : w.heap[B]? = some (.cells #[a0, a1, a2, a3, a4, a5, a6, a7, a8, a9, a10, a11, a12] t)) (v : Value) :
    (w.setCell ⟨B, 10, none⟩ v).heap[B]? = some (.cells #[a0, a1, a2, a3, a4, a5, a6, a7, a8, a9, v, a11, a12] t) := by
  rw [setCell_block h 10 v]
  rfl

theorem set13_11 {w : World} {B : Nat} {a0 a1 a2 a3 a4 a5 a6 a7 a8 a9 a10 a11 a12 : Value} {t : TypeId} (h : w.heap[B]? = some (.cells #[a0, a1, a2, a3, a4, a5, a6, a7, a8, a9, a10, a11, a12] t)) (v : Value) :
    (w.setCell ⟨B, 11, none⟩ v).heap[B]? = some (.cells #[a0, a1, a2, a3, a4, a5, a6, a7, a8, a9, a10, v, a12] t) := by
  rw [setCell_block h 11 v]
  rfl

theorem set13_12 {w : World} {B : Nat} {a0 a1 a2 a3 a4 a5 a6 a7 a8 a9 a10 a11 a12 : Value} {t : TypeId} (h : w.heap[B]? = some (.cells #[a0, a1, a2, a3, a4, a5, a6, a7, a8, a9, a10, a11, a12] t)) (v : Value) :
    (w.setCell ⟨B, 12, none⟩ v).heap[B]? = some (.cells #[a0, a1, a2, a3, a4, a5, a6, a7, a8, a9, a10, a11, v] t) := by
  rw [setCell_block h 12 v]
  rfl

theorem Later.set {w w' : World} (h : Later w w') {B : Nat} (hB : w.heap.size ≤ B) (j : Nat) (v : Value) : Later w (w'.setCell ⟨B, j, none⟩ v) := Below.setCell h hB _

end Go.Proofs.YtginggelbfbcfaaDoor
