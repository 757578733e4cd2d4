/-
  The laws' own first look, alive, returns true in every world, and turns nothing that was in memory; and what the laws of package word share. Conditions: none.
-/
import Derived.Test.YtdmcgckfdbeblaaDo
namespace Go.Proofs.Ytdmcgckfdbeblaa
open Go.RowKit

set_option maxHeartbeats 1000000 in
theorem alive_any (w : World) : Calls Try.prog 12 #[] w fun e w' => e = .returned (.bool true) ∧ Later w w' := by
  have e1 : wrap64 9223372036854775808 = -9223372036854775808 := by unfold wrap64; decide
  have e2 : IntKind.u64.wrap (-9223372036854775808) = 9223372036854775808 := by decide
  go_enter Try.func12, Try.ntmps12
  go_wp2
  go_ret
  exact ⟨rfl, by go_grown, by go_grown⟩

theorem Later.alloc {a b : World} (h : Later a b) (c : Array Value) (t : TypeId) : Later a (b.alloc (.cells c t)) :=
  ⟨h.grown.alloc c t, h.below.alloc h.grown.2.2 _⟩
theorem Later.drew {a b : World} (h : Later a b) : Later a b.drew := ⟨h.grown.drew, h.below.drew⟩

/-- What was there reads as it did. -/
theorem Later.cells {W w1 : World} (h : Later W w1) :
    (∀ b o, b < W.heap.size → w1.cell? ⟨b, o, none⟩ = W.cell? ⟨b, o, none⟩) ∧ (∀ b o, b < W.heap.size → w1.frozen? ⟨b, o, none⟩ = W.frozen? ⟨b, o, none⟩) :=
  ⟨fun b o k => h.below.cell (p := ⟨b, o, none⟩) k, fun b o k => h.below.frozen (p := ⟨b, o, none⟩) k⟩

/-- A struct of four cells that was laid ahead of a call lies there behind it. -/
theorem Later.four {W w1 : World} {v0 v1 v2 v3 : Value} {t : TypeId} (h : Later (W.alloc (.cells #[v0, v1, v2, v3] t)) w1) :
    w1.cell? ⟨W.heap.size, 0, none⟩ = some v0 ∧ w1.cell? ⟨W.heap.size, 1, none⟩ = some v1 ∧ w1.cell? ⟨W.heap.size, 2, none⟩ = some v2 ∧ w1.cell? ⟨W.heap.size, 3, none⟩ = some v3 ∧ W.heap.size < w1.heap.size := by
  have hz : W.heap.size < (W.alloc (.cells #[v0, v1, v2, v3] t)).heap.size := by simp [World.size_alloc]
  have k (i : Nat) : w1.cell? ⟨W.heap.size, i, none⟩ = (W.alloc (.cells #[v0, v1, v2, v3] t)).cell? ⟨W.heap.size, i, none⟩ := h.below.cell (p := ⟨W.heap.size, i, none⟩) hz
  refine ⟨?_, ?_, ?_, ?_, Nat.lt_of_lt_of_le hz h.grown.2.2⟩
  all_goals
    rw [k]
    simp [go_sem]
end Go.Proofs.Ytdmcgckfdbeblaa
