/-
  Behind a Cmp of two numbers the ten conditions say how they stand, with signs and without: plain facts on numbers. Conditions: both lie within 64 bits.
-/
import Derived.Test.YtdmcgckfdbeblaaAlive
namespace Go.Proofs.Ytdmcgckfdbeblaa
open Go.RowKit

/-- The difference, as it goes round. -/
theorem round_cases (a b : Int) (h1 : -9223372036854775808 ≤ a) (h2 : a ≤ 9223372036854775807) (h3 : -9223372036854775808 ≤ b) (h4 : b ≤ 9223372036854775807) :
    (wrap64 (a - b) = a - b ∧ -9223372036854775808 ≤ a - b ∧ a - b ≤ 9223372036854775807) ∨ (wrap64 (a - b) = a - b - 18446744073709551616 ∧ 9223372036854775807 < a - b) ∨ (wrap64 (a - b) = a - b + 18446744073709551616 ∧ a - b < -9223372036854775808) := by
  unfold wrap64
  omega

theorem zero_iff (a b : Int) (h1 : -9223372036854775808 ≤ a) (h2 : a ≤ 9223372036854775807) (h3 : -9223372036854775808 ≤ b) (h4 : b ≤ 9223372036854775807) : isZ (wrap64 (a - b)) = (a == b) := by
  unfold isZ
  rw [Bool.eq_iff_iff]
  simp only [beq_iff_eq]
  have := round_cases a b h1 h2 h3 h4
  omega

theorem less_iff (a b : Int) (h1 : -9223372036854775808 ≤ a) (h2 : a ≤ 9223372036854775807) (h3 : -9223372036854775808 ≤ b) (h4 : b ≤ 9223372036854775807) : (isS (wrap64 (a - b)) != subO a b (wrap64 (a - b))) = decide (a < b) := by
  have r := round_cases a b h1 h2 h3 h4
  generalize wrap64 (a - b) = d at r
  unfold isS subO
  by_cases c1 : a < 0 <;> by_cases c2 : b < 0 <;> by_cases c3 : d < 0 <;> by_cases c4 : a < b <;> simp only [c1, c2, c3, c4, decide_true, decide_false] <;> first | rfl | (exfalso; omega)

theorem unsigned (a : Int) (h1 : -9223372036854775808 ≤ a) (h2 : a ≤ 9223372036854775807) : (IntKind.u64.wrap a = a ∧ 0 ≤ a) ∨ (IntKind.u64.wrap a = a + 18446744073709551616 ∧ a < 0) := by
  rw [IntKind.wrap_u64]
  omega

/-- What WordCompares wants of the ten conditions. -/
def wants (a b : Int) : Array Value :=
  #[.bool (a == b), .bool (a != b), .bool (decide (a < b)), .bool (decide (a ≤ b)), .bool (decide (b < a)), .bool (decide (b ≤ a)),
    .bool (decide (IntKind.u64.wrap a < IntKind.u64.wrap b)), .bool (decide (IntKind.u64.wrap a ≤ IntKind.u64.wrap b)), .bool (decide (IntKind.u64.wrap b < IntKind.u64.wrap a)), .bool (decide (IntKind.u64.wrap b ≤ IntKind.u64.wrap a))]
/-- Cmp's flags. -/
def flagsA (a b : Int) : Array Value :=
  #[.bool (isZ (wrap64 (a - b))), .bool (isS (wrap64 (a - b))), .bool (lessU a b), .bool (subO a b (wrap64 (a - b)))]

/-- Whether a condition holds behind Cmp. -/
def behind (a b : Int) (c : Int) : Bool := holdsF c (isZ (wrap64 (a - b))) (isS (wrap64 (a - b))) (lessU a b) (subO a b (wrap64 (a - b)))

theorem ten_nat {k : Nat} (h : k < 10) : k = 0 ∨ k = 1 ∨ k = 2 ∨ k = 3 ∨ k = 4 ∨ k = 5 ∨ k = 6 ∨ k = 7 ∨ k = 8 ∨ k = 9 := by omega

theorem wants_at (a b : Int) (h1 : -9223372036854775808 ≤ a) (h2 : a ≤ 9223372036854775807) (h3 : -9223372036854775808 ≤ b) (h4 : b ≤ 9223372036854775807) (k : Nat) (hk : k < 10) :
    (wants a b)[k]? = some (.bool (behind a b ((k : Int) + 1))) := by
  have z := zero_iff a b h1 h2 h3 h4
  have l := less_iff a b h1 h2 h3 h4
  have ua := unsigned a h1 h2
  have ub := unsigned b h3 h4
  have key (x y : Bool) (h : x = y) : some (Value.bool x) = some (Value.bool y) := by rw [h]
  have g : (isS (wrap64 (a - b)) == subO a b (wrap64 (a - b))) = !decide (a < b) := by rw [← l]; simp [bne]
  rcases ten_nat hk with rfl | rfl | rfl | rfl | rfl | rfl | rfl | rfl | rfl | rfl
  · exact key _ _ z.symm
  · exact key (a != b) (!isZ (wrap64 (a - b))) (by rw [z]; rfl)
  · exact key _ _ l.symm
  · refine key (decide (a ≤ b)) ((isS (wrap64 (a - b)) != subO a b (wrap64 (a - b))) || isZ (wrap64 (a - b))) ?_
    rw [l, z, Bool.eq_iff_iff]
    simp only [decide_eq_true_eq, Bool.or_eq_true, beq_iff_eq]
    omega
  · refine key (decide (b < a)) (!(isS (wrap64 (a - b)) != subO a b (wrap64 (a - b))) && !isZ (wrap64 (a - b))) ?_
    rw [l, z, Bool.eq_iff_iff]
    simp only [decide_eq_true_eq, Bool.and_eq_true, Bool.not_eq_true', decide_eq_false_iff_not, beq_eq_false_iff_ne, ne_eq]
    omega
  · refine key (decide (b ≤ a)) (isS (wrap64 (a - b)) == subO a b (wrap64 (a - b))) ?_
    rw [g, Bool.eq_iff_iff]
    simp only [decide_eq_true_eq, Bool.not_eq_true', decide_eq_false_iff_not]
    omega
  · exact key _ (lessU a b) rfl
  · refine key (decide (IntKind.u64.wrap a ≤ IntKind.u64.wrap b)) (lessU a b || isZ (wrap64 (a - b))) ?_
    unfold lessU
    rw [z, Bool.eq_iff_iff]
    simp only [decide_eq_true_eq, Bool.or_eq_true, beq_iff_eq]
    omega
  · refine key (decide (IntKind.u64.wrap b < IntKind.u64.wrap a)) (!lessU a b && !isZ (wrap64 (a - b))) ?_
    unfold lessU
    rw [z, Bool.eq_iff_iff]
    simp only [decide_eq_true_eq, Bool.and_eq_true, Bool.not_eq_true', decide_eq_false_iff_not, beq_eq_false_iff_ne, ne_eq]
    omega
  · refine key (decide (IntKind.u64.wrap b ≤ IntKind.u64.wrap a)) (!lessU a b) ?_
    unfold lessU
    rw [Bool.eq_iff_iff]
    simp only [decide_eq_true_eq, Bool.not_eq_true', decide_eq_false_iff_not]
    omega

/-- Cmp's flags and what is wanted, laid ahead of a call, lie there behind it. -/
theorem keepC {w1 wx : World} {a b : Int} (h1 : -9223372036854775808 ≤ a) (h2 : a ≤ 9223372036854775807) (h3 : -9223372036854775808 ≤ b) (h4 : b ≤ 9223372036854775807) {k : Nat} (hk : k < 10)
    (h : Later ((w1.alloc (.cells (flagsA a b) 23)).alloc (.cells (wants a b) 4)) wx) :
    Later ((w1.alloc (.cells (flagsA a b) 23)).alloc (.cells (wants a b) 4)) wx ∧ wx.cell? ⟨w1.heap.size, 0, none⟩ = some (.bool (isZ (wrap64 (a - b)))) ∧ wx.cell? ⟨w1.heap.size, 1, none⟩ = some (.bool (isS (wrap64 (a - b)))) ∧
      wx.cell? ⟨w1.heap.size, 2, none⟩ = some (.bool (lessU a b)) ∧ wx.cell? ⟨w1.heap.size, 3, none⟩ = some (.bool (subO a b (wrap64 (a - b)))) ∧ wx.cell? ⟨w1.heap.size + 1, k, none⟩ = some (.bool (behind a b ((k : Int) + 1))) := by
  have s1 : ((w1.alloc (.cells (flagsA a b) 23)).alloc (.cells (wants a b) 4)).heap.size = w1.heap.size + 1 + 1 := by simp [World.size_alloc]
  have c (i : Nat) : wx.cell? ⟨w1.heap.size, i, none⟩ = ((w1.alloc (.cells (flagsA a b) 23)).alloc (.cells (wants a b) 4)).cell? ⟨w1.heap.size, i, none⟩ := h.below.cell (p := ⟨w1.heap.size, i, none⟩) (by show w1.heap.size < _; omega)
  have d : wx.cell? ⟨w1.heap.size + 1, k, none⟩ = ((w1.alloc (.cells (flagsA a b) 23)).alloc (.cells (wants a b) 4)).cell? ⟨w1.heap.size + 1, k, none⟩ := h.below.cell (p := ⟨w1.heap.size + 1, k, none⟩) (by show w1.heap.size + 1 < _; omega)
  refine ⟨h, ?_, ?_, ?_, ?_, ?_⟩
  · rw [c]; simp [go_sem, flagsA]
  · rw [c]; simp [go_sem, flagsA]
  · rw [c]; simp [go_sem, flagsA]
  · rw [c]; simp [go_sem, flagsA]
  · rw [d, ← wants_at a b h1 h2 h3 h4 k hk]
    simp [go_sem]
end Go.Proofs.Ytdmcgckfdbeblaa
