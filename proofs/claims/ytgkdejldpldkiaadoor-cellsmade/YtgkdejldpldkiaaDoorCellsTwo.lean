/-
  Two symbols, the second of any size: what the cells of its program are; eight registers of which one holds a number. Conditions: as each theorem names them.
-/
import Derived.Test.YtgkdejldpldkiaaDoorCellsAlive
import Derived.Test.YtgkdejldpldkiaaDoorJh
namespace Go.Proofs.YtgkdejldpldkiaaDoor
open Go.RowKit
set_option linter.unusedVariables false
set_option linter.unusedSimpArgs false

def twoS (z : Int) : Syms := [(⟨⟨#[97]⟩, 2, .slice none 0 0⟩, []), (⟨⟨#[98]⟩, z, .slice none 0 0⟩, [])]

theorem twoS_check {a : Nat} (h : a ≤ 63) : checkC (twoS (1 + (a : Int))) [] = 0 := by
  have hall : ((List.range 64).all fun a => checkC (twoS (1 + (a : Int))) [] == 0) = true := by kernel_rfl
  have := List.all_eq_true.1 hall a (by simp; omega)
  simpa using this

theorem twoS_fine (z : Int) : FineP (twoS z) [] := ⟨fun s hs => by
  simp only [twoS, List.mem_cons, List.not_mem_nil, or_false] at hs
  rcases hs with rfl | rfl
  · show (1 : Nat) ≤ 1000; omega
  · show (1 : Nat) ≤ 1000; omega, fun _ h => by simp at h⟩

theorem twoS_laid {a : Nat} (h : a ≤ 63) : laidF (twoS (1 + (a : Int))) [] = twoS (1 + (a : Int)) := by unfold laidF; rw [if_pos (twoS_check h)]

theorem twoS_row {w : World} {C : Nat} {z : Int} (hz : I64 z) (hC : w.heap[C]? = some (.cells #[.string ⟨#[97]⟩, .int .i64 2, .slice none 0 0, .string ⟨#[98]⟩, .int .i64 z, .slice none 0 0] 47)) :
    SymRow w (.slice (some ⟨C, 0, none⟩) 2 2) (twoS z) := by
  refine ⟨some ⟨C, 0, none⟩, 2, rfl, Nat.le_refl _, by unfold maxLen; omega, fun _ => ⟨C, 0, rfl, fun i a hi => ?_⟩⟩
  match i, hi with
  | 0, hi =>
    simp [twoS] at hi
    subst hi
    refine ⟨_, ⟨rfl, by show (1 : Nat) ≤ maxLen; unfold maxLen; omega, by unfold I64; dsimp only; omega, RowIn.nil _ _ _⟩, fun j c hj => ?_⟩
    match j, hj with
    | 0, hj => simp [Sym.cells] at hj; subst hj; simp [World.cell?, hC]
    | 1, hj => simp [Sym.cells] at hj; subst hj; simp [World.cell?, hC]
    | 2, hj => simp [Sym.cells] at hj; subst hj; simp [World.cell?, hC]
    | j + 3, hj => simp [Sym.cells] at hj
  | 1, hi =>
    simp [twoS] at hi
    subst hi
    refine ⟨_, ⟨rfl, by show (1 : Nat) ≤ maxLen; unfold maxLen; omega, hz, RowIn.nil _ _ _⟩, fun j c hj => ?_⟩
    match j, hj with
    | 0, hj => simp [Sym.cells] at hj; subst hj; simp [World.cell?, hC]
    | 1, hj => simp [Sym.cells] at hj; subst hj; simp [World.cell?, hC]
    | 2, hj => simp [Sym.cells] at hj; subst hj; simp [World.cell?, hC]
    | j + 3, hj => simp [Sym.cells] at hj
  | i + 2, hi => simp [twoS] at hi

/-- One register holds n, the others 0. -/
def only (k : Nat) (n : Int) (j : Nat) : Int := if j = k then n else 0

theorem only_i64 {n : Int} (hn : I64 n) (k j : Nat) : I64 (only k n j) := by
  unfold only
  split
  · exact hn
  · unfold I64; omega

theorem twoS_addr {z n : Int} {k : Nat} (hk : k ≤ 7) : addrF (twoS z) ⟨4, k, 1, 0⟩ (only k n) = if 0 ≤ n ∧ n < z then some (2 + n) else none := by
  have hp : placeF ⟨4, k, 1, 0⟩ (only k n) = some n := by
    unfold placeF
    have h1 : opdRightF ⟨4, (k : Int), 1, 0⟩ = true := by
      unfold opdRightF
      rw [decide_eq_true_eq]
      exact Or.inr (Or.inr (Or.inr ⟨rfl, by show (0 : Int) ≤ 1; omega, by show (0 : Int) ≤ (k : Int); omega, by show (k : Int) ≤ 7; omega, rfl⟩))
    rw [if_pos h1]
    show (if (4 : Int) = 3 then some 0 else if (4 : Int) = 4 then some (only k n ((k : Int)).toNat) else none) = some n
    rw [if_neg (by omega), if_pos rfl, Int.toNat_natCast]
    unfold only
    rw [if_pos rfl]
  unfold addrF
  rw [hp]
  show (if (1 : Int) < 2 ∧ 0 ≤ n ∧ n < z then some ((2 + 0 : Int) + n) else none) = _
  by_cases h : 0 ≤ n ∧ n < z
  · rw [if_pos ⟨by omega, h⟩, if_pos h]
    rfl
  · rw [if_neg (fun h' => h h'.2), if_neg h]

/-- The registers' block behind a store into one of them. -/
theorem only_stored {w : World} {B : Nat} {t : TypeId} (h : w.heap[B]? = some (.cells #[.int .i64 0, .int .i64 0, .int .i64 0, .int .i64 0, .int .i64 0, .int .i64 0, .int .i64 0, .int .i64 0] t)) {k : Nat} (hk : k ≤ 7) (n : Int) :
    (w.setCell ⟨B, k, none⟩ (.int .i64 n)).heap[B]? = some (.cells #[.int .i64 (only k n 0), .int .i64 (only k n 1), .int .i64 (only k n 2), .int .i64 (only k n 3), .int .i64 (only k n 4), .int .i64 (only k n 5), .int .i64 (only k n 6), .int .i64 (only k n 7)] t) := by
  rw [setCell_block h]
  match k, hk with
  | 0, _ => rfl
  | 1, _ => rfl
  | 2, _ => rfl
  | 3, _ => rfl
  | 4, _ => rfl
  | 5, _ => rfl
  | 6, _ => rfl
  | 7, _ => rfl

theorem zero_at {w : World} {B : Nat} {t : TypeId} (h : w.heap[B]? = some (.cells #[.int .i64 0, .int .i64 0, .int .i64 0, .int .i64 0, .int .i64 0, .int .i64 0, .int .i64 0, .int .i64 0] t)) {k : Nat} (hk : k ≤ 7) :
    w.cell? ⟨B, k, none⟩ = some (.int .i64 0) ∧ w.frozen? ⟨B, k, none⟩ = false := by
  match k, hk with
  | 0, _ => simp [World.cell?, World.frozen?, h]
  | 1, _ => simp [World.cell?, World.frozen?, h]
  | 2, _ => simp [World.cell?, World.frozen?, h]
  | 3, _ => simp [World.cell?, World.frozen?, h]
  | 4, _ => simp [World.cell?, World.frozen?, h]
  | 5, _ => simp [World.cell?, World.frozen?, h]
  | 6, _ => simp [World.cell?, World.frozen?, h]
  | 7, _ => simp [World.cell?, World.frozen?, h]

end Go.Proofs.YtgkdejldpldkiaaDoor
