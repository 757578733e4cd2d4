/-
  Where symbols lie, as plain recursions over lists: sums of sizes, which symbol has a cell, what cells begin with. Conditions: as each theorem names them.
-/
import Derived.Test.YtgkdejldpldkiaaDoorJi
namespace Go.Proofs.YtgkdejldpldkiaaDoor
open Go.RowKit
set_option linter.unusedVariables false
set_option linter.unusedSimpArgs false

/-- How many cells these symbols have together. -/
def sumF : Syms → Int
  | [] => 0
  | s :: r => s.1.size + sumF r

theorem sum_append (a b : Syms) : sumF (a ++ b) = sumF a + sumF b := by
  induction a with
  | nil => simp [sumF]
  | cons s r ih => simp only [List.cons_append, sumF, ih]; omega

theorem sum_next {S : Syms} {i : Nat} {s : Sym × List Int} (h : S[i]? = some s) : sumF (S.take (i + 1)) = sumF (S.take i) + s.1.size := by
  rw [List.take_add_one, h, sum_append]
  simp [sumF]

/-- Symbols that may be: few, of few cells, each with no more numbers than cells. -/
structure Sized (S : Syms) : Prop where
  few : S.length ≤ 64
  each : ∀ s ∈ S, 1 ≤ s.1.size ∧ s.1.size ≤ 64 ∧ (s.2.length : Int) ≤ s.1.size

theorem syms_each : ∀ (S ahead : Syms), symsC ahead S = 0 → ∀ s ∈ S, 1 ≤ s.1.size ∧ s.1.size ≤ 64 ∧ (s.2.length : Int) ≤ s.1.size
  | [], _, _ => fun s hs => by simp at hs
  | z :: r, ahead, h => by
    unfold symsC at h
    by_cases h0 : symC ahead z = 0
    · rw [if_pos h0] at h
      intro s hs
      rcases List.mem_cons.1 hs with rfl | hs
      · unfold symC at h0
        split at h0
        · omega
        split at h0
        · omega
        split at h0
        · omega
        · omega
      · exact syms_each r _ h s hs
    · rw [if_neg h0] at h
      exact absurd h h0

theorem sized_check {S : Syms} {P : List Thr} (h : checkC S P = 0) : Sized S := by
  unfold checkC at h
  split at h
  · omega
  · rename_i h64
    split at h
    · rename_i h0
      exact ⟨by omega, syms_each S [] h0⟩
    · rename_i h0
      exact absurd h h0

/-- The symbols that lie in the row: none, if the program may not be. -/
def laidF (S : Syms) (P : List Thr) : Syms := if checkC S P = 0 then S else []

theorem laid_sized (S : Syms) (P : List Thr) : Sized (laidF S P) := by
  unfold laidF
  split
  · rename_i h; exact sized_check h
  · exact ⟨by simp, fun s hs => by simp at hs⟩

theorem sum_bounds : ∀ {S : Syms}, (∀ s ∈ S, 1 ≤ s.1.size ∧ s.1.size ≤ 64 ∧ (s.2.length : Int) ≤ s.1.size) → 0 ≤ sumF S ∧ sumF S ≤ 64 * (S.length : Int)
  | [], _ => by simp [sumF]
  | s :: r, h => by
    have h1 := h s (List.mem_cons_self ..)
    have h2 := sum_bounds (S := r) (fun z hz => h z (List.mem_cons_of_mem _ hz))
    simp only [sumF, List.length_cons]
    omega

theorem Sized.take {S : Syms} (h : Sized S) (i : Nat) : Sized (S.take i) := ⟨by have := h.few; rw [List.length_take]; omega, fun s hs => h.each s (List.mem_of_mem_take hs)⟩

theorem Sized.sum {S : Syms} (h : Sized S) (i : Nat) : 0 ≤ sumF (S.take i) ∧ sumF (S.take i) ≤ 4096 := by
  have h1 := sum_bounds (h.take i).each
  have h2 := (h.take i).few
  omega

theorem Sized.get {S : Syms} (h : Sized S) {i : Nat} {s : Sym × List Int} (hi : S[i]? = some s) : 1 ≤ s.1.size ∧ s.1.size ≤ 64 ∧ (s.2.length : Int) ≤ s.1.size := h.each s (List.mem_of_getElem? hi)

/-- The sum of some first symbols, and one more, is no more than that of all. -/
theorem sum_mono {S : Syms} (h : Sized S) {i : Nat} {s : Sym × List Int} (hi : S[i]? = some s) : sumF (S.take i) + s.1.size ≤ sumF S := by
  have h1 := sum_append (S.take (i + 1)) (S.drop (i + 1))
  rw [List.take_append_drop, sum_next hi] at h1
  have h2 := (sum_bounds (S := S.drop (i + 1)) (fun z hz => h.each z (List.mem_of_mem_drop hz))).1
  omega

/-- The first cell of a symbol; -1. -/
def baseF (S : Syms) (k : Int) : Int := if 0 ≤ k ∧ k < S.length then sumF (S.take k.toNat) else -1

/-- Which symbol has a cell. -/
def symF : Syms → Int → Nat → Int
  | [], _, _ => -1
  | s :: r, a, k => if a < s.1.size then k else symF r (a - s.1.size) (k + 1)

theorem sym_drop {S : Syms} {i : Nat} {s : Sym × List Int} (h : S[i]? = some s) (a : Int) (k : Nat) : symF (S.drop i) a k = if a < s.1.size then (k : Int) else symF (S.drop (i + 1)) (a - s.1.size) (k + 1) := by
  obtain ⟨hi, ht⟩ := List.getElem?_eq_some_iff.1 h
  rw [List.drop_eq_getElem_cons hi, ht]
  rfl

def symAt (S : Syms) (a : Int) : Int := if a < 0 then -1 else symF S a 0

/-- What the cells of one symbol begin with; those of all. -/
def cellsOne (s : Sym × List Int) : List Int := s.2 ++ List.replicate (s.1.size.toNat - s.2.length) 0
def startF (S : Syms) : List Int := S.flatMap cellsOne

theorem one_length {s : Sym × List Int} (h : (s.2.length : Int) ≤ s.1.size) : ((cellsOne s).length : Int) = s.1.size := by
  unfold cellsOne
  rw [List.length_append, List.length_replicate]
  omega

theorem start_length : ∀ {S : Syms}, (∀ s ∈ S, 1 ≤ s.1.size ∧ s.1.size ≤ 64 ∧ (s.2.length : Int) ≤ s.1.size) → ((startF S).length : Int) = sumF S
  | [], _ => rfl
  | s :: r, h => by
    have h1 := one_length (h s (List.mem_cons_self ..)).2.2
    have h2 := start_length (S := r) (fun z hz => h z (List.mem_cons_of_mem _ hz))
    simp only [startF, List.flatMap_cons, List.length_append, sumF] at h2 ⊢
    omega

theorem start_next {S : Syms} {i : Nat} {s : Sym × List Int} (h : S[i]? = some s) : startF (S.take (i + 1)) = startF (S.take i) ++ cellsOne s := by
  rw [List.take_add_one, h]
  simp [startF]

/-- The cell within its symbol that an operand tells. -/
def placeF (o : Opd) (r : Nat → Int) : Option Int := if opdRightF o = true then (if o.kind = 3 then some o.n else if o.kind = 4 then some (r o.reg.toNat) else none) else none

/-- The cell that an operand tells. -/
def addrF (S : Syms) (o : Opd) (r : Nat → Int) : Option Int := match placeF o r with
  | none => none
  | some n => if o.sym < (S.length : Int) ∧ 0 ≤ n ∧ n < sizeAt S o.sym then some (sumF (S.take o.sym.toNat) + n) else none

/-- Eight registers as one value. -/
def regsV (r : Nat → Int) : Value := .agg #[.int .i64 (r 0), .int .i64 (r 1), .int .i64 (r 2), .int .i64 (r 3), .int .i64 (r 4), .int .i64 (r 5), .int .i64 (r 6), .int .i64 (r 7)]

theorem box8_facts {w : World} {B : Nat} {a0 a1 a2 a3 a4 a5 a6 a7 : Value} {t : TypeId} (h : w.heap[B]? = some (.cells #[a0, a1, a2, a3, a4, a5, a6, a7] t)) :
    w.cell? ⟨B, 0, none⟩ = some a0 ∧ w.cell? ⟨B, 1, none⟩ = some a1 ∧ w.cell? ⟨B, 2, none⟩ = some a2 ∧ w.cell? ⟨B, 3, none⟩ = some a3 ∧ w.cell? ⟨B, 4, none⟩ = some a4 ∧ w.cell? ⟨B, 5, none⟩ = some a5 ∧ w.cell? ⟨B, 6, none⟩ = some a6 ∧ w.cell? ⟨B, 7, none⟩ = some a7 := by
  simp [World.cell?, h]

theorem box8_at {w : World} {B : Nat} {r : Nat → Int} {t : TypeId} (h : w.heap[B]? = some (.cells #[.int .i64 (r 0), .int .i64 (r 1), .int .i64 (r 2), .int .i64 (r 3), .int .i64 (r 4), .int .i64 (r 5), .int .i64 (r 6), .int .i64 (r 7)] t)) {k : Nat} (hk : k < 8) :
    w.cell? ⟨B, k, none⟩ = some (.int .i64 (r k)) := by
  obtain ⟨h0, h1, h2, h3, h4, h5, h6, h7⟩ := box8_facts h
  match k, hk with
  | 0, _ => exact h0
  | 1, _ => exact h1
  | 2, _ => exact h2
  | 3, _ => exact h3
  | 4, _ => exact h4
  | 5, _ => exact h5
  | 6, _ => exact h6
  | 7, _ => exact h7

theorem size_at {S : Syms} {i : Nat} {s : Sym × List Int} (h : S[i]? = some s) : sizeAt S (i : Int) = s.1.size := by
  unfold sizeAt
  rw [Int.toNat_natCast, h]

end Go.Proofs.YtgkdejldpldkiaaDoor
