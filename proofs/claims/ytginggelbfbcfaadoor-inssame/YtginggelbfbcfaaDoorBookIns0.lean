/-
  What is wanted of an instruction's thirteen cells and of a raw act's five, and what the statements' own maker of instructions makes of a raw act. Nothing runs here. Conditions: none.
-/
import Derived.Test.YtginggelbfbcfaaDoorBookOpd
import Derived.Test.YtginggelbfbcfaaDoorRefIns
namespace Go.Proofs.YtginggelbfbcfaaDoor
open Go.RowKit
set_option linter.unusedVariables false
set_option linter.unusedSimpArgs false

/-- A raw act. -/
structure Act5 where
  kind : Int
  a : Int
  b : Int
  c : Int
  n : Int

def Act5.val (x : Act5) : Value := .agg #[.int .i64 x.kind, .int .i64 x.a, .int .i64 x.b, .int .i64 x.c, .int .i64 x.n]
/-- Its numbers are of 64 bits. -/
structure Act5.Ok (x : Act5) : Prop where
  kind : I64 x.kind
  a : I64 x.a
  b : I64 x.b
  c : I64 x.c

def nilS : Value := .slice none 0 0

/-- An instruction of two operands. -/
def twoI (op : Int) (lock : Bool) (a b : Opd) : Ins := ⟨op, lock, 0, a, b, ⟨#[]⟩, nilS⟩
def zeroO : Opd := ⟨0, 0, 0, 0⟩

/-- The instruction that is made of a raw act. -/
def insOf (x : Act5) (many : Int) : Ins :=
  match (pick x.kind 22).toNat with
  | 0 => twoI 1 false (registerO x.a) (plainO x.b x.n)
  | 1 => twoI 1 false (registerO x.a) (memoryO x.b)
  | 16 => twoI 1 false (registerO x.a) (memoryO x.b)
  | 17 => twoI 1 false (registerO x.a) (memoryO x.b)
  | 2 => twoI 1 false (memoryO x.a) (plainO x.b x.n)
  | 18 => twoI 1 false (memoryO x.a) (plainO x.b x.n)
  | 19 => twoI 1 false (memoryO x.a) (plainO x.b x.n)
  | 20 => twoI 1 false (memoryO x.a) (plainO x.b x.n)
  | 3 => twoI (2 + pick x.c 5) false (registerO x.a) (plainO x.b x.n)
  | 4 => twoI (2 + pick x.c 5) false (registerO x.a) (memoryO x.b)
  | 5 => twoI (2 + pick x.c 5) false (memoryO x.a) (plainO x.b x.n)
  | 21 => twoI (2 + pick x.c 5) false (memoryO x.a) (plainO x.b x.n)
  | 6 => twoI 7 false (registerO x.a) (memoryO x.b)
  | 7 => twoI 7 false (memoryO x.a) (plainO x.b x.n)
  | 8 => twoI 8 false (memoryO x.a) (registerO x.b)
  | 9 => twoI 9 true (memoryO x.a) (registerO x.b)
  | 10 => twoI (2 + pick x.c 5) true (memoryO x.a) (plainO x.b x.n)
  | 11 => ⟨10, false, 0, zeroO, zeroO, labelT (pick x.a many).toNat, nilS⟩
  | 12 => ⟨11, false, 1 + pick x.c 10, zeroO, zeroO, labelT (pick x.a many).toNat, nilS⟩
  | 13 => twoI 12 false zeroO zeroO
  | 14 => twoI 7 false (registerO x.a) (plainO x.b x.n)
  | _ => twoI 13 false zeroO zeroO

theorem box5_facts {w : World} {B : Nat} {a0 a1 a2 a3 a4 : Value} {t : TypeId} (h : w.heap[B]? = some (.cells #[a0, a1, a2, a3, a4] t)) :
    w.cell? ⟨B, 0, none⟩ = some a0 ∧ w.cell? ⟨B, 1, none⟩ = some a1 ∧ w.cell? ⟨B, 2, none⟩ = some a2 ∧ w.cell? ⟨B, 3, none⟩ = some a3 ∧ w.cell? ⟨B, 4, none⟩ = some a4 := by
  simp [World.cell?, h]

theorem box13_free {w : World} {B : Nat} {a0 a1 a2 a3 a4 a5 a6 a7 a8 a9 a10 a11 a12 : Value} {t : TypeId} (h : w.heap[B]? = some (.cells #[a0, a1, a2, a3, a4, a5, a6, a7, a8, a9, a10, a11, a12] t)) :
    w.frozen? ⟨B, 0, none⟩ = false ∧ w.frozen? ⟨B, 1, none⟩ = false ∧ w.frozen? ⟨B, 2, none⟩ = false ∧ w.frozen? ⟨B, 3, none⟩ = false ∧ w.frozen? ⟨B, 4, none⟩ = false ∧ w.frozen? ⟨B, 5, none⟩ = false ∧ w.frozen? ⟨B, 6, none⟩ = false ∧ w.frozen? ⟨B, 7, none⟩ = false ∧ w.frozen? ⟨B, 8, none⟩ = false ∧ w.frozen? ⟨B, 9, none⟩ = false ∧ w.frozen? ⟨B, 10, none⟩ = false ∧ w.frozen? ⟨B, 11, none⟩ = false ∧ w.frozen? ⟨B, 12, none⟩ = false := by
  simp [World.frozen?, h]

/-- Thirteen cells stored. -/
@[reducible] def store13 (w : World) (B : Nat) (a0 a1 a2 a3 a4 a5 a6 a7 a8 a9 a10 a11 a12 : Value) : World :=
  (((((((((((((w.setCell ⟨B, 0, none⟩ a0).setCell ⟨B, 1, none⟩ a1).setCell ⟨B, 2, none⟩ a2).setCell ⟨B, 3, none⟩ a3).setCell ⟨B, 4, none⟩ a4).setCell ⟨B, 5, none⟩ a5).setCell ⟨B, 6, none⟩ a6).setCell ⟨B, 7, none⟩ a7).setCell ⟨B, 8, none⟩ a8).setCell ⟨B, 9, none⟩ a9).setCell ⟨B, 10, none⟩ a10).setCell ⟨B, 11, none⟩ a11).setCell ⟨B, 12, none⟩ a12)

theorem store13_block {w : World} {B : Nat} {o0 o1 o2 o3 o4 o5 o6 o7 o8 o9 o10 o11 o12 : Value} {t : TypeId} (h : w.heap[B]? = some (.cells #[o0, o1, o2, o3, o4, o5, o6, o7, o8, o9, o10, o11, o12] t)) (a0 a1 a2 a3 a4 a5 a6 a7 a8 a9 a10 a11 a12 : Value) :
    (store13 w B a0 a1 a2 a3 a4 a5 a6 a7 a8 a9 a10 a11 a12).heap[B]? = some (.cells #[a0, a1, a2, a3, a4, a5, a6, a7, a8, a9, a10, a11, a12] t) := by
  unfold store13
  rw [setCell_block (setCell_block (setCell_block (setCell_block (setCell_block (setCell_block (setCell_block (setCell_block (setCell_block (setCell_block (setCell_block (setCell_block (setCell_block h 0 a0) 1 a1) 2 a2) 3 a3) 4 a4) 5 a5) 6 a6) 7 a7) 8 a8) 9 a9) 10 a10) 11 a11) 12 a12]
  kernel_rfl

theorem store13_later {w w' : World} (h : Later w w') {B : Nat} (hB : w.heap.size ≤ B) (a0 a1 a2 a3 a4 a5 a6 a7 a8 a9 a10 a11 a12 : Value) : Later w (store13 w' B a0 a1 a2 a3 a4 a5 a6 a7 a8 a9 a10 a11 a12) := by
  unfold store13
  exact Below.setCell (Below.setCell (Below.setCell (Below.setCell (Below.setCell (Below.setCell (Below.setCell (Below.setCell (Below.setCell (Below.setCell (Below.setCell (Below.setCell (Below.setCell h hB _) hB _) hB _) hB _) hB _) hB _) hB _) hB _) hB _) hB _) hB _) hB _) hB _

theorem setCell_other {w : World} {B C : Nat} (h : B ≠ C) (j : Nat) (v : Value) : (w.setCell ⟨C, j, none⟩ v).heap[B]? = w.heap[B]? := by
  show (w.heap.modify C _)[B]? = _
  rw [Array.getElem?_modify, if_neg (fun e => h e.symm)]

theorem store13_other {w : World} {B C : Nat} (h : B ≠ C) (a0 a1 a2 a3 a4 a5 a6 a7 a8 a9 a10 a11 a12 : Value) : (store13 w C a0 a1 a2 a3 a4 a5 a6 a7 a8 a9 a10 a11 a12).heap[B]? = w.heap[B]? := by
  unfold store13
  simp only [setCell_other h]

theorem held_of {w w' : World} {E : Nat} {k a b c n : Value} {t : TypeId} (h : Later w w') (hb : w'.heap[E]? = some (.cells #[k, a, b, c, n] t)) :
    Later w w' ∧ w'.cell? ⟨E, 0, none⟩ = some k ∧ w'.cell? ⟨E, 1, none⟩ = some a ∧ w'.cell? ⟨E, 2, none⟩ = some b ∧ w'.cell? ⟨E, 3, none⟩ = some c ∧ w'.cell? ⟨E, 4, none⟩ = some n := ⟨h, box5_facts hb⟩

theorem heap_drew {w : World} {B : Nat} {o : Obj} (h : w.heap[B]? = some o) : w.drew.heap[B]? = some o := heap_later (Later.drew (Later.refl _)) h

/-- Thirteen cells lie there. -/
def There13 (w : World) (C : Nat) : Prop := ∃ a0 a1 a2 a3 a4 a5 a6 a7 a8 a9 a10 a11 a12, w.heap[C]? = some (.cells #[a0, a1, a2, a3, a4, a5, a6, a7, a8, a9, a10, a11, a12] 26)

theorem There13.of {w : World} {C : Nat} {a0 a1 a2 a3 a4 a5 a6 a7 a8 a9 a10 a11 a12 : Value} (h : w.heap[C]? = some (.cells #[a0, a1, a2, a3, a4, a5, a6, a7, a8, a9, a10, a11, a12] 26)) : There13 w C := ⟨_, _, _, _, _, _, _, _, _, _, _, _, _, h⟩

theorem There13.later {w w' : World} {C : Nat} (h : There13 w C) (hl : Later w w') : There13 w' C := by
  obtain ⟨a0, a1, a2, a3, a4, a5, a6, a7, a8, a9, a10, a11, a12, h⟩ := h
  exact .of (heap_later hl h)

theorem There13.stored {w : World} {C : Nat} (h : There13 w C) (a0 a1 a2 a3 a4 a5 a6 a7 a8 a9 a10 a11 a12 : Value) : (store13 w C a0 a1 a2 a3 a4 a5 a6 a7 a8 a9 a10 a11 a12).heap[C]? = some (.cells #[a0, a1, a2, a3, a4, a5, a6, a7, a8, a9, a10, a11, a12] 26) := by
  obtain ⟨b0, b1, b2, b3, b4, b5, b6, b7, b8, b9, b10, b11, b12, h⟩ := h
  exact store13_block h _ _ _ _ _ _ _ _ _ _ _ _ _

/-- What a cell holds. -/
def cellAt (w : World) (C j : Nat) : Value := (w.cell? ⟨C, j, none⟩).getD .nilIface

theorem cellAt_of {w : World} {C j : Nat} {v : Value} (h : w.cell? ⟨C, j, none⟩ = some v) : w.cell? ⟨C, j, none⟩ = some (cellAt w C j) := by
  unfold cellAt
  rw [h]
  rfl

theorem held_all {w w' : World} {E C : Nat} {k a b c n : Value} {t : TypeId} (h : Later w w') (hb : w'.heap[E]? = some (.cells #[k, a, b, c, n] t)) (hc : There13 w' C) :
    Later w w' ∧ w'.cell? ⟨E, 0, none⟩ = some k ∧ w'.cell? ⟨E, 1, none⟩ = some a ∧ w'.cell? ⟨E, 2, none⟩ = some b ∧ w'.cell? ⟨E, 3, none⟩ = some c ∧ w'.cell? ⟨E, 4, none⟩ = some n ∧ w'.cell? ⟨C, 0, none⟩ = some (cellAt w' C 0) ∧ w'.cell? ⟨C, 1, none⟩ = some (cellAt w' C 1) ∧ w'.cell? ⟨C, 2, none⟩ = some (cellAt w' C 2) ∧ w'.cell? ⟨C, 3, none⟩ = some (cellAt w' C 3) ∧ w'.cell? ⟨C, 4, none⟩ = some (cellAt w' C 4) ∧ w'.cell? ⟨C, 5, none⟩ = some (cellAt w' C 5) ∧ w'.cell? ⟨C, 6, none⟩ = some (cellAt w' C 6) ∧ w'.cell? ⟨C, 7, none⟩ = some (cellAt w' C 7) ∧ w'.cell? ⟨C, 8, none⟩ = some (cellAt w' C 8) ∧ w'.cell? ⟨C, 9, none⟩ = some (cellAt w' C 9) ∧ w'.cell? ⟨C, 10, none⟩ = some (cellAt w' C 10) ∧ w'.cell? ⟨C, 11, none⟩ = some (cellAt w' C 11) ∧ w'.cell? ⟨C, 12, none⟩ = some (cellAt w' C 12) ∧ w'.frozen? ⟨C, 0, none⟩ = false ∧ w'.frozen? ⟨C, 1, none⟩ = false ∧ w'.frozen? ⟨C, 2, none⟩ = false ∧ w'.frozen? ⟨C, 3, none⟩ = false ∧ w'.frozen? ⟨C, 4, none⟩ = false ∧ w'.frozen? ⟨C, 5, none⟩ = false ∧ w'.frozen? ⟨C, 6, none⟩ = false ∧ w'.frozen? ⟨C, 7, none⟩ = false ∧ w'.frozen? ⟨C, 8, none⟩ = false ∧ w'.frozen? ⟨C, 9, none⟩ = false ∧ w'.frozen? ⟨C, 10, none⟩ = false ∧ w'.frozen? ⟨C, 11, none⟩ = false ∧ w'.frozen? ⟨C, 12, none⟩ = false := by
  obtain ⟨e0, e1, e2, e3, e4⟩ := box5_facts hb
  obtain ⟨b0, b1, b2, b3, b4, b5, b6, b7, b8, b9, b10, b11, b12, hc⟩ := hc
  obtain ⟨i0, i1, i2, i3, i4, i5, i6, i7, i8, i9, i10, i11, i12⟩ := box13_facts hc
  obtain ⟨f0, f1, f2, f3, f4, f5, f6, f7, f8, f9, f10, f11, f12⟩ := box13_free hc
  exact ⟨h, e0, e1, e2, e3, e4, cellAt_of i0, cellAt_of i1, cellAt_of i2, cellAt_of i3, cellAt_of i4, cellAt_of i5, cellAt_of i6, cellAt_of i7, cellAt_of i8, cellAt_of i9, cellAt_of i10, cellAt_of i11, cellAt_of i12, f0, f1, f2, f3, f4, f5, f6, f7, f8, f9, f10, f11, f12⟩

end Go.Proofs.YtginggelbfbcfaaDoor
