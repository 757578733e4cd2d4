/-
  What the document's own functions over an operand return: whether it may be, whether it is memory, or plain. Nothing that was in memory turns. Conditions: none.
  What the document's own functions over an operand and over what an instruction does return: whether it is plain; whether it jumps, or reckons. Nothing that was in memory turns. Conditions: none.
  What the document's own functions over an instruction return: whether its operands are those of a row, and what is wrong with it. Nothing that was in memory turns. Conditions: as each theorem names them.
  What the statements' own word for 'too great an instruction' returns: whether it has more than 6 labels, or a text of more than 60 bytes. Nothing that was in memory turns. Conditions: its labels are a slice of texts in memory; no text is greater than a machine can hold.
-/
import Derived.Test.YtmmimlpgpionnaaDoorJa
import Derived.RegionTactic
import Derived.Deep.CutRange
import Derived.Deep.RegionWith
namespace Go.Proofs.YtmmimlpgpionnaaDoor
open Go.RowKit
set_option linter.unusedVariables false
set_option linter.unusedSimpArgs false

/-- An operand's four numbers. -/
structure Opd where
  kind : Int
  reg : Int
  sym : Int
  n : Int

/-- An operand, as a call takes it. -/
def Opd.val (o : Opd) : Value := .agg #[.int .i64 o.kind, .int .i64 o.reg, .int .i64 o.sym, .int .i64 o.n]

/-- Whether it may be. -/
def opdRightF (o : Opd) : Bool := decide ((o.kind = 1 ∧ 0 ≤ o.reg ∧ o.reg ≤ 7 ∧ o.sym = 0 ∧ o.n = 0) ∨ (o.kind = 2 ∧ o.reg = 0 ∧ o.sym = 0) ∨ (o.kind = 3 ∧ 0 ≤ o.sym ∧ 0 ≤ o.n ∧ o.reg = 0) ∨ (o.kind = 4 ∧ 0 ≤ o.sym ∧ 0 ≤ o.reg ∧ o.reg ≤ 7 ∧ o.n = 0))
def memF (o : Opd) : Bool := decide (o.kind = 3 ∨ o.kind = 4)
def plainF (o : Opd) : Bool := decide (o.kind = 1 ∨ o.kind = 2)
def jumpsF (op : Int) : Bool := decide (op = 10 ∨ op = 11)
def reckonsF (op : Int) : Bool := decide (2 ≤ op ∧ op ≤ 6)

end Go.Proofs.YtmmimlpgpionnaaDoor

namespace Go.Proofs.YtmmimlpgpionnaaDoor
open Go.RowKit
set_option linter.unusedVariables false
set_option linter.unusedSimpArgs false

end Go.Proofs.YtmmimlpgpionnaaDoor

namespace Go.Proofs.YtmmimlpgpionnaaDoor
open Go.RowKit
set_option linter.unusedVariables false
set_option linter.unusedSimpArgs false

/-- An instruction; its labels as they lie in memory. -/
structure Ins where
  op : Int
  lock : Bool
  cond : Int
  a : Opd
  b : Opd
  dest : ByteArray
  labels : Value

/-- Its thirteen cells. -/
def Ins.cells (x : Ins) : Array Value := #[.int .i64 x.op, .bool x.lock, .int .i64 x.cond, .int .i64 x.a.kind, .int .i64 x.a.reg, .int .i64 x.a.sym, .int .i64 x.a.n, .int .i64 x.b.kind, .int .i64 x.b.reg, .int .i64 x.b.sym, .int .i64 x.b.n, .string x.dest, x.labels]
def Ins.val (x : Ins) : Value := .agg x.cells

def opdZero (o : Opd) : Bool := decide (o.kind = 0 ∧ o.reg = 0 ∧ o.sym = 0 ∧ o.n = 0)

/-- Whether the operands are those of a row. -/
def rowF (x : Ins) : Bool :=
  if x.op < 1 ∨ 9 < x.op then opdZero x.a && opdZero x.b && !x.lock
  else if opdRightF x.a = false ∨ opdRightF x.b = false then false
  else if x.op = 8 then memF x.a && decide (x.b.kind = 1) && !x.lock
  else if x.op = 9 then memF x.a && decide (x.b.kind = 1) && x.lock
  else if x.a.kind = 1 then (plainF x.b || memF x.b) && !x.lock
  else memF x.a && plainF x.b && (!x.lock || reckonsF x.op)

theorem box13_facts {w : World} {B : Nat} {a0 a1 a2 a3 a4 a5 a6 a7 a8 a9 a10 a11 a12 : Value} {t : TypeId} (h : w.heap[B]? = some (.cells #[a0, a1, a2, a3, a4, a5, a6, a7, a8, a9, a10, a11, a12] t)) :
    w.cell? ⟨B, 0, none⟩ = some a0 ∧ w.cell? ⟨B, 1, none⟩ = some a1 ∧ w.cell? ⟨B, 2, none⟩ = some a2 ∧ w.cell? ⟨B, 3, none⟩ = some a3 ∧ w.cell? ⟨B, 4, none⟩ = some a4 ∧ w.cell? ⟨B, 5, none⟩ = some a5 ∧ w.cell? ⟨B, 6, none⟩ = some a6 ∧ w.cell? ⟨B, 7, none⟩ = some a7 ∧ w.cell? ⟨B, 8, none⟩ = some a8 ∧ w.cell? ⟨B, 9, none⟩ = some a9 ∧ w.cell? ⟨B, 10, none⟩ = some a10 ∧ w.cell? ⟨B, 11, none⟩ = some a11 ∧ w.cell? ⟨B, 12, none⟩ = some a12 := by
  simp [World.cell?, h]

theorem three_new (w : World) (o p q : Obj) : (((w.alloc o).alloc p).alloc q).drew.heap[w.heap.size]? = some o ∧ (((w.alloc o).alloc p).alloc q).drew.heap[w.heap.size + 1]? = some p ∧ (((w.alloc o).alloc p).alloc q).drew.heap[w.heap.size + 1 + 1]? = some q := by
  have e1 : (w.alloc o).heap.size = w.heap.size + 1 := by simp
  have e2 : ((w.alloc o).alloc p).heap.size = w.heap.size + 1 + 1 := by simp
  refine ⟨?_, ?_, ?_⟩
  · exact heap_later (Later.drew (Later.alloc (Later.alloc (Later.refl _) p) q)) (at_new w o)
  · have h := heap_later (Later.drew (Later.alloc (Later.refl _) q)) (at_new (w.alloc o) p)
    rw [e1] at h
    exact h
  · have h := at_new ((w.alloc o).alloc p) q
    rw [e2] at h
    exact heap_later (Later.drew (Later.refl _)) h

theorem three_later (w : World) (o p q : Obj) : Later w (((w.alloc o).alloc p).alloc q).drew := Later.drew (Later.alloc (Later.alloc (Later.alloc (Later.refl _) o) p) q)

end Go.Proofs.YtmmimlpgpionnaaDoor

namespace Go.Proofs.YtmmimlpgpionnaaDoor
open Go.RowKit
set_option linter.unusedVariables false
set_option linter.unusedSimpArgs false

/-- A slice of texts in memory. -/
def TextsIn (w : World) (v : Value) (L : List ByteArray) : Prop :=
  ∃ (p : Option Addr) (cap : Nat), v = .slice p L.length cap ∧ L.length ≤ cap ∧ cap ≤ maxLen ∧ (∀ t ∈ L, t.size ≤ maxLen) ∧
    (L ≠ [] → ∃ g o, p = some ⟨g, o, none⟩ ∧ ∀ i t, L[i]? = some t → w.cell? ⟨g, o + i, none⟩ = some (.string t))

theorem TextsIn.later {w w' : World} {v : Value} {L : List ByteArray} (h : TextsIn w v L) (hl : Later w w') : TextsIn w' v L := by
  obtain ⟨p, cap, rfl, h1, h2, h3, h4⟩ := h
  refine ⟨p, cap, rfl, h1, h2, h3, fun hn => ?_⟩
  obtain ⟨g, o, rfl, h5⟩ := h4 hn
  exact ⟨g, o, rfl, fun i t ht => cell_later (h5 i t ht) hl⟩

def greatF (x : Ins) (L : List ByteArray) : Bool := decide (6 < L.length) || decide (60 < x.dest.size) || L.any (fun t => decide (60 < t.size))

end Go.Proofs.YtmmimlpgpionnaaDoor
