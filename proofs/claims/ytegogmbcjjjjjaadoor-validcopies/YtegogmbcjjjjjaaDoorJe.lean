/-
  What the document's own InsRight returns of an instruction. Nothing that was in memory turns. Conditions: its name has at most 1000000 bytes.
  What the document's own Reads, Writes, Locked, Fence, Parts and Leads return of an instruction. Nothing that was in memory turns. Conditions: its name has at most 1000000 bytes.
-/
import Derived.Test.YtegogmbcjjjjjaaDoorJd
import Derived.Test.YtegogmbcjjjjjaaDoorJb
namespace Go.Proofs.YtegogmbcjjjjjaaDoor
open Go.RowKit
set_option linter.unusedVariables false
set_option linter.unusedSimpArgs false

/-- What is wrong with an instruction. -/
def insF (x : Ins) : Int :=
  if x.op < 1 ∨ 14 < x.op then 4
  else if rowF x = false then 4
  else if jumpsF x.op = false ∧ x.dest.data.toList.isEmpty = false then 4
  else if x.op = 11 ∧ (x.cond < 1 ∨ 10 < x.cond) then 4
  else if x.op ≠ 11 ∧ x.cond ≠ 0 then 4
  else if jumpsF x.op = true ∧ rightF x.dest = false then 3
  else 0

theorem ret_int {a b : Int} (h : a = b) : Ending.returned (.int .i64 a) = .returned (.int .i64 b) := by rw [h]

end Go.Proofs.YtegogmbcjjjjjaaDoor

namespace Go.Proofs.YtegogmbcjjjjjaaDoor
open Go.RowKit
set_option linter.unusedVariables false
set_option linter.unusedSimpArgs false

def lockedF (x : Ins) : Bool := decide (insF x = 0) && (decide (x.op = 8) || x.lock)
def fenceF (x : Ins) : Bool := (decide (insF x = 0) && decide (x.op = 12)) || lockedF x
def zeroOpd : Opd := ⟨0, 0, 0, 0⟩
def readsF (x : Ins) : Opd × Bool := if insF x ≠ 0 ∨ 9 < x.op then (zeroOpd, false) else if memF x.b = true then (x.b, true) else if memF x.a = true ∧ x.op ≠ 1 then (x.a, true) else (zeroOpd, false)
def writesF (x : Ins) : Opd × Bool := if insF x ≠ 0 ∨ 9 < x.op ∨ x.op = 7 ∨ memF x.a = false then (zeroOpd, false) else (x.a, true)
def partsF (x : Ins) : Int := if insF x ≠ 0 then 0 else if ((readsF x).2 && (writesF x).2 && !lockedF x) = true then 2 else 1
def leadsF (x : Ins) : Bool × Bool := if insF x ≠ 0 then (false, false) else (decide (x.op ≠ 10) && decide (x.op ≠ 14), jumpsF x.op)

end Go.Proofs.YtegogmbcjjjjjaaDoor
