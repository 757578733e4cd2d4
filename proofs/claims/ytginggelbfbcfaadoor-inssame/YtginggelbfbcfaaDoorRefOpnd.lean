/-
  What the document's own functions over an operand return: whether it may be, whether it is memory, or plain. Nothing that was in memory turns. Conditions: none.
-/
import Derived.Test.YtginggelbfbcfaaDoorLater
namespace Go.Proofs.YtginggelbfbcfaaDoor
open Go.RowKit
set_option linter.unusedVariables false
set_option linter.unusedSimpArgs false

/-- An operand's four numbers. -/
structure Opd where
  kind : Int
  reg : Int
  sym : Int
  n : Int

/-- An operand, as a call takes it. -/
def Opd.val (o : Opd) : Value := .agg #[.int .i64 o.kind, .int .i64 o.reg, .int .i64 o.sym, .int .i64 o.n]

/-- Whether it may be. -/
def opdRightF (o : Opd) : Bool := decide ((o.kind = 1 ∧ 0 ≤ o.reg ∧ o.reg ≤ 7 ∧ o.sym = 0 ∧ o.n = 0) ∨ (o.kind = 2 ∧ o.reg = 0 ∧ o.sym = 0) ∨ (o.kind = 3 ∧ 0 ≤ o.sym ∧ 0 ≤ o.n ∧ o.reg = 0) ∨ (o.kind = 4 ∧ 0 ≤ o.sym ∧ 0 ≤ o.reg ∧ o.reg ≤ 7 ∧ o.n = 0))
def memF (o : Opd) : Bool := decide (o.kind = 3 ∨ o.kind = 4)
def plainF (o : Opd) : Bool := decide (o.kind = 1 ∨ o.kind = 2)
def jumpsF (op : Int) : Bool := decide (op = 10 ∨ op = 11)
def reckonsF (op : Int) : Bool := decide (2 ≤ op ∧ op ≤ 6)

set_option maxRecDepth 1000000 in
set_option maxHeartbeats 1000000 in
theorem refOpdRight_any (o : Opd) (w : World) :
    Calls Tryd.prog 52 #[o.val] w fun e w' => e = .returned (.bool (opdRightF o)) ∧ Later w w' := by
  obtain ⟨k, r, s, n⟩ := o
  unfold Opd.val opdRightF
  go_enter Tryd.func52, Tryd.ntmps52
  go_wp2
  all_goals go_ret
  all_goals refine ⟨ret_bool ?_, Later.alloc (Later.refl _) _⟩
  all_goals rw [Bool.eq_iff_iff]
  all_goals simp only [Bool.or_eq_true, Bool.and_eq_true, decide_eq_true_eq, beq_iff_eq, beq_eq_false_iff_ne, ne_eq, true_iff, false_iff, Bool.false_eq_true] at *
  all_goals omega

theorem refMemory_any (o : Opd) (w : World) :
    Calls Tryd.prog 40 #[o.val] w fun e w' => e = .returned (.bool (memF o)) ∧ Later w w' := by
  obtain ⟨k, r, s, n⟩ := o
  unfold Opd.val memF
  go_enter Tryd.func40, Tryd.ntmps40
  go_wp2
  all_goals go_ret
  all_goals refine ⟨ret_bool ?_, Later.alloc (Later.refl _) _⟩
  all_goals rw [Bool.eq_iff_iff]
  all_goals simp only [Bool.or_eq_true, Bool.and_eq_true, decide_eq_true_eq, beq_iff_eq, beq_eq_false_iff_ne, ne_eq, true_iff, false_iff, Bool.false_eq_true] at *
  all_goals omega

end Go.Proofs.YtginggelbfbcfaaDoor
