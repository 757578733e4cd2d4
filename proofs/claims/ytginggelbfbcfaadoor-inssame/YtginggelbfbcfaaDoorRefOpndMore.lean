/-
  What the document's own functions over an operand and over what an instruction does return: whether it is plain; whether it jumps, or reckons. Nothing that was in memory turns. Conditions: none.
-/
import Derived.Test.YtginggelbfbcfaaDoorRefOpnd
namespace Go.Proofs.YtginggelbfbcfaaDoor
open Go.RowKit
set_option linter.unusedVariables false
set_option linter.unusedSimpArgs false

theorem refPlain_any (o : Opd) (w : World) :
    Calls Tryd.prog 53 #[o.val] w fun e w' => e = .returned (.bool (plainF o)) ∧ Later w w' := by
  obtain ⟨k, r, s, n⟩ := o
  unfold Opd.val plainF
  go_enter Tryd.func53, Tryd.ntmps53
  go_wp2
  all_goals go_ret
  all_goals refine ⟨ret_bool ?_, Later.alloc (Later.refl _) _⟩
  all_goals rw [Bool.eq_iff_iff]
  all_goals simp only [Bool.or_eq_true, Bool.and_eq_true, decide_eq_true_eq, beq_iff_eq, beq_eq_false_iff_ne, ne_eq, true_iff, false_iff, Bool.false_eq_true] at *
  all_goals omega

theorem refJumps_any (op : Int) (w : World) :
    Calls Tryd.prog 41 #[.int .i64 op] w fun e w' => e = .returned (.bool (jumpsF op)) ∧ w' = w := by
  unfold jumpsF
  go_enter Tryd.func41, Tryd.ntmps41
  go_wp2
  all_goals go_ret
  all_goals refine ⟨ret_bool ?_, rfl⟩
  all_goals rw [Bool.eq_iff_iff]
  all_goals simp only [Bool.or_eq_true, Bool.and_eq_true, decide_eq_true_eq, beq_iff_eq, beq_eq_false_iff_ne, ne_eq, true_iff, false_iff, Bool.false_eq_true] at *
  all_goals omega

theorem refReckons_any (op : Int) (w : World) :
    Calls Tryd.prog 54 #[.int .i64 op] w fun e w' => e = .returned (.bool (reckonsF op)) ∧ w' = w := by
  unfold reckonsF
  go_enter Tryd.func54, Tryd.ntmps54
  go_wp2
  all_goals go_ret
  all_goals refine ⟨ret_bool ?_, rfl⟩
  all_goals rw [Bool.eq_iff_iff]
  all_goals simp only [Bool.or_eq_true, Bool.and_eq_true, decide_eq_true_eq, beq_iff_eq, beq_eq_false_iff_ne, ne_eq, true_iff, false_iff, Bool.false_eq_true] at *
  all_goals omega

end Go.Proofs.YtginggelbfbcfaaDoor
