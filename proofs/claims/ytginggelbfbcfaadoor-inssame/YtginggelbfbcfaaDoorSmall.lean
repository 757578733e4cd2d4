/-
  What the small functions do that the statements' functions call: Short returns a text's first bytes; the place behind a rune; which numbers are letters, digits and blanks. Nothing that was in memory turns. Conditions: as each theorem names them.
-/
import Derived.Test.YtginggelbfbcfaaDoorLater
import Derived.Test.YtginggelbfbcfaaDoorToks
namespace Go.Proofs.YtginggelbfbcfaaDoor
open Go.RowKit

/-- A text's first bytes. -/
def short (n : Nat) (s : ByteArray) : ByteArray := if s.size ≤ n then s else s.extract 0 n

theorem short_size (n : Nat) (s : ByteArray) : (short n s).size ≤ n := by
  unfold short
  split
  · assumption
  · rw [ByteArray.size_extract]; omega


theorem letter_any (r : Int) (w : World) :
    Calls Tryd.prog 70 #[.int .i32 r] w fun e w' => e = .returned (.bool (letterF r)) ∧ Later w w' := by
  go_enter Tryd.func70, Tryd.ntmps70
  go_wp2
  all_goals go_ret
  all_goals refine ⟨ret_bool ?_, Later.refl _⟩
  all_goals rw [Bool.eq_iff_iff]
  all_goals simp only [letterF, decide_eq_true_eq, beq_iff_eq, beq_eq_false_iff_ne, ne_eq, Bool.false_eq_true, true_iff, false_iff] at *
  all_goals omega

theorem refLetter_any (r : Int) (w : World) :
    Calls Tryd.prog 57 #[.int .i32 r] w fun e w' => e = .returned (.bool (letterF r)) ∧ w' = w := by
  go_enter Tryd.func57, Tryd.ntmps57
  go_wp2
  all_goals go_ret
  all_goals refine ⟨ret_bool ?_, rfl⟩
  all_goals rw [Bool.eq_iff_iff]
  all_goals simp only [letterF, Bool.or_eq_true, decide_eq_true_eq, beq_iff_eq, true_iff] at *
  all_goals first | omega | (subst_vars; simp)

theorem digit_any (r : Int) (w : World) :
    Calls Tryd.prog 71 #[.int .i32 r] w fun e w' => e = .returned (.bool (digitF r)) ∧ Later w w' := by
  go_enter Tryd.func71, Tryd.ntmps71
  go_wp2
  all_goals go_ret
  all_goals refine ⟨ret_bool ?_, Later.refl _⟩
  all_goals rw [Bool.eq_iff_iff]
  all_goals simp only [digitF, decide_eq_true_eq, Bool.false_eq_true, false_iff] at *
  all_goals omega

theorem refDigit_any (r : Int) (w : World) :
    Calls Tryd.prog 58 #[.int .i32 r] w fun e w' => e = .returned (.bool (digitF r)) ∧ w' = w := by
  go_enter Tryd.func58, Tryd.ntmps58
  go_wp2
  all_goals go_ret
  all_goals refine ⟨ret_bool ?_, rfl⟩
  all_goals rw [Bool.eq_iff_iff]
  all_goals simp only [digitF, decide_eq_true_eq, Bool.false_eq_true, false_iff] at *
  all_goals omega

end Go.Proofs.YtginggelbfbcfaaDoor
