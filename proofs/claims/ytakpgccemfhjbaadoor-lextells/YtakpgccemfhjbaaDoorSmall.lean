/-
  What the small functions do that the statements' functions call: Short returns a text's first bytes; the place behind a rune; which numbers are letters, digits and blanks. Nothing that was in memory turns. Conditions: as each theorem names them.
-/
import Derived.Test.YtakpgccemfhjbaaDoorLater
import Derived.Test.YtakpgccemfhjbaaDoorToks
namespace Go.Proofs.YtakpgccemfhjbaaDoor
open Go.RowKit

/-- A text's first bytes. -/
def short (n : Nat) (s : ByteArray) : ByteArray := if s.size ≤ n then s else s.extract 0 n

theorem short_size (n : Nat) (s : ByteArray) : (short n s).size ≤ n := by
  unfold short
  split
  · assumption
  · rw [ByteArray.size_extract]; omega

theorem short600_any (s : ByteArray) (hs : s.size ≤ 140737488355328) (w : World) :
    Calls Tryd.prog 8 #[.string s, .int .i64 600] w fun e w' => e = .returned (.string (short 600 s)) ∧ Later w w' := by
  by_cases h : s.size ≤ 600
  · rw [show short 600 s = s by simp [short, h]]
    have h' : (s.size : Int) ≤ 600 := by omega
    go_enter Tryd.func8, Tryd.ntmps8
    go_wp2
    go_ret
    exact ⟨rfl, Later.refl _⟩
  · rw [show short 600 s = s.extract 0 600 by simp [short, h]]
    have h' : ¬ (s.size : Int) ≤ 600 := by omega
    go_enter Tryd.func8, Tryd.ntmps8
    go_wp2
    go_ret
    exact ⟨rfl, Later.refl _⟩

theorem short300_any (s : ByteArray) (hs : s.size ≤ 140737488355328) (w : World) :
    Calls Tryd.prog 8 #[.string s, .int .i64 300] w fun e w' => e = .returned (.string (short 300 s)) ∧ Later w w' := by
  by_cases h : s.size ≤ 300
  · rw [show short 300 s = s by simp [short, h]]
    have h' : (s.size : Int) ≤ 300 := by omega
    go_enter Tryd.func8, Tryd.ntmps8
    go_wp2
    go_ret
    exact ⟨rfl, Later.refl _⟩
  · rw [show short 300 s = s.extract 0 300 by simp [short, h]]
    have h' : ¬ (s.size : Int) ≤ 300 := by omega
    go_enter Tryd.func8, Tryd.ntmps8
    go_wp2
    go_ret
    exact ⟨rfl, Later.refl _⟩

theorem short400_any (s : ByteArray) (hs : s.size ≤ 140737488355328) (w : World) :
    Calls Tryd.prog 8 #[.string s, .int .i64 400] w fun e w' => e = .returned (.string (short 400 s)) ∧ Later w w' := by
  by_cases h : s.size ≤ 400
  · rw [show short 400 s = s by simp [short, h]]
    have h' : (s.size : Int) ≤ 400 := by omega
    go_enter Tryd.func8, Tryd.ntmps8
    go_wp2
    go_ret
    exact ⟨rfl, Later.refl _⟩
  · rw [show short 400 s = s.extract 0 400 by simp [short, h]]
    have h' : ¬ (s.size : Int) ≤ 400 := by omega
    go_enter Tryd.func8, Tryd.ntmps8
    go_wp2
    go_ret
    exact ⟨rfl, Later.refl _⟩

theorem start_any (w : World) :
    Calls Tryd.prog 42 #[] w fun e w' => e = .returned (.agg #[.int .i64 (1 : Nat), .int .i64 (1 : Nat)]) ∧ Later w w' := by
  go_enter Tryd.func42, Tryd.ntmps42
  go_wp2
  go_returns
  exact ⟨rfl, by unfold Later; go_grown⟩

theorem behind_any (l c r : Nat) (hl : l ≤ 10000000) (hc : c ≤ 10000000) (w : World) :
    Calls Tryd.prog 43 #[.agg #[.int .i64 l, .int .i64 c], .int .i32 r] w fun e w' => e = .returned (.agg #[.int .i64 (nl l r : Nat), .int .i64 (nc c r : Nat)]) ∧ Later w w' := by
  by_cases h : r = 10
  · subst h
    go_enter Tryd.func43, Tryd.ntmps43
    go_wp2
    go_returns
    exact ⟨rfl, by unfold Later; go_grown⟩
  · have h1 : ((r : Int) == 10) = false := by simp; omega
    have e1 : nl l r = l := by simp [nl, h]
    have e2 : nc c r = c + 1 := by simp [nc, h]
    rw [e1, e2]
    go_enter Tryd.func43, Tryd.ntmps43
    go_wp2
    go_returns
    exact ⟨rfl, by unfold Later; go_grown⟩


theorem letter_any (r : Int) (w : World) :
    Calls Tryd.prog 36 #[.int .i32 r] w fun e w' => e = .returned (.bool (letterF r)) ∧ Later w w' := by
  go_enter Tryd.func36, Tryd.ntmps36
  go_wp2
  all_goals go_ret
  all_goals refine ⟨ret_bool ?_, Later.refl _⟩
  all_goals rw [Bool.eq_iff_iff]
  all_goals simp only [letterF, decide_eq_true_eq, beq_iff_eq, beq_eq_false_iff_ne, ne_eq, Bool.false_eq_true, true_iff, false_iff] at *
  all_goals omega

theorem refLetter_any (r : Int) (w : World) :
    Calls Tryd.prog 23 #[.int .i32 r] w fun e w' => e = .returned (.bool (letterF r)) ∧ w' = w := by
  go_enter Tryd.func23, Tryd.ntmps23
  go_wp2
  all_goals go_ret
  all_goals refine ⟨ret_bool ?_, rfl⟩
  all_goals rw [Bool.eq_iff_iff]
  all_goals simp only [letterF, Bool.or_eq_true, decide_eq_true_eq, beq_iff_eq, true_iff] at *
  all_goals first | omega | (subst_vars; simp)

theorem digit_any (r : Int) (w : World) :
    Calls Tryd.prog 38 #[.int .i32 r] w fun e w' => e = .returned (.bool (digitF r)) ∧ Later w w' := by
  go_enter Tryd.func38, Tryd.ntmps38
  go_wp2
  all_goals go_ret
  all_goals refine ⟨ret_bool ?_, Later.refl _⟩
  all_goals rw [Bool.eq_iff_iff]
  all_goals simp only [digitF, decide_eq_true_eq, Bool.false_eq_true, false_iff] at *
  all_goals omega

theorem blank_any (r : Int) (w : World) :
    Calls Tryd.prog 34 #[.int .i32 r] w fun e w' => e = .returned (.bool (blankF r)) ∧ Later w w' := by
  go_enter Tryd.func34, Tryd.ntmps34
  go_wp2
  all_goals go_ret
  all_goals refine ⟨ret_bool ?_, Later.refl _⟩
  all_goals rw [Bool.eq_iff_iff]
  all_goals simp only [blankF, Bool.or_eq_true, decide_eq_true_eq, beq_iff_eq, true_iff] at *
  all_goals omega

theorem refDigit_any (r : Int) (w : World) :
    Calls Tryd.prog 24 #[.int .i32 r] w fun e w' => e = .returned (.bool (digitF r)) ∧ w' = w := by
  go_enter Tryd.func24, Tryd.ntmps24
  go_wp2
  all_goals go_ret
  all_goals refine ⟨ret_bool ?_, rfl⟩
  all_goals rw [Bool.eq_iff_iff]
  all_goals simp only [digitF, decide_eq_true_eq, Bool.false_eq_true, false_iff] at *
  all_goals omega

theorem refBlank_any (r : Int) (w : World) :
    Calls Tryd.prog 22 #[.int .i32 r] w fun e w' => e = .returned (.bool (blankF r)) ∧ w' = w := by
  go_enter Tryd.func22, Tryd.ntmps22
  go_wp2
  all_goals go_ret
  all_goals refine ⟨ret_bool ?_, rfl⟩
  all_goals rw [Bool.eq_iff_iff]
  all_goals simp only [blankF, Bool.or_eq_true, decide_eq_true_eq, beq_iff_eq, true_iff] at *
  all_goals omega

end Go.Proofs.YtakpgccemfhjbaaDoor
