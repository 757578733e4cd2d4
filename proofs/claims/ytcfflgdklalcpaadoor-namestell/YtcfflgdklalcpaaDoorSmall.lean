/-
  What the small functions do that the statements' functions call: Short returns a text's first bytes; Pick a number from 0 to m less 1; which numbers are letters and digits, and may stand in a name. Nothing that was in memory turns. Conditions: as each theorem names them.
-/
import Derived.Test.YtcfflgdklalcpaaDoorRows
import Derived.Test.YtcfflgdklalcpaaDoorWords
import Derived.WalkKit
import Derived.ProofKit
import Derived.OpenShut
import Derived.Handy
import Derived.WalkSpells
import Derived.BigQuiet
import Derived.WalkSmall
set_option linter.unusedVariables false
namespace Go.Proofs.YtcfflgdklalcpaaDoor
open Go.RowKit

/-- Of what was there nothing has turned: new blocks, and draws, at the most. -/
def Later (w w' : World) : Prop := Below w.heap.size w w'

theorem Later.refl (w : World) : Later w w := Below.refl _ _
theorem Later.trans {a b c : World} (h : Later a b) (k : Later b c) : Later a c := Below.trans h (Below.mono k h.size)
theorem Later.alloc {a w : World} (h : Later a w) (o : Obj) : Later a (w.alloc o) := Below.alloc h h.size o
theorem Later.drew {a w : World} (h : Later a w) : Later a w.drew := Below.drew h
theorem Later.drewN {a w : World} (h : Later a w) (n : Nat) : Later a (w.drewN n) := ⟨h.os, h.tape, h.output, h.size, h.block⟩

/-- A text's first bytes. -/
def short (n : Nat) (s : ByteArray) : ByteArray := if s.size ≤ n then s else s.extract 0 n

theorem short_size (n : Nat) (s : ByteArray) : (short n s).size ≤ n := by
  unfold short
  split
  · assumption
  · rw [ByteArray.size_extract]; omega

theorem short80_any (s : ByteArray) (hs : s.size ≤ 140737488355328) (w : World) :
    Calls Tryd.prog 8 #[.string s, .int .i64 80] w fun e w' => e = .returned (.string (short 80 s)) ∧ Later w w' := by
  by_cases h : s.size ≤ 80
  · rw [show short 80 s = s by simp [short, h]]
    have h' : (s.size : Int) ≤ 80 := by omega
    go_enter Tryd.func8, Tryd.ntmps8
    go_wp2
    go_ret
    exact ⟨rfl, Later.refl _⟩
  · rw [show short 80 s = s.extract 0 80 by simp [short, h]]
    have h' : ¬ (s.size : Int) ≤ 80 := by omega
    go_enter Tryd.func8, Tryd.ntmps8
    go_wp2
    go_ret
    exact ⟨rfl, Later.refl _⟩

/-- A number from 0 to m less 1, made of any number. -/
def pick (n m : Int) : Int := n % m

theorem pick_any (n m : Int) (hn : -9223372036854775808 ≤ n ∧ n ≤ 9223372036854775807) (hm : 0 < m ∧ m ≤ 100) (w : World) :
    Calls Tryd.prog 22 #[.int .i64 n, .int .i64 m] w fun e w' => e = .returned (.int .i64 (pick n m)) ∧ Later w w' := by
  have h0 : (m == 0) = false := by simp; omega
  have h1 : (m == -1) = false := by simp; omega
  have e1 : (n.tmod m = n % m ∧ 0 ≤ n % m) ∨ (n.tmod m = n % m - m) := by
    rw [Int.tmod_eq_emod]
    have a : (m.natAbs : Int) = m := by omega
    have := Int.emod_nonneg n (show m ≠ 0 by omega)
    split
    · left; omega
    · right; omega
  have b1 := Int.emod_nonneg n (show m ≠ 0 by omega)
  have b2 := Int.emod_lt_of_pos n hm.1
  unfold pick
  by_cases h : n.tmod m < 0
  · have e2 : n % m = n.tmod m + m := by omega
    have e3 : n.tmod m + m < 100 ∧ 0 ≤ n.tmod m + m := by omega
    rw [e2]
    clear e1 e2 b1 b2
    go_enter Tryd.func22, Tryd.ntmps22
    go_wp2
    go_ret
    exact ⟨rfl, Later.refl _⟩
  · have e2 : n % m = n.tmod m := by omega
    rw [e2]
    clear e1 e2 b1 b2
    go_enter Tryd.func22, Tryd.ntmps22
    go_wp2
    go_ret
    exact ⟨rfl, Later.refl _⟩

/-- Which numbers may stand in a word. -/
def letterF (r : Int) : Bool := decide ((97 ≤ r ∧ r ≤ 122) ∨ (65 ≤ r ∧ r ≤ 90) ∨ r = 95 ∨ (161 ≤ r ∧ r ≤ 1114111))
theorem ret_bool {a b : Bool} (h : a = b) : Ending.returned (.bool a) = .returned (.bool b) := by rw [h]
def digitF (r : Int) : Bool := decide (48 ≤ r ∧ r ≤ 57)

theorem letter_any (r : Int) (w : World) :
    Calls Tryd.prog 35 #[.int .i32 r] w fun e w' => e = .returned (.bool (letterF r)) ∧ Later w w' := by
  go_enter Tryd.func35, Tryd.ntmps35
  go_wp2
  all_goals go_ret
  all_goals refine ⟨ret_bool ?_, Later.refl _⟩
  all_goals rw [Bool.eq_iff_iff]
  all_goals simp only [letterF, decide_eq_true_eq, beq_iff_eq, beq_eq_false_iff_ne, ne_eq, Bool.false_eq_true, true_iff, false_iff] at *
  all_goals omega

theorem refLetter_any (r : Int) (w : World) :
    Calls Tryd.prog 30 #[.int .i32 r] w fun e w' => e = .returned (.bool (letterF r)) ∧ Later w w' := by
  go_enter Tryd.func30, Tryd.ntmps30
  go_wp2
  all_goals go_ret
  all_goals refine ⟨ret_bool ?_, Later.refl _⟩
  all_goals rw [Bool.eq_iff_iff]
  all_goals simp only [letterF, Bool.or_eq_true, decide_eq_true_eq, beq_iff_eq, true_iff] at *
  all_goals first | omega | (subst_vars; simp)

theorem digit_any (r : Int) (w : World) :
    Calls Tryd.prog 36 #[.int .i32 r] w fun e w' => e = .returned (.bool (digitF r)) ∧ Later w w' := by
  go_enter Tryd.func36, Tryd.ntmps36
  go_wp2
  all_goals go_ret
  all_goals refine ⟨ret_bool ?_, Later.refl _⟩
  all_goals rw [Bool.eq_iff_iff]
  all_goals simp only [digitF, decide_eq_true_eq, Bool.false_eq_true, false_iff] at *
  all_goals omega

theorem refDigit_any (r : Int) (w : World) :
    Calls Tryd.prog 31 #[.int .i32 r] w fun e w' => e = .returned (.bool (digitF r)) ∧ Later w w' := by
  go_enter Tryd.func31, Tryd.ntmps31
  go_wp2
  all_goals go_ret
  all_goals refine ⟨ret_bool ?_, Later.refl _⟩
  all_goals rw [Bool.eq_iff_iff]
  all_goals simp only [digitF, decide_eq_true_eq, Bool.false_eq_true, false_iff] at *
  all_goals omega

/-- Which numbers may stand in a name. -/
def standF (r : Int) (first : Bool) : Bool := letterF r || (!first && digitF r)

theorem may_any (r : Int) (first : Bool) (w : World) :
    Calls Tryd.prog 33 #[.int .i32 r, .bool first] w fun e w' => e = .returned (.bool (standF r first)) ∧ Later w w' := by
  have c35 := fun w' => letter_any r w'
  have c36 := fun w' => digit_any r w'
  unfold standF
  generalize letterF r = a at *
  generalize digitF r = b at *
  cases a <;> cases first
  all_goals go_enter Tryd.func33, Tryd.ntmps33
  all_goals go_wp2_with (first
    | (go_at_call 35; refine (c35 _).mono ?_; rintro e w1 ⟨rfl, hl1⟩)
    | (go_at_call 36; refine (c36 _).mono ?_; rintro e w2 ⟨rfl, hl2⟩; have L2 := Later.trans hl1 hl2))
  all_goals go_ret
  all_goals exact ⟨rfl, by assumption⟩

end Go.Proofs.YtcfflgdklalcpaaDoor
