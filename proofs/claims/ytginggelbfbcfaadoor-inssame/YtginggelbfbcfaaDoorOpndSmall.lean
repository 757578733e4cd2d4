/-
  What package opnd's functions over an operand and over its part return: Right, Of, Num, Memory, Reg, Back. Nothing that was in memory turns. Conditions: the table of the registers' words stands as the program's text lays it; as each theorem names them.
-/
import Derived.Test.YtginggelbfbcfaaDoorNamesReg
import Derived.Test.YtginggelbfbcfaaDoorRefOpnd
import Derived.Test.YtginggelbfbcfaaDoorBoxes
import Derived.Test.YtginggelbfbcfaaDoorOpndAsserts
import Derived.RegionTactic
import Derived.Deep.CutRange
namespace Go.Proofs.YtginggelbfbcfaaDoor
open Go.RowKit
set_option linter.unusedVariables false
set_option linter.unusedSimpArgs false

/-- The four parts. -/
def regP (r : Int) : Value := .iface 82 (.agg #[.int .i64 r])
def numP (n : Int) : Value := .iface 84 (.agg #[.int .i64 n])
def atP (s n : Int) : Value := .iface 60 (.agg #[.int .i64 s, .int .i64 n])
def byP (s r : Int) : Value := .iface 63 (.agg #[.int .i64 s, .int .i64 r])

/-- The part of an operand's numbers. -/
def partV (o : Opd) : Value := if o.kind = 1 then regP o.reg else if o.kind = 2 then numP o.n else if o.kind = 3 then atP o.sym o.n else byP o.sym o.reg

def isRegF (r : Int) : Bool := decide (0 ≤ r ∧ r ≤ 7)

theorem isReg_any (r : Int) (w : World) (hT : Tab w 2 regsT) :
    Calls Tryd.prog 72 #[.int .i64 r] w fun e w' => e = .returned (.bool (isRegF r)) ∧ w' = w := by
  have c := regText_any r w hT
  have e0 := regText_no r
  generalize textAt regsT r = t at *
  have hb : (!t.toList.isEmpty) = isRegF r := by
    rw [Bool.eq_iff_iff]
    simp only [isRegF, decide_eq_true_eq, ← e0, Bool.not_eq_true']
  clear e0
  go_enter Tryd.func72, Tryd.ntmps72
  go_wp2_with (go_at_call 73; refine c.mono ?_; rintro e w1 ⟨rfl, h1⟩; obtain rfl := h1.symm)
  go_ret
  exact ⟨rfl, rfl⟩

set_option maxRecDepth 1000000 in
set_option maxHeartbeats 1000000 in
theorem right_any (o : Opd) (w : World) (hT : Tab w 2 regsT) :
    Calls Tryd.prog 65 #[o.val] w fun e w' => e = .returned (.bool (opdRightF o)) ∧ Later w w' := by
  obtain ⟨k, r, s, n⟩ := o
  have c := fun wr hT => isReg_any r wr hT
  have hr : isRegF r = true ↔ 0 ≤ r ∧ r ≤ 7 := by simp [isRegF]
  unfold Opd.val opdRightF
  generalize isRegF r = b at *
  have L := Later.alloc (Later.refl w) (.cells #[.int .i64 k, .int .i64 r, .int .i64 s, .int .i64 n] 23)
  have HT : Hid (Tab (w.alloc (.cells #[.int .i64 k, .int .i64 r, .int .i64 s, .int .i64 n] 23)) 2 regsT) := hT.later L
  clear hT
  have HR : Hid (b = true ↔ 0 ≤ r ∧ r ≤ 7) := hr
  clear hr
  cases b
  all_goals go_enter Tryd.func65, Tryd.ntmps65
  all_goals go_wp2_with (go_at_call 72; refine (c _ HT.out).mono ?_; rintro e w1 ⟨rfl, h1⟩; obtain rfl := h1.symm)
  all_goals go_ret
  all_goals have hr := HR.out
  all_goals refine ⟨ret_bool ?_, Later.alloc (Later.refl _) _⟩
  all_goals rw [Bool.eq_iff_iff]
  all_goals simp only [Bool.or_eq_true, Bool.and_eq_true, decide_eq_true_eq, beq_iff_eq, beq_eq_false_iff_ne, ne_eq, true_iff, false_iff, Bool.false_eq_true] at *
  all_goals omega

set_option maxRecDepth 1000000 in
set_option maxHeartbeats 1000000 in
theorem of_yes (o : Opd) (ho : opdRightF o = true) (w : World) (hT : Tab w 2 regsT) :
    Calls Tryd.prog 51 #[o.val] w fun e w' => e = .returned (.tuple #[partV o, .bool true]) ∧ Later w w' := by
  obtain ⟨k, r, s, n⟩ := o
  have L := Later.alloc (Later.refl w) (.cells #[.int .i64 k, .int .i64 r, .int .i64 s, .int .i64 n] 23)
  have c := right_any ⟨k, r, s, n⟩ _ (hT.later L)
  rw [ho] at c
  have hk : k = 1 ∨ k = 2 ∨ k = 3 ∨ k = 4 := by simp [opdRightF] at ho; omega
  clear hT ho
  unfold Opd.val at *
  unfold partV regP numP atP byP
  have hb := at_new w (.cells #[.int .i64 k, .int .i64 r, .int .i64 s, .int .i64 n] 23)
  rcases hk with rfl | rfl | rfl | rfl
  all_goals go_enter Tryd.func51, Tryd.ntmps51
  all_goals go_wp2_with (go_at_call 65; refine c.mono ?_; rintro e w1 ⟨rfl, hl1⟩; obtain ⟨c0, c1, c2, c3, -, -, -, -⟩ := box4_facts (heap_later hl1 hb))
  all_goals go_ret2
  all_goals exact ⟨rfl, L.trans hl1⟩

set_option maxRecDepth 1000000 in
set_option maxHeartbeats 1000000 in
theorem of_no (o : Opd) (ho : opdRightF o = false) (w : World) (hT : Tab w 2 regsT) :
    Calls Tryd.prog 51 #[o.val] w fun e w' => e = .returned (.tuple #[.nilIface, .bool false]) ∧ Later w w' := by
  obtain ⟨k, r, s, n⟩ := o
  have L := Later.alloc (Later.refl w) (.cells #[.int .i64 k, .int .i64 r, .int .i64 s, .int .i64 n] 23)
  have c := right_any ⟨k, r, s, n⟩ _ (hT.later L)
  rw [ho] at c
  clear hT ho
  unfold Opd.val at *
  go_enter Tryd.func51, Tryd.ntmps51
  go_wp2_with (go_at_call 65; refine c.mono ?_; rintro e w1 ⟨rfl, hl1⟩)
  go_ret2
  exact ⟨rfl, L.trans hl1⟩

theorem kinds_of_right {o : Opd} (ho : opdRightF o = true) : o.kind = 1 ∨ o.kind = 2 ∨ o.kind = 3 ∨ o.kind = 4 := by
  simp [opdRightF] at ho; omega

/-- The operand of a kind that has the numbers of that kind's part, the others 0. -/
def spreadF (o : Opd) : Opd := if o.kind = 1 then ⟨1, o.reg, 0, 0⟩ else if o.kind = 2 then ⟨2, 0, 0, o.n⟩ else if o.kind = 3 then ⟨3, 0, o.sym, o.n⟩ else ⟨4, o.reg, o.sym, 0⟩

theorem spread_right {o : Opd} (h : opdRightF o = true) : spreadF o = o := by
  obtain ⟨k, r, s, n⟩ := o
  simp [opdRightF] at h
  rcases h with ⟨rfl, -, -, rfl, rfl⟩ | ⟨rfl, rfl, rfl⟩ | ⟨rfl, -, -, rfl⟩ | ⟨rfl, -, -, -, rfl⟩
  all_goals simp [spreadF]

/-- What Back tells of the part of an operand's numbers. -/
def backF (o : Opd) : Opd := if opdRightF (spreadF o) = true then spreadF o else ⟨0, 0, 0, 0⟩

end Go.Proofs.YtginggelbfbcfaaDoor
