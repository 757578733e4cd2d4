/-
  What the document's own InsRight returns of an instruction. Nothing that was in memory turns. Conditions: its name has at most 1000000 bytes.
  What the document's own Reads, Writes, Locked, Fence, Parts and Leads return of an instruction. Nothing that was in memory turns. Conditions: its name has at most 1000000 bytes.
-/
import Derived.Test.YtgkdejldpldkiaaDoorJd
import Derived.Test.YtgkdejldpldkiaaDoorJb
namespace Go.Proofs.YtgkdejldpldkiaaDoor
open Go.RowKit
set_option linter.unusedVariables false
set_option linter.unusedSimpArgs false

/-- What is wrong with an instruction. -/
def insF (x : Ins) : Int :=
  if x.op < 1 ∨ 14 < x.op then 4
  else if rowF x = false then 4
  else if jumpsF x.op = false ∧ x.dest.data.toList.isEmpty = false then 4
  else if x.op = 11 ∧ (x.cond < 1 ∨ 10 < x.cond) then 4
  else if x.op ≠ 11 ∧ x.cond ≠ 0 then 4
  else if jumpsF x.op = true ∧ rightF x.dest = false then 3
  else 0

theorem ret_int {a b : Int} (h : a = b) : Ending.returned (.int .i64 a) = .returned (.int .i64 b) := by rw [h]

set_option maxRecDepth 1000000 in
set_option maxHeartbeats 4000000 in
theorem refInsRight_any (x : Ins) (hd : x.dest.size ≤ 1000000) (w : World) :
    Calls Tryd.prog 74 #[x.val] w fun e w' => e = .returned (.int .i64 (insF x)) ∧ Later w w' := by
  have c1 := fun w' => refRow_any x w'
  have c2 := fun w' => refJumps_any x.op w'
  have c3 := fun w' => refRight_any x.dest hd w'
  unfold insF
  generalize rowF x = ro at *
  generalize jumpsF x.op = ju at *
  generalize rightF x.dest = ri at *
  obtain ⟨op, lock, cond, ⟨ak, ar, ay, an⟩, ⟨bk, br, bs, bn⟩, dest, lb⟩ := x
  unfold Ins.val Ins.cells at *
  dsimp only at *
  have LL := Later.alloc (Later.refl w) (.cells #[.int .i64 op, .bool lock, .int .i64 cond, .int .i64 ak, .int .i64 ar, .int .i64 ay, .int .i64 an, .int .i64 bk, .int .i64 br, .int .i64 bs, .int .i64 bn, .string dest, lb] 44)
  have HB := at_new w (.cells #[.int .i64 op, .bool lock, .int .i64 cond, .int .i64 ak, .int .i64 ar, .int .i64 ay, .int .i64 an, .int .i64 bk, .int .i64 br, .int .i64 bs, .int .i64 bn, .string dest, lb] 44)
  have he : dest.toList.isEmpty = dest.data.toList.isEmpty := by rw [ByteArray.toList_eq]
  generalize dest.data.toList.isEmpty = em at *
  obtain ⟨R, hR⟩ : ∃ R, R = (if op < 1 ∨ 14 < op then (4 : Int) else if ro = false then 4 else if ju = false ∧ em = false then 4 else if op = 11 ∧ (cond < 1 ∨ 10 < cond) then 4 else if op ≠ 11 ∧ cond ≠ 0 then 4 else if ju = true ∧ ri = false then 3 else 0) := ⟨_, rfl⟩
  rw [← hR]
  go_enter Tryd.func74, Tryd.ntmps74
  go_upto_region 1 with (fail)
  obtain ⟨b0, b1, b2, b3, b4, b5, b6, b7, b8, b9, b10, b11, b12⟩ := box13_facts HB
  generalize w.alloc (.cells #[.int .i64 op, .bool lock, .int .i64 cond, .int .i64 ak, .int .i64 ar, .int .i64 ay, .int .i64 an, .int .i64 bk, .int .i64 br, .int .i64 bs, .int .i64 bn, .string dest, lb] 44) = W at *
  by_cases h1 : op < 1 ∨ 14 < op
  · rw [if_pos h1] at hR
    subst hR
    clear c1 c2 c3
    go_wp2
    all_goals go_ret
    all_goals first | exact ⟨rfl, LL⟩ | (exfalso; omega)
  · rw [if_neg h1] at hR
    have h1a : ¬ op < 1 := fun h => h1 (Or.inl h)
    have h1b : ¬ 14 < op := fun h => h1 (Or.inr h)
    clear h1
    have HR : Hid (R = _) := hR
    clear hR
    by_cases h11 : op = 11
    · subst h11
      cases ro <;> cases ju <;> cases em <;> cases ri
      all_goals go_wp2_with (first
      | (go_at_call 102; apply Calls.mono; (focus (with_reducible (exact c1 _))); rintro e wn ⟨rfl, hl⟩; replace HB := heap_later hl HB; replace LL := Later.trans LL hl; obtain ⟨b0, b1, b2, b3, b4, b5, b6, b7, b8, b9, b10, b11, b12⟩ := box13_facts HB)
      | (go_at_call 76; apply Calls.mono; (focus (with_reducible (exact c2 _))); rintro e wn ⟨rfl, hr⟩; obtain rfl := hr.symm)
      | (go_at_call 33; apply Calls.mono; (focus (with_reducible (exact c3 _))); rintro e wn ⟨rfl, hl⟩; replace LL := Later.trans LL hl))
      all_goals go_ret
      all_goals refine ⟨ret_int ?_, LL⟩
      all_goals rw [HR.out]
      all_goals simp only [reduceIte, Bool.false_eq_true, Bool.true_eq_false, false_and, true_and, and_false, and_true, ne_eq, not_true_eq_false, not_false_eq_true]
      all_goals first | rfl | (repeat' split) <;> first | rfl | (exfalso; omega)
    · have h11' : (op == 11) = false := by simp; exact h11
      rcases Decidable.em (cond = 0) with rfl | hc
      · cases ro <;> cases ju <;> cases em <;> cases ri
        all_goals go_wp2_with (first
        | (go_at_call 102; apply Calls.mono; (focus (with_reducible (exact c1 _))); rintro e wn ⟨rfl, hl⟩; replace HB := heap_later hl HB; replace LL := Later.trans LL hl; obtain ⟨b0, b1, b2, b3, b4, b5, b6, b7, b8, b9, b10, b11, b12⟩ := box13_facts HB)
        | (go_at_call 76; apply Calls.mono; (focus (with_reducible (exact c2 _))); rintro e wn ⟨rfl, hr⟩; obtain rfl := hr.symm)
        | (go_at_call 33; apply Calls.mono; (focus (with_reducible (exact c3 _))); rintro e wn ⟨rfl, hl⟩; replace LL := Later.trans LL hl))
        all_goals go_ret
        all_goals refine ⟨ret_int ?_, LL⟩
        all_goals rw [HR.out]
        all_goals simp only [reduceIte, Bool.false_eq_true, Bool.true_eq_false, false_and, true_and, and_false, and_true, ne_eq, h11, not_true_eq_false, not_false_eq_true]
        all_goals first | rfl | (repeat' split) <;> first | rfl | (exfalso; omega)
      · have hc' : (cond != 0) = true := by simp; exact hc
        cases ro <;> cases ju <;> cases em <;> cases ri
        all_goals go_wp2_with (first
        | (go_at_call 102; apply Calls.mono; (focus (with_reducible (exact c1 _))); rintro e wn ⟨rfl, hl⟩; replace HB := heap_later hl HB; replace LL := Later.trans LL hl; obtain ⟨b0, b1, b2, b3, b4, b5, b6, b7, b8, b9, b10, b11, b12⟩ := box13_facts HB)
        | (go_at_call 76; apply Calls.mono; (focus (with_reducible (exact c2 _))); rintro e wn ⟨rfl, hr⟩; obtain rfl := hr.symm)
        | (go_at_call 33; apply Calls.mono; (focus (with_reducible (exact c3 _))); rintro e wn ⟨rfl, hl⟩; replace LL := Later.trans LL hl))
        all_goals go_ret
        all_goals refine ⟨ret_int ?_, LL⟩
        all_goals rw [HR.out]
        all_goals simp only [reduceIte, Bool.false_eq_true, Bool.true_eq_false, false_and, true_and, and_false, and_true, ne_eq, h11, hc, not_true_eq_false, not_false_eq_true]
        all_goals first | rfl | (repeat' split) <;> first | rfl | (exfalso; omega)

end Go.Proofs.YtgkdejldpldkiaaDoor

namespace Go.Proofs.YtgkdejldpldkiaaDoor
open Go.RowKit
set_option linter.unusedVariables false
set_option linter.unusedSimpArgs false

def lockedF (x : Ins) : Bool := decide (insF x = 0) && (decide (x.op = 8) || x.lock)
def fenceF (x : Ins) : Bool := (decide (insF x = 0) && decide (x.op = 12)) || lockedF x
def zeroOpd : Opd := ⟨0, 0, 0, 0⟩
def readsF (x : Ins) : Opd × Bool := if insF x ≠ 0 ∨ 9 < x.op then (zeroOpd, false) else if memF x.b = true then (x.b, true) else if memF x.a = true ∧ x.op ≠ 1 then (x.a, true) else (zeroOpd, false)
def writesF (x : Ins) : Opd × Bool := if insF x ≠ 0 ∨ 9 < x.op ∨ x.op = 7 ∨ memF x.a = false then (zeroOpd, false) else (x.a, true)
def partsF (x : Ins) : Int := if insF x ≠ 0 then 0 else if ((readsF x).2 && (writesF x).2 && !lockedF x) = true then 2 else 1
def leadsF (x : Ins) : Bool × Bool := if insF x ≠ 0 then (false, false) else (decide (x.op ≠ 10) && decide (x.op ≠ 14), jumpsF x.op)

end Go.Proofs.YtgkdejldpldkiaaDoor
