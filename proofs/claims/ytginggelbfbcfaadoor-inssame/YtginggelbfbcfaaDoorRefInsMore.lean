/-
  What the document's own Reads, Writes, Locked, Fence, Parts and Leads return of an instruction. Nothing that was in memory turns. Conditions: its name has at most 1000000 bytes.
-/
import Derived.Test.YtginggelbfbcfaaDoorRefInsRight
namespace Go.Proofs.YtginggelbfbcfaaDoor
open Go.RowKit
set_option linter.unusedVariables false
set_option linter.unusedSimpArgs false

def lockedF (x : Ins) : Bool := decide (insF x = 0) && (decide (x.op = 8) || x.lock)
def fenceF (x : Ins) : Bool := (decide (insF x = 0) && decide (x.op = 12)) || lockedF x
def zeroOpd : Opd := ⟨0, 0, 0, 0⟩
def readsF (x : Ins) : Opd × Bool := if insF x ≠ 0 ∨ 9 < x.op then (zeroOpd, false) else if memF x.b = true then (x.b, true) else if memF x.a = true ∧ x.op ≠ 1 then (x.a, true) else (zeroOpd, false)
def writesF (x : Ins) : Opd × Bool := if insF x ≠ 0 ∨ 9 < x.op ∨ x.op = 7 ∨ memF x.a = false then (zeroOpd, false) else (x.a, true)
def partsF (x : Ins) : Int := if insF x ≠ 0 then 0 else if ((readsF x).2 && (writesF x).2 && !lockedF x) = true then 2 else 1
def leadsF (x : Ins) : Bool × Bool := if insF x ≠ 0 then (false, false) else (decide (x.op ≠ 10) && decide (x.op ≠ 14), jumpsF x.op)

set_option maxRecDepth 1000000 in
set_option maxHeartbeats 4000000 in
theorem refLocked_any (x : Ins) (hd : x.dest.size ≤ 1000000) (w : World) :
    Calls Tryd.prog 27 #[x.val] w fun e w' => e = .returned (.bool (lockedF x)) ∧ Later w w' := by
  have cI := fun w' => refInsRight_any x hd w'
  obtain ⟨op, lock, cond, ⟨ak, ar, ay, an⟩, ⟨bk, br, bs, bn⟩, dest, lb⟩ := x
  clear hd
  unfold lockedF
  generalize insF ⟨op, lock, cond, ⟨ak, ar, ay, an⟩, ⟨bk, br, bs, bn⟩, dest, lb⟩ = R at *
  unfold Ins.val Ins.cells at *
  dsimp only at *
  have LL := Later.alloc (Later.refl w) (.cells #[.int .i64 op, .bool lock, .int .i64 cond, .int .i64 ak, .int .i64 ar, .int .i64 ay, .int .i64 an, .int .i64 bk, .int .i64 br, .int .i64 bs, .int .i64 bn, .string dest, lb] 26)
  have HB := at_new w (.cells #[.int .i64 op, .bool lock, .int .i64 cond, .int .i64 ak, .int .i64 ar, .int .i64 ay, .int .i64 an, .int .i64 bk, .int .i64 br, .int .i64 bs, .int .i64 bn, .string dest, lb] 26)
  go_enter Tryd.func27, Tryd.ntmps27
  go_upto_region 1 with (fail)
  obtain ⟨b0, b1, b2, b3, b4, b5, b6, b7, b8, b9, b10, b11, b12⟩ := box13_facts HB
  generalize w.alloc (.cells #[.int .i64 op, .bool lock, .int .i64 cond, .int .i64 ak, .int .i64 ar, .int .i64 ay, .int .i64 an, .int .i64 bk, .int .i64 br, .int .i64 bs, .int .i64 bn, .string dest, lb] 26) = W at *
  rcases Decidable.em (R = 0) with rfl | hR
  · rcases Decidable.em (op = 8) with rfl | h8
    · go_wp2_with (go_at_call 26; apply Calls.mono; (focus (with_reducible (exact cI _))); rintro e wn ⟨rfl, hl⟩; replace HB := heap_later hl HB; replace LL := Later.trans LL hl; obtain ⟨b0, b1, b2, b3, b4, b5, b6, b7, b8, b9, b10, b11, b12⟩ := box13_facts HB)
      go_ret
      exact ⟨ret_bool (by simp), LL⟩
    · have h8' : (op == 8) = false := by simp; exact h8
      go_wp2_with (go_at_call 26; apply Calls.mono; (focus (with_reducible (exact cI _))); rintro e wn ⟨rfl, hl⟩; replace HB := heap_later hl HB; replace LL := Later.trans LL hl; obtain ⟨b0, b1, b2, b3, b4, b5, b6, b7, b8, b9, b10, b11, b12⟩ := box13_facts HB)
      go_ret
      exact ⟨ret_bool (by simp [h8]), LL⟩
  · have hR' : (R == 0) = false := by simp; exact hR
    go_wp2_with (go_at_call 26; apply Calls.mono; (focus (with_reducible (exact cI _))); rintro e wn ⟨rfl, hl⟩; replace HB := heap_later hl HB; replace LL := Later.trans LL hl; obtain ⟨b0, b1, b2, b3, b4, b5, b6, b7, b8, b9, b10, b11, b12⟩ := box13_facts HB)
    go_ret
    exact ⟨ret_bool (by simp [hR]), LL⟩

set_option maxRecDepth 1000000 in
set_option maxHeartbeats 4000000 in
theorem refFence_any (x : Ins) (hd : x.dest.size ≤ 1000000) (w : World) :
    Calls Tryd.prog 28 #[x.val] w fun e w' => e = .returned (.bool (fenceF x)) ∧ Later w w' := by
  have cI := fun w' => refInsRight_any x hd w'
  have cL := fun w' => refLocked_any x hd w'
  obtain ⟨op, lock, cond, ⟨ak, ar, ay, an⟩, ⟨bk, br, bs, bn⟩, dest, lb⟩ := x
  clear hd
  unfold fenceF
  generalize lockedF ⟨op, lock, cond, ⟨ak, ar, ay, an⟩, ⟨bk, br, bs, bn⟩, dest, lb⟩ = lk at *
  generalize insF ⟨op, lock, cond, ⟨ak, ar, ay, an⟩, ⟨bk, br, bs, bn⟩, dest, lb⟩ = R at *
  unfold Ins.val Ins.cells at *
  dsimp only at *
  have LL := Later.alloc (Later.refl w) (.cells #[.int .i64 op, .bool lock, .int .i64 cond, .int .i64 ak, .int .i64 ar, .int .i64 ay, .int .i64 an, .int .i64 bk, .int .i64 br, .int .i64 bs, .int .i64 bn, .string dest, lb] 26)
  have HB := at_new w (.cells #[.int .i64 op, .bool lock, .int .i64 cond, .int .i64 ak, .int .i64 ar, .int .i64 ay, .int .i64 an, .int .i64 bk, .int .i64 br, .int .i64 bs, .int .i64 bn, .string dest, lb] 26)
  go_enter Tryd.func28, Tryd.ntmps28
  go_upto_region 1 with (fail)
  obtain ⟨b0, b1, b2, b3, b4, b5, b6, b7, b8, b9, b10, b11, b12⟩ := box13_facts HB
  generalize w.alloc (.cells #[.int .i64 op, .bool lock, .int .i64 cond, .int .i64 ak, .int .i64 ar, .int .i64 ay, .int .i64 an, .int .i64 bk, .int .i64 br, .int .i64 bs, .int .i64 bn, .string dest, lb] 26) = W at *
  rcases Decidable.em (R = 0) with rfl | hR
  · rcases Decidable.em (op = 12) with rfl | h8
    · go_wp2_with (first | (go_at_call 26; apply Calls.mono; (focus (with_reducible (exact cI _))); rintro e wn ⟨rfl, hl⟩; replace HB := heap_later hl HB; replace LL := Later.trans LL hl; obtain ⟨b0, b1, b2, b3, b4, b5, b6, b7, b8, b9, b10, b11, b12⟩ := box13_facts HB) | (go_at_call 27; apply Calls.mono; (focus (with_reducible (exact cL _))); rintro e wn ⟨rfl, hl⟩; replace HB := heap_later hl HB; replace LL := Later.trans LL hl; obtain ⟨b0, b1, b2, b3, b4, b5, b6, b7, b8, b9, b10, b11, b12⟩ := box13_facts HB))
      go_ret
      exact ⟨ret_bool (by simp), LL⟩
    · have h8' : (op == 12) = false := by simp; exact h8
      go_wp2_with (first | (go_at_call 26; apply Calls.mono; (focus (with_reducible (exact cI _))); rintro e wn ⟨rfl, hl⟩; replace HB := heap_later hl HB; replace LL := Later.trans LL hl; obtain ⟨b0, b1, b2, b3, b4, b5, b6, b7, b8, b9, b10, b11, b12⟩ := box13_facts HB) | (go_at_call 27; apply Calls.mono; (focus (with_reducible (exact cL _))); rintro e wn ⟨rfl, hl⟩; replace HB := heap_later hl HB; replace LL := Later.trans LL hl; obtain ⟨b0, b1, b2, b3, b4, b5, b6, b7, b8, b9, b10, b11, b12⟩ := box13_facts HB))
      go_ret
      exact ⟨ret_bool (by simp [h8]), LL⟩
  · have hR' : (R == 0) = false := by simp; exact hR
    go_wp2_with (first | (go_at_call 26; apply Calls.mono; (focus (with_reducible (exact cI _))); rintro e wn ⟨rfl, hl⟩; replace HB := heap_later hl HB; replace LL := Later.trans LL hl; obtain ⟨b0, b1, b2, b3, b4, b5, b6, b7, b8, b9, b10, b11, b12⟩ := box13_facts HB) | (go_at_call 27; apply Calls.mono; (focus (with_reducible (exact cL _))); rintro e wn ⟨rfl, hl⟩; replace HB := heap_later hl HB; replace LL := Later.trans LL hl; obtain ⟨b0, b1, b2, b3, b4, b5, b6, b7, b8, b9, b10, b11, b12⟩ := box13_facts HB))
    go_ret
    exact ⟨ret_bool (by simp [hR]), LL⟩

set_option maxRecDepth 1000000 in
set_option maxHeartbeats 4000000 in
theorem refReads_any (x : Ins) (hd : x.dest.size ≤ 1000000) (w : World) :
    Calls Tryd.prog 23 #[x.val] w fun e w' => e = .returned (.tuple #[(readsF x).1.val, .bool (readsF x).2]) ∧ Later w w' := by
  have cI := fun w' => refInsRight_any x hd w'
  have cA := fun w' => refMemory_any x.a w'
  have cB := fun w' => refMemory_any x.b w'
  obtain ⟨op, lock, cond, ⟨ak, ar, ay, an⟩, ⟨bk, br, bs, bn⟩, dest, lb⟩ := x
  clear hd
  unfold readsF zeroOpd
  dsimp only at *
  generalize insF ⟨op, lock, cond, ⟨ak, ar, ay, an⟩, ⟨bk, br, bs, bn⟩, dest, lb⟩ = R at *
  generalize memF ⟨ak, ar, ay, an⟩ = ma at *
  generalize memF ⟨bk, br, bs, bn⟩ = mb at *
  obtain ⟨P, hP⟩ : ∃ P, P = (if R ≠ 0 ∨ 9 < op then ((⟨0, 0, 0, 0⟩ : Opd), false) else if mb = true then (⟨bk, br, bs, bn⟩, true) else if ma = true ∧ op ≠ 1 then (⟨ak, ar, ay, an⟩, true) else (⟨0, 0, 0, 0⟩, false)) := ⟨_, rfl⟩
  rw [← hP]
  unfold Ins.val Ins.cells Opd.val at *
  dsimp only at *
  have LL := Later.alloc (Later.alloc (Later.refl w) (.cells #[.int .i64 op, .bool lock, .int .i64 cond, .int .i64 ak, .int .i64 ar, .int .i64 ay, .int .i64 an, .int .i64 bk, .int .i64 br, .int .i64 bs, .int .i64 bn, .string dest, lb] 26)) (.cells #[.int .i64 0, .int .i64 0, .int .i64 0, .int .i64 0] 23)
  obtain ⟨HB, HC⟩ := two_new2 w (.cells #[.int .i64 op, .bool lock, .int .i64 cond, .int .i64 ak, .int .i64 ar, .int .i64 ay, .int .i64 an, .int .i64 bk, .int .i64 br, .int .i64 bs, .int .i64 bn, .string dest, lb] 26) (.cells #[.int .i64 0, .int .i64 0, .int .i64 0, .int .i64 0] 23)
  go_enter Tryd.func23, Tryd.ntmps23
  go_upto_region 1 with (fail)
  generalize (w.alloc _).alloc _ = W at *
  obtain ⟨b0, b1, b2, b3, b4, b5, b6, b7, b8, b9, b10, b11, b12⟩ := box13_facts HB; obtain ⟨c0, c1, c2, c3, f0, f1, f2, f3⟩ := box4_facts HC
  have hC : w.heap.size ≤ w.heap.size + 1 := by omega
  generalize w.heap.size + 1 = C at *
  rcases Decidable.em (R = 0) with rfl | hR
  · by_cases h9 : 9 < op
    · simp only [ne_eq, not_true_eq_false, h9, or_true, if_true] at hP
      subst hP
      go_wp2_with (first | (go_at_call 26; apply Calls.mono; (focus (with_reducible (exact cI _))); rintro e wn ⟨rfl, hl⟩; replace HB := heap_later hl HB; replace HC := heap_later hl HC; replace LL := Later.trans LL hl; obtain ⟨b0, b1, b2, b3, b4, b5, b6, b7, b8, b9, b10, b11, b12⟩ := box13_facts HB; obtain ⟨c0, c1, c2, c3, f0, f1, f2, f3⟩ := box4_facts HC) | (go_at_call 40; apply Calls.mono; (focus (with_reducible (exact cA _))); rintro e wn ⟨rfl, hl⟩; replace HB := heap_later hl HB; replace HC := heap_later hl HC; replace LL := Later.trans LL hl; obtain ⟨b0, b1, b2, b3, b4, b5, b6, b7, b8, b9, b10, b11, b12⟩ := box13_facts HB; obtain ⟨c0, c1, c2, c3, f0, f1, f2, f3⟩ := box4_facts HC) | (go_at_call 40; apply Calls.mono; (focus (with_reducible (exact cB _))); rintro e wn ⟨rfl, hl⟩; replace HB := heap_later hl HB; replace HC := heap_later hl HC; replace LL := Later.trans LL hl; obtain ⟨b0, b1, b2, b3, b4, b5, b6, b7, b8, b9, b10, b11, b12⟩ := box13_facts HB; obtain ⟨c0, c1, c2, c3, f0, f1, f2, f3⟩ := box4_facts HC))
      all_goals obtain ⟨r0, r1, r2, r3, -, -, -, -⟩ := box4_facts (box4_stored HC (.int .i64 0) (.int .i64 0) (.int .i64 0) (.int .i64 0))
      all_goals refine bodyPost_ret (by simp [results, Tryd.results23, go_sem, r0, r1, r2, r3]; try rfl) rfl ⟨rfl, ?_⟩
      all_goals exact Below.setCell (Below.setCell (Below.setCell (Below.setCell LL hC _) hC _) hC _) hC _
    · cases mb with
      | true =>
        simp only [ne_eq, not_true_eq_false, h9, or_self, if_false, if_true] at hP
        subst hP
        go_wp2_with (first | (go_at_call 26; apply Calls.mono; (focus (with_reducible (exact cI _))); rintro e wn ⟨rfl, hl⟩; replace HB := heap_later hl HB; replace HC := heap_later hl HC; replace LL := Later.trans LL hl; obtain ⟨b0, b1, b2, b3, b4, b5, b6, b7, b8, b9, b10, b11, b12⟩ := box13_facts HB; obtain ⟨c0, c1, c2, c3, f0, f1, f2, f3⟩ := box4_facts HC) | (go_at_call 40; apply Calls.mono; (focus (with_reducible (exact cA _))); rintro e wn ⟨rfl, hl⟩; replace HB := heap_later hl HB; replace HC := heap_later hl HC; replace LL := Later.trans LL hl; obtain ⟨b0, b1, b2, b3, b4, b5, b6, b7, b8, b9, b10, b11, b12⟩ := box13_facts HB; obtain ⟨c0, c1, c2, c3, f0, f1, f2, f3⟩ := box4_facts HC) | (go_at_call 40; apply Calls.mono; (focus (with_reducible (exact cB _))); rintro e wn ⟨rfl, hl⟩; replace HB := heap_later hl HB; replace HC := heap_later hl HC; replace LL := Later.trans LL hl; obtain ⟨b0, b1, b2, b3, b4, b5, b6, b7, b8, b9, b10, b11, b12⟩ := box13_facts HB; obtain ⟨c0, c1, c2, c3, f0, f1, f2, f3⟩ := box4_facts HC))
        all_goals obtain ⟨r0, r1, r2, r3, -, -, -, -⟩ := box4_facts (box4_stored HC (.int .i64 bk) (.int .i64 br) (.int .i64 bs) (.int .i64 bn))
        all_goals refine bodyPost_ret (by simp [results, Tryd.results23, go_sem, r0, r1, r2, r3]; try rfl) rfl ⟨rfl, ?_⟩
        all_goals exact Below.setCell (Below.setCell (Below.setCell (Below.setCell LL hC _) hC _) hC _) hC _
      | false =>
        cases ma with
        | true =>
          rcases Decidable.em (op = 1) with rfl | h1
          · simp at hP
            subst hP
            go_wp2_with (first | (go_at_call 26; apply Calls.mono; (focus (with_reducible (exact cI _))); rintro e wn ⟨rfl, hl⟩; replace HB := heap_later hl HB; replace HC := heap_later hl HC; replace LL := Later.trans LL hl; obtain ⟨b0, b1, b2, b3, b4, b5, b6, b7, b8, b9, b10, b11, b12⟩ := box13_facts HB; obtain ⟨c0, c1, c2, c3, f0, f1, f2, f3⟩ := box4_facts HC) | (go_at_call 40; apply Calls.mono; (focus (with_reducible (exact cA _))); rintro e wn ⟨rfl, hl⟩; replace HB := heap_later hl HB; replace HC := heap_later hl HC; replace LL := Later.trans LL hl; obtain ⟨b0, b1, b2, b3, b4, b5, b6, b7, b8, b9, b10, b11, b12⟩ := box13_facts HB; obtain ⟨c0, c1, c2, c3, f0, f1, f2, f3⟩ := box4_facts HC) | (go_at_call 40; apply Calls.mono; (focus (with_reducible (exact cB _))); rintro e wn ⟨rfl, hl⟩; replace HB := heap_later hl HB; replace HC := heap_later hl HC; replace LL := Later.trans LL hl; obtain ⟨b0, b1, b2, b3, b4, b5, b6, b7, b8, b9, b10, b11, b12⟩ := box13_facts HB; obtain ⟨c0, c1, c2, c3, f0, f1, f2, f3⟩ := box4_facts HC))
            all_goals obtain ⟨r0, r1, r2, r3, -, -, -, -⟩ := box4_facts (box4_stored HC (.int .i64 0) (.int .i64 0) (.int .i64 0) (.int .i64 0))
            all_goals refine bodyPost_ret (by simp [results, Tryd.results23, go_sem, r0, r1, r2, r3]; try rfl) rfl ⟨rfl, ?_⟩
            all_goals exact Below.setCell (Below.setCell (Below.setCell (Below.setCell LL hC _) hC _) hC _) hC _
          · have h1' : (op != 1) = true := by simp; exact h1
            simp [h9, h1] at hP
            subst hP
            go_wp2_with (first | (go_at_call 26; apply Calls.mono; (focus (with_reducible (exact cI _))); rintro e wn ⟨rfl, hl⟩; replace HB := heap_later hl HB; replace HC := heap_later hl HC; replace LL := Later.trans LL hl; obtain ⟨b0, b1, b2, b3, b4, b5, b6, b7, b8, b9, b10, b11, b12⟩ := box13_facts HB; obtain ⟨c0, c1, c2, c3, f0, f1, f2, f3⟩ := box4_facts HC) | (go_at_call 40; apply Calls.mono; (focus (with_reducible (exact cA _))); rintro e wn ⟨rfl, hl⟩; replace HB := heap_later hl HB; replace HC := heap_later hl HC; replace LL := Later.trans LL hl; obtain ⟨b0, b1, b2, b3, b4, b5, b6, b7, b8, b9, b10, b11, b12⟩ := box13_facts HB; obtain ⟨c0, c1, c2, c3, f0, f1, f2, f3⟩ := box4_facts HC) | (go_at_call 40; apply Calls.mono; (focus (with_reducible (exact cB _))); rintro e wn ⟨rfl, hl⟩; replace HB := heap_later hl HB; replace HC := heap_later hl HC; replace LL := Later.trans LL hl; obtain ⟨b0, b1, b2, b3, b4, b5, b6, b7, b8, b9, b10, b11, b12⟩ := box13_facts HB; obtain ⟨c0, c1, c2, c3, f0, f1, f2, f3⟩ := box4_facts HC))
            all_goals obtain ⟨r0, r1, r2, r3, -, -, -, -⟩ := box4_facts (box4_stored HC (.int .i64 ak) (.int .i64 ar) (.int .i64 ay) (.int .i64 an))
            all_goals refine bodyPost_ret (by simp [results, Tryd.results23, go_sem, r0, r1, r2, r3]; try rfl) rfl ⟨rfl, ?_⟩
            all_goals exact Below.setCell (Below.setCell (Below.setCell (Below.setCell LL hC _) hC _) hC _) hC _
        | false =>
          simp [h9] at hP
          subst hP
          go_wp2_with (first | (go_at_call 26; apply Calls.mono; (focus (with_reducible (exact cI _))); rintro e wn ⟨rfl, hl⟩; replace HB := heap_later hl HB; replace HC := heap_later hl HC; replace LL := Later.trans LL hl; obtain ⟨b0, b1, b2, b3, b4, b5, b6, b7, b8, b9, b10, b11, b12⟩ := box13_facts HB; obtain ⟨c0, c1, c2, c3, f0, f1, f2, f3⟩ := box4_facts HC) | (go_at_call 40; apply Calls.mono; (focus (with_reducible (exact cA _))); rintro e wn ⟨rfl, hl⟩; replace HB := heap_later hl HB; replace HC := heap_later hl HC; replace LL := Later.trans LL hl; obtain ⟨b0, b1, b2, b3, b4, b5, b6, b7, b8, b9, b10, b11, b12⟩ := box13_facts HB; obtain ⟨c0, c1, c2, c3, f0, f1, f2, f3⟩ := box4_facts HC) | (go_at_call 40; apply Calls.mono; (focus (with_reducible (exact cB _))); rintro e wn ⟨rfl, hl⟩; replace HB := heap_later hl HB; replace HC := heap_later hl HC; replace LL := Later.trans LL hl; obtain ⟨b0, b1, b2, b3, b4, b5, b6, b7, b8, b9, b10, b11, b12⟩ := box13_facts HB; obtain ⟨c0, c1, c2, c3, f0, f1, f2, f3⟩ := box4_facts HC))
          all_goals obtain ⟨r0, r1, r2, r3, -, -, -, -⟩ := box4_facts (box4_stored HC (.int .i64 0) (.int .i64 0) (.int .i64 0) (.int .i64 0))
          all_goals refine bodyPost_ret (by simp [results, Tryd.results23, go_sem, r0, r1, r2, r3]; try rfl) rfl ⟨rfl, ?_⟩
          all_goals exact Below.setCell (Below.setCell (Below.setCell (Below.setCell LL hC _) hC _) hC _) hC _
  · have hR' : (R != 0) = true := by simp; exact hR
    simp [hR] at hP
    subst hP
    go_wp2_with (first | (go_at_call 26; apply Calls.mono; (focus (with_reducible (exact cI _))); rintro e wn ⟨rfl, hl⟩; replace HB := heap_later hl HB; replace HC := heap_later hl HC; replace LL := Later.trans LL hl; obtain ⟨b0, b1, b2, b3, b4, b5, b6, b7, b8, b9, b10, b11, b12⟩ := box13_facts HB; obtain ⟨c0, c1, c2, c3, f0, f1, f2, f3⟩ := box4_facts HC) | (go_at_call 40; apply Calls.mono; (focus (with_reducible (exact cA _))); rintro e wn ⟨rfl, hl⟩; replace HB := heap_later hl HB; replace HC := heap_later hl HC; replace LL := Later.trans LL hl; obtain ⟨b0, b1, b2, b3, b4, b5, b6, b7, b8, b9, b10, b11, b12⟩ := box13_facts HB; obtain ⟨c0, c1, c2, c3, f0, f1, f2, f3⟩ := box4_facts HC) | (go_at_call 40; apply Calls.mono; (focus (with_reducible (exact cB _))); rintro e wn ⟨rfl, hl⟩; replace HB := heap_later hl HB; replace HC := heap_later hl HC; replace LL := Later.trans LL hl; obtain ⟨b0, b1, b2, b3, b4, b5, b6, b7, b8, b9, b10, b11, b12⟩ := box13_facts HB; obtain ⟨c0, c1, c2, c3, f0, f1, f2, f3⟩ := box4_facts HC))
    all_goals obtain ⟨r0, r1, r2, r3, -, -, -, -⟩ := box4_facts (box4_stored HC (.int .i64 0) (.int .i64 0) (.int .i64 0) (.int .i64 0))
    all_goals refine bodyPost_ret (by simp [results, Tryd.results23, go_sem, r0, r1, r2, r3]; try rfl) rfl ⟨rfl, ?_⟩
    all_goals exact Below.setCell (Below.setCell (Below.setCell (Below.setCell LL hC _) hC _) hC _) hC _

set_option maxRecDepth 1000000 in
set_option maxHeartbeats 4000000 in
theorem refWrites_any (x : Ins) (hd : x.dest.size ≤ 1000000) (w : World) :
    Calls Tryd.prog 24 #[x.val] w fun e w' => e = .returned (.tuple #[(writesF x).1.val, .bool (writesF x).2]) ∧ Later w w' := by
  have cI := fun w' => refInsRight_any x hd w'
  have cA := fun w' => refMemory_any x.a w'
  have cB := fun w' => refMemory_any x.b w'
  obtain ⟨op, lock, cond, ⟨ak, ar, ay, an⟩, ⟨bk, br, bs, bn⟩, dest, lb⟩ := x
  clear hd
  unfold writesF zeroOpd
  dsimp only at *
  generalize insF ⟨op, lock, cond, ⟨ak, ar, ay, an⟩, ⟨bk, br, bs, bn⟩, dest, lb⟩ = R at *
  generalize memF ⟨ak, ar, ay, an⟩ = ma at *
  generalize memF ⟨bk, br, bs, bn⟩ = mb at *
  obtain ⟨P, hP⟩ : ∃ P, P = (if R ≠ 0 ∨ 9 < op ∨ op = 7 ∨ ma = false then ((⟨0, 0, 0, 0⟩ : Opd), false) else (⟨ak, ar, ay, an⟩, true)) := ⟨_, rfl⟩
  rw [← hP]
  unfold Ins.val Ins.cells Opd.val at *
  dsimp only at *
  have LL := Later.alloc (Later.alloc (Later.refl w) (.cells #[.int .i64 op, .bool lock, .int .i64 cond, .int .i64 ak, .int .i64 ar, .int .i64 ay, .int .i64 an, .int .i64 bk, .int .i64 br, .int .i64 bs, .int .i64 bn, .string dest, lb] 26)) (.cells #[.int .i64 0, .int .i64 0, .int .i64 0, .int .i64 0] 23)
  obtain ⟨HB, HC⟩ := two_new2 w (.cells #[.int .i64 op, .bool lock, .int .i64 cond, .int .i64 ak, .int .i64 ar, .int .i64 ay, .int .i64 an, .int .i64 bk, .int .i64 br, .int .i64 bs, .int .i64 bn, .string dest, lb] 26) (.cells #[.int .i64 0, .int .i64 0, .int .i64 0, .int .i64 0] 23)
  go_enter Tryd.func24, Tryd.ntmps24
  go_upto_region 1 with (fail)
  generalize (w.alloc _).alloc _ = W at *
  obtain ⟨b0, b1, b2, b3, b4, b5, b6, b7, b8, b9, b10, b11, b12⟩ := box13_facts HB; obtain ⟨c0, c1, c2, c3, f0, f1, f2, f3⟩ := box4_facts HC
  have hC : w.heap.size ≤ w.heap.size + 1 := by omega
  generalize w.heap.size + 1 = C at *
  rcases Decidable.em (R = 0) with rfl | hR
  · by_cases h9 : 9 < op
    · simp [h9] at hP
      subst hP
      go_wp2_with (first | (go_at_call 26; apply Calls.mono; (focus (with_reducible (exact cI _))); rintro e wn ⟨rfl, hl⟩; replace HB := heap_later hl HB; replace HC := heap_later hl HC; replace LL := Later.trans LL hl; obtain ⟨b0, b1, b2, b3, b4, b5, b6, b7, b8, b9, b10, b11, b12⟩ := box13_facts HB; obtain ⟨c0, c1, c2, c3, f0, f1, f2, f3⟩ := box4_facts HC) | (go_at_call 40; apply Calls.mono; (focus (with_reducible (exact cA _))); rintro e wn ⟨rfl, hl⟩; replace HB := heap_later hl HB; replace HC := heap_later hl HC; replace LL := Later.trans LL hl; obtain ⟨b0, b1, b2, b3, b4, b5, b6, b7, b8, b9, b10, b11, b12⟩ := box13_facts HB; obtain ⟨c0, c1, c2, c3, f0, f1, f2, f3⟩ := box4_facts HC) | (go_at_call 40; apply Calls.mono; (focus (with_reducible (exact cB _))); rintro e wn ⟨rfl, hl⟩; replace HB := heap_later hl HB; replace HC := heap_later hl HC; replace LL := Later.trans LL hl; obtain ⟨b0, b1, b2, b3, b4, b5, b6, b7, b8, b9, b10, b11, b12⟩ := box13_facts HB; obtain ⟨c0, c1, c2, c3, f0, f1, f2, f3⟩ := box4_facts HC))
      all_goals obtain ⟨r0, r1, r2, r3, -, -, -, -⟩ := box4_facts (box4_stored HC (.int .i64 0) (.int .i64 0) (.int .i64 0) (.int .i64 0))
      all_goals refine bodyPost_ret (by simp [results, Tryd.results24, go_sem, r0, r1, r2, r3]; try rfl) rfl ⟨rfl, ?_⟩
      all_goals exact Below.setCell (Below.setCell (Below.setCell (Below.setCell LL hC _) hC _) hC _) hC _
    · rcases Decidable.em (op = 7) with rfl | h7
      · simp at hP
        subst hP
        go_wp2_with (first | (go_at_call 26; apply Calls.mono; (focus (with_reducible (exact cI _))); rintro e wn ⟨rfl, hl⟩; replace HB := heap_later hl HB; replace HC := heap_later hl HC; replace LL := Later.trans LL hl; obtain ⟨b0, b1, b2, b3, b4, b5, b6, b7, b8, b9, b10, b11, b12⟩ := box13_facts HB; obtain ⟨c0, c1, c2, c3, f0, f1, f2, f3⟩ := box4_facts HC) | (go_at_call 40; apply Calls.mono; (focus (with_reducible (exact cA _))); rintro e wn ⟨rfl, hl⟩; replace HB := heap_later hl HB; replace HC := heap_later hl HC; replace LL := Later.trans LL hl; obtain ⟨b0, b1, b2, b3, b4, b5, b6, b7, b8, b9, b10, b11, b12⟩ := box13_facts HB; obtain ⟨c0, c1, c2, c3, f0, f1, f2, f3⟩ := box4_facts HC) | (go_at_call 40; apply Calls.mono; (focus (with_reducible (exact cB _))); rintro e wn ⟨rfl, hl⟩; replace HB := heap_later hl HB; replace HC := heap_later hl HC; replace LL := Later.trans LL hl; obtain ⟨b0, b1, b2, b3, b4, b5, b6, b7, b8, b9, b10, b11, b12⟩ := box13_facts HB; obtain ⟨c0, c1, c2, c3, f0, f1, f2, f3⟩ := box4_facts HC))
        all_goals obtain ⟨r0, r1, r2, r3, -, -, -, -⟩ := box4_facts (box4_stored HC (.int .i64 0) (.int .i64 0) (.int .i64 0) (.int .i64 0))
        all_goals refine bodyPost_ret (by simp [results, Tryd.results24, go_sem, r0, r1, r2, r3]; try rfl) rfl ⟨rfl, ?_⟩
        all_goals exact Below.setCell (Below.setCell (Below.setCell (Below.setCell LL hC _) hC _) hC _) hC _
      · have h7' : (op == 7) = false := by simp; exact h7
        cases ma with
        | true =>
          simp [h9, h7] at hP
          subst hP
          go_wp2_with (first | (go_at_call 26; apply Calls.mono; (focus (with_reducible (exact cI _))); rintro e wn ⟨rfl, hl⟩; replace HB := heap_later hl HB; replace HC := heap_later hl HC; replace LL := Later.trans LL hl; obtain ⟨b0, b1, b2, b3, b4, b5, b6, b7, b8, b9, b10, b11, b12⟩ := box13_facts HB; obtain ⟨c0, c1, c2, c3, f0, f1, f2, f3⟩ := box4_facts HC) | (go_at_call 40; apply Calls.mono; (focus (with_reducible (exact cA _))); rintro e wn ⟨rfl, hl⟩; replace HB := heap_later hl HB; replace HC := heap_later hl HC; replace LL := Later.trans LL hl; obtain ⟨b0, b1, b2, b3, b4, b5, b6, b7, b8, b9, b10, b11, b12⟩ := box13_facts HB; obtain ⟨c0, c1, c2, c3, f0, f1, f2, f3⟩ := box4_facts HC) | (go_at_call 40; apply Calls.mono; (focus (with_reducible (exact cB _))); rintro e wn ⟨rfl, hl⟩; replace HB := heap_later hl HB; replace HC := heap_later hl HC; replace LL := Later.trans LL hl; obtain ⟨b0, b1, b2, b3, b4, b5, b6, b7, b8, b9, b10, b11, b12⟩ := box13_facts HB; obtain ⟨c0, c1, c2, c3, f0, f1, f2, f3⟩ := box4_facts HC))
          all_goals obtain ⟨r0, r1, r2, r3, -, -, -, -⟩ := box4_facts (box4_stored HC (.int .i64 ak) (.int .i64 ar) (.int .i64 ay) (.int .i64 an))
          all_goals refine bodyPost_ret (by simp [results, Tryd.results24, go_sem, r0, r1, r2, r3]; try rfl) rfl ⟨rfl, ?_⟩
          all_goals exact Below.setCell (Below.setCell (Below.setCell (Below.setCell LL hC _) hC _) hC _) hC _
        | false =>
          simp at hP
          subst hP
          go_wp2_with (first | (go_at_call 26; apply Calls.mono; (focus (with_reducible (exact cI _))); rintro e wn ⟨rfl, hl⟩; replace HB := heap_later hl HB; replace HC := heap_later hl HC; replace LL := Later.trans LL hl; obtain ⟨b0, b1, b2, b3, b4, b5, b6, b7, b8, b9, b10, b11, b12⟩ := box13_facts HB; obtain ⟨c0, c1, c2, c3, f0, f1, f2, f3⟩ := box4_facts HC) | (go_at_call 40; apply Calls.mono; (focus (with_reducible (exact cA _))); rintro e wn ⟨rfl, hl⟩; replace HB := heap_later hl HB; replace HC := heap_later hl HC; replace LL := Later.trans LL hl; obtain ⟨b0, b1, b2, b3, b4, b5, b6, b7, b8, b9, b10, b11, b12⟩ := box13_facts HB; obtain ⟨c0, c1, c2, c3, f0, f1, f2, f3⟩ := box4_facts HC) | (go_at_call 40; apply Calls.mono; (focus (with_reducible (exact cB _))); rintro e wn ⟨rfl, hl⟩; replace HB := heap_later hl HB; replace HC := heap_later hl HC; replace LL := Later.trans LL hl; obtain ⟨b0, b1, b2, b3, b4, b5, b6, b7, b8, b9, b10, b11, b12⟩ := box13_facts HB; obtain ⟨c0, c1, c2, c3, f0, f1, f2, f3⟩ := box4_facts HC))
          all_goals obtain ⟨r0, r1, r2, r3, -, -, -, -⟩ := box4_facts (box4_stored HC (.int .i64 0) (.int .i64 0) (.int .i64 0) (.int .i64 0))
          all_goals refine bodyPost_ret (by simp [results, Tryd.results24, go_sem, r0, r1, r2, r3]; try rfl) rfl ⟨rfl, ?_⟩
          all_goals exact Below.setCell (Below.setCell (Below.setCell (Below.setCell LL hC _) hC _) hC _) hC _
  · have hR' : (R != 0) = true := by simp; exact hR
    simp [hR] at hP
    subst hP
    go_wp2_with (first | (go_at_call 26; apply Calls.mono; (focus (with_reducible (exact cI _))); rintro e wn ⟨rfl, hl⟩; replace HB := heap_later hl HB; replace HC := heap_later hl HC; replace LL := Later.trans LL hl; obtain ⟨b0, b1, b2, b3, b4, b5, b6, b7, b8, b9, b10, b11, b12⟩ := box13_facts HB; obtain ⟨c0, c1, c2, c3, f0, f1, f2, f3⟩ := box4_facts HC) | (go_at_call 40; apply Calls.mono; (focus (with_reducible (exact cA _))); rintro e wn ⟨rfl, hl⟩; replace HB := heap_later hl HB; replace HC := heap_later hl HC; replace LL := Later.trans LL hl; obtain ⟨b0, b1, b2, b3, b4, b5, b6, b7, b8, b9, b10, b11, b12⟩ := box13_facts HB; obtain ⟨c0, c1, c2, c3, f0, f1, f2, f3⟩ := box4_facts HC) | (go_at_call 40; apply Calls.mono; (focus (with_reducible (exact cB _))); rintro e wn ⟨rfl, hl⟩; replace HB := heap_later hl HB; replace HC := heap_later hl HC; replace LL := Later.trans LL hl; obtain ⟨b0, b1, b2, b3, b4, b5, b6, b7, b8, b9, b10, b11, b12⟩ := box13_facts HB; obtain ⟨c0, c1, c2, c3, f0, f1, f2, f3⟩ := box4_facts HC))
    all_goals obtain ⟨r0, r1, r2, r3, -, -, -, -⟩ := box4_facts (box4_stored HC (.int .i64 0) (.int .i64 0) (.int .i64 0) (.int .i64 0))
    all_goals refine bodyPost_ret (by simp [results, Tryd.results24, go_sem, r0, r1, r2, r3]; try rfl) rfl ⟨rfl, ?_⟩
    all_goals exact Below.setCell (Below.setCell (Below.setCell (Below.setCell LL hC _) hC _) hC _) hC _

end Go.Proofs.YtginggelbfbcfaaDoor
