/-
  What package ins's Reads, Writes, Locked and Fence return of an instruction. Nothing that was in memory turns. Conditions: the listed tables stand as the program's text lays them; its name has at most 1000 bytes.
-/
import Derived.Test.YtginggelbfbcfaaDoorInsRight
import Derived.Test.YtginggelbfbcfaaDoorRefInsMore
namespace Go.Proofs.YtginggelbfbcfaaDoor
open Go.RowKit
set_option linter.unusedVariables false
set_option linter.unusedSimpArgs false

def reads2F (x : Ins) : Opd × Bool := if insF x ≠ 0 then (zeroOpd, false) else if isMemO x.b = true then (x.b, true) else if x.op ≠ 1 ∧ isMemO x.a = true then (x.a, true) else (zeroOpd, false)
def writes2F (x : Ins) : Opd × Bool := if insF x ≠ 0 ∨ x.op = 7 ∨ isMemO x.a = false then (zeroOpd, false) else (x.a, true)

theorem mem_of_zero {o : Opd} (h : opdZero o = true) : opdRightF o = false ∧ memF o = false := by
  simp [opdZero] at h
  simp [opdRightF, memF]
  omega

theorem ins_ok {x : Ins} (h : insF x = 0) : (9 < x.op → isMemO x.a = false ∧ isMemO x.b = false) ∧ (x.op ≤ 9 → isMemO x.a = memF x.a ∧ isMemO x.b = memF x.b) := by
  have za : opdZero x.a = true → isMemO x.a = false := fun h => by simp [isMemO, mem_of_zero h]
  have zb : opdZero x.b = true → isMemO x.b = false := fun h => by simp [isMemO, mem_of_zero h]
  have ra : opdRightF x.a = true → isMemO x.a = memF x.a := fun h => by simp [isMemO, h]
  have rb : opdRightF x.b = true → isMemO x.b = memF x.b := fun h => by simp [isMemO, h]
  unfold insF rowF at h
  generalize isMemO x.a = ia at *
  generalize isMemO x.b = ib at *
  generalize opdZero x.a = oa at *
  generalize opdZero x.b = ob at *
  generalize opdRightF x.a = ya at *
  generalize opdRightF x.b = yb at *
  refine ⟨fun h9 => ?_, fun h9 => ?_⟩
  · by_cases h0 : x.op < 1 ∨ 14 < x.op
    · rw [if_pos h0] at h; omega
    · rw [if_neg h0, if_pos (Or.inr h9)] at h
      cases oa <;> cases ob <;> simp at h
      exact ⟨za rfl, zb rfl⟩
  · by_cases h0 : x.op < 1 ∨ 14 < x.op
    · rw [if_pos h0] at h; omega
    · have e : ¬ (x.op < 1 ∨ 9 < x.op) := by omega
      rw [if_neg h0, if_neg e] at h
      cases ya <;> cases yb <;> first | (exfalso; simp at h; done) | exact ⟨ra rfl, rb rfl⟩

theorem reads_eq (x : Ins) : readsF x = reads2F x := by
  unfold readsF reads2F
  by_cases h : insF x = 0
  · obtain ⟨h1, h2⟩ := ins_ok h
    by_cases h9 : 9 < x.op
    · simp [h, h9, h1 h9]
    · simp [h, h9, h2 (by omega), and_comm]
  · simp [h]

theorem writes_eq (x : Ins) : writesF x = writes2F x := by
  unfold writesF writes2F
  by_cases h : insF x = 0
  · obtain ⟨h1, h2⟩ := ins_ok h
    by_cases h9 : 9 < x.op
    · simp [h, h9, h1 h9]
    · simp [h, h9, h2 (by omega)]
  · simp [h]

set_option maxRecDepth 1000000 in
set_option maxHeartbeats 4000000 in
theorem insLocked_any (x : Ins) (hd : x.dest.size ≤ 1000) (w : World) (hG : NamesGood w) :
    Calls Tryd.prog 18 #[x.val] w fun e w' => e = .returned (.bool (lockedF x)) ∧ Later w w' := by
  have cI := fun w' h => insRight_any x hd w' h
  obtain ⟨op, lock, cond, ⟨ak, ar, ay, an⟩, ⟨bk, br, bs, bn⟩, dest, lb⟩ := x
  clear hd
  unfold lockedF
  generalize insF ⟨op, lock, cond, ⟨ak, ar, ay, an⟩, ⟨bk, br, bs, bn⟩, dest, lb⟩ = R at *
  unfold Ins.val Ins.cells at *
  dsimp only at *
  have LL := Later.alloc (Later.refl w) (.cells #[.int .i64 op, .bool lock, .int .i64 cond, .int .i64 ak, .int .i64 ar, .int .i64 ay, .int .i64 an, .int .i64 bk, .int .i64 br, .int .i64 bs, .int .i64 bn, .string dest, lb] 26)
  have HB := at_new w (.cells #[.int .i64 op, .bool lock, .int .i64 cond, .int .i64 ak, .int .i64 ar, .int .i64 ay, .int .i64 an, .int .i64 bk, .int .i64 br, .int .i64 bs, .int .i64 bn, .string dest, lb] 26)
  have HG := hG.later LL
  clear hG
  go_enter Tryd.func18, Tryd.ntmps18
  go_upto_region 1 with (fail)
  obtain ⟨b0, b1, b2, b3, b4, b5, b6, b7, b8, b9, b10, b11, b12⟩ := box13_facts HB
  generalize w.alloc (.cells #[.int .i64 op, .bool lock, .int .i64 cond, .int .i64 ak, .int .i64 ar, .int .i64 ay, .int .i64 an, .int .i64 bk, .int .i64 br, .int .i64 bs, .int .i64 bn, .string dest, lb] 26) = W at *
  rcases Decidable.em (R = 0) with rfl | hR
  · cases lock
    all_goals go_wp2_with (go_at_call 12; apply Calls.mono; (focus (with_reducible (exact cI _ HG))); rintro e wn ⟨rfl, hl⟩; replace HB := heap_later hl HB; replace HG := HG.later hl; replace LL := Later.trans LL hl; obtain ⟨b0, b1, b2, b3, b4, b5, b6, b7, b8, b9, b10, b11, b12⟩ := box13_facts HB)
    all_goals go_ret
    all_goals exact ⟨ret_bool (by first | rfl | (simp; done) | (simp_all; done)), LL⟩
  · have hR' : (R == 0) = false := by simp; exact hR
    go_wp2_with (go_at_call 12; apply Calls.mono; (focus (with_reducible (exact cI _ HG))); rintro e wn ⟨rfl, hl⟩; replace HB := heap_later hl HB; replace HG := HG.later hl; replace LL := Later.trans LL hl; obtain ⟨b0, b1, b2, b3, b4, b5, b6, b7, b8, b9, b10, b11, b12⟩ := box13_facts HB)
    go_ret
    exact ⟨ret_bool (by simp [hR]), LL⟩

set_option maxRecDepth 1000000 in
set_option maxHeartbeats 4000000 in
theorem insFence_any (x : Ins) (hd : x.dest.size ≤ 1000) (w : World) (hG : NamesGood w) :
    Calls Tryd.prog 19 #[x.val] w fun e w' => e = .returned (.bool (fenceF x)) ∧ Later w w' := by
  have cI := fun w' h => insRight_any x hd w' h
  have cL := fun w' h => insLocked_any x hd w' h
  unfold fenceF
  generalize lockedF x = lo at *
  obtain ⟨op, lock, cond, ⟨ak, ar, ay, an⟩, ⟨bk, br, bs, bn⟩, dest, lb⟩ := x
  clear hd
  generalize insF ⟨op, lock, cond, ⟨ak, ar, ay, an⟩, ⟨bk, br, bs, bn⟩, dest, lb⟩ = R at *
  unfold Ins.val Ins.cells at *
  dsimp only at *
  have LL := Later.alloc (Later.refl w) (.cells #[.int .i64 op, .bool lock, .int .i64 cond, .int .i64 ak, .int .i64 ar, .int .i64 ay, .int .i64 an, .int .i64 bk, .int .i64 br, .int .i64 bs, .int .i64 bn, .string dest, lb] 26)
  have HB := at_new w (.cells #[.int .i64 op, .bool lock, .int .i64 cond, .int .i64 ak, .int .i64 ar, .int .i64 ay, .int .i64 an, .int .i64 bk, .int .i64 br, .int .i64 bs, .int .i64 bn, .string dest, lb] 26)
  have HG := hG.later LL
  clear hG
  go_enter Tryd.func19, Tryd.ntmps19
  go_upto_region 1 with (fail)
  obtain ⟨b0, b1, b2, b3, b4, b5, b6, b7, b8, b9, b10, b11, b12⟩ := box13_facts HB
  generalize w.alloc (.cells #[.int .i64 op, .bool lock, .int .i64 cond, .int .i64 ak, .int .i64 ar, .int .i64 ay, .int .i64 an, .int .i64 bk, .int .i64 br, .int .i64 bs, .int .i64 bn, .string dest, lb] 26) = W at *
  rcases Decidable.em (R = 0) with rfl | hR
  · rcases Decidable.em (op = 12) with rfl | h12
    · go_wp2_with (first | (go_at_call 12; apply Calls.mono; (focus (with_reducible (exact cI _ HG))); rintro e wn ⟨rfl, hl⟩; replace HB := heap_later hl HB; replace HG := HG.later hl; replace LL := Later.trans LL hl; obtain ⟨b0, b1, b2, b3, b4, b5, b6, b7, b8, b9, b10, b11, b12⟩ := box13_facts HB) | (go_at_call 18; apply Calls.mono; (focus (with_reducible (exact cL _ HG))); rintro e wn ⟨rfl, hl⟩; replace HB := heap_later hl HB; replace HG := HG.later hl; replace LL := Later.trans LL hl; obtain ⟨b0, b1, b2, b3, b4, b5, b6, b7, b8, b9, b10, b11, b12⟩ := box13_facts HB))
      go_ret
      exact ⟨ret_bool (by simp), LL⟩
    · have h12' : (op == 12) = false := by simp; exact h12
      go_wp2_with (first | (go_at_call 12; apply Calls.mono; (focus (with_reducible (exact cI _ HG))); rintro e wn ⟨rfl, hl⟩; replace HB := heap_later hl HB; replace HG := HG.later hl; replace LL := Later.trans LL hl; obtain ⟨b0, b1, b2, b3, b4, b5, b6, b7, b8, b9, b10, b11, b12⟩ := box13_facts HB) | (go_at_call 18; apply Calls.mono; (focus (with_reducible (exact cL _ HG))); rintro e wn ⟨rfl, hl⟩; replace HB := heap_later hl HB; replace HG := HG.later hl; replace LL := Later.trans LL hl; obtain ⟨b0, b1, b2, b3, b4, b5, b6, b7, b8, b9, b10, b11, b12⟩ := box13_facts HB))
      go_ret
      exact ⟨ret_bool (by simp [h12]), LL⟩
  · have hR' : (R == 0) = false := by simp; exact hR
    go_wp2_with (first | (go_at_call 12; apply Calls.mono; (focus (with_reducible (exact cI _ HG))); rintro e wn ⟨rfl, hl⟩; replace HB := heap_later hl HB; replace HG := HG.later hl; replace LL := Later.trans LL hl; obtain ⟨b0, b1, b2, b3, b4, b5, b6, b7, b8, b9, b10, b11, b12⟩ := box13_facts HB) | (go_at_call 18; apply Calls.mono; (focus (with_reducible (exact cL _ HG))); rintro e wn ⟨rfl, hl⟩; replace HB := heap_later hl HB; replace HG := HG.later hl; replace LL := Later.trans LL hl; obtain ⟨b0, b1, b2, b3, b4, b5, b6, b7, b8, b9, b10, b11, b12⟩ := box13_facts HB))
    go_ret
    exact ⟨ret_bool (by simp [hR]), LL⟩

set_option maxRecDepth 1000000 in
set_option maxHeartbeats 4000000 in
theorem insReads_any (x : Ins) (hd : x.dest.size ≤ 1000) (w : World) (hG : NamesGood w) :
    Calls Tryd.prog 14 #[x.val] w fun e w' => e = .returned (.tuple #[(readsF x).1.val, .bool (readsF x).2]) ∧ Later w w' := by
  have cI := fun w' h => insRight_any x hd w' h
  have cA := fun w' h => insIsMemory_any x.a w' h
  have cB := fun w' h => insIsMemory_any x.b w' h
  rw [reads_eq]
  obtain ⟨op, lock, cond, ⟨ak, ar, ay, an⟩, ⟨bk, br, bs, bn⟩, dest, lb⟩ := x
  clear hd
  unfold reads2F zeroOpd
  dsimp only at *
  generalize insF ⟨op, lock, cond, ⟨ak, ar, ay, an⟩, ⟨bk, br, bs, bn⟩, dest, lb⟩ = R at *
  generalize isMemO ⟨ak, ar, ay, an⟩ = ma at *
  generalize isMemO ⟨bk, br, bs, bn⟩ = mb at *
  obtain ⟨P, hP⟩ : ∃ P, P = (if R ≠ 0 then ((⟨0, 0, 0, 0⟩ : Opd), false) else if mb = true then (⟨bk, br, bs, bn⟩, true) else if op ≠ 1 ∧ ma = true then (⟨ak, ar, ay, an⟩, true) else (⟨0, 0, 0, 0⟩, false)) := ⟨_, rfl⟩
  rw [← hP]
  unfold Ins.val Ins.cells Opd.val at *
  dsimp only at *
  have LL := Later.alloc (Later.alloc (Later.refl w) (.cells #[.int .i64 op, .bool lock, .int .i64 cond, .int .i64 ak, .int .i64 ar, .int .i64 ay, .int .i64 an, .int .i64 bk, .int .i64 br, .int .i64 bs, .int .i64 bn, .string dest, lb] 26)) (.cells #[.int .i64 0, .int .i64 0, .int .i64 0, .int .i64 0] 23)
  obtain ⟨HB, HC⟩ := two_new2 w (.cells #[.int .i64 op, .bool lock, .int .i64 cond, .int .i64 ak, .int .i64 ar, .int .i64 ay, .int .i64 an, .int .i64 bk, .int .i64 br, .int .i64 bs, .int .i64 bn, .string dest, lb] 26) (.cells #[.int .i64 0, .int .i64 0, .int .i64 0, .int .i64 0] 23)
  have HG := hG.later LL
  clear hG
  go_enter Tryd.func14, Tryd.ntmps14
  go_upto_region 1 with (fail)
  generalize (w.alloc _).alloc _ = W at *
  obtain ⟨b0, b1, b2, b3, b4, b5, b6, b7, b8, b9, b10, b11, b12⟩ := box13_facts HB; obtain ⟨c0, c1, c2, c3, f0, f1, f2, f3⟩ := box4_facts HC
  have hC : w.heap.size ≤ w.heap.size + 1 := by omega
  generalize w.heap.size + 1 = C at *
  rcases Decidable.em (R = 0) with rfl | hR
  · cases mb with
    | true =>
      simp only [ne_eq, not_true_eq_false, if_false, if_true] at hP
      subst hP
      go_wp2_with (first | (go_at_call 12; apply Calls.mono; (focus (with_reducible (exact cI _ HG))); rintro e wn ⟨rfl, hl⟩; replace HB := heap_later hl HB; replace HC := heap_later hl HC; replace HG := HG.later hl; replace LL := Later.trans LL hl; obtain ⟨b0, b1, b2, b3, b4, b5, b6, b7, b8, b9, b10, b11, b12⟩ := box13_facts HB; obtain ⟨c0, c1, c2, c3, f0, f1, f2, f3⟩ := box4_facts HC) | (go_at_call 37; apply Calls.mono; (focus (with_reducible (exact cA _ HG.regs))); rintro e wn ⟨rfl, hl⟩; replace HB := heap_later hl HB; replace HC := heap_later hl HC; replace HG := HG.later hl; replace LL := Later.trans LL hl; obtain ⟨b0, b1, b2, b3, b4, b5, b6, b7, b8, b9, b10, b11, b12⟩ := box13_facts HB; obtain ⟨c0, c1, c2, c3, f0, f1, f2, f3⟩ := box4_facts HC) | (go_at_call 37; apply Calls.mono; (focus (with_reducible (exact cB _ HG.regs))); rintro e wn ⟨rfl, hl⟩; replace HB := heap_later hl HB; replace HC := heap_later hl HC; replace HG := HG.later hl; replace LL := Later.trans LL hl; obtain ⟨b0, b1, b2, b3, b4, b5, b6, b7, b8, b9, b10, b11, b12⟩ := box13_facts HB; obtain ⟨c0, c1, c2, c3, f0, f1, f2, f3⟩ := box4_facts HC))
      all_goals obtain ⟨r0, r1, r2, r3, -, -, -, -⟩ := box4_facts (box4_stored HC (.int .i64 bk) (.int .i64 br) (.int .i64 bs) (.int .i64 bn))
      all_goals refine bodyPost_ret (by simp [results, Tryd.results14, go_sem, r0, r1, r2, r3]; try rfl) rfl ⟨rfl, ?_⟩
      all_goals exact Below.setCell (Below.setCell (Below.setCell (Below.setCell LL hC _) hC _) hC _) hC _
    | false =>
      rcases Decidable.em (op = 1) with rfl | h1
      · simp at hP
        subst hP
        go_wp2_with (first | (go_at_call 12; apply Calls.mono; (focus (with_reducible (exact cI _ HG))); rintro e wn ⟨rfl, hl⟩; replace HB := heap_later hl HB; replace HC := heap_later hl HC; replace HG := HG.later hl; replace LL := Later.trans LL hl; obtain ⟨b0, b1, b2, b3, b4, b5, b6, b7, b8, b9, b10, b11, b12⟩ := box13_facts HB; obtain ⟨c0, c1, c2, c3, f0, f1, f2, f3⟩ := box4_facts HC) | (go_at_call 37; apply Calls.mono; (focus (with_reducible (exact cA _ HG.regs))); rintro e wn ⟨rfl, hl⟩; replace HB := heap_later hl HB; replace HC := heap_later hl HC; replace HG := HG.later hl; replace LL := Later.trans LL hl; obtain ⟨b0, b1, b2, b3, b4, b5, b6, b7, b8, b9, b10, b11, b12⟩ := box13_facts HB; obtain ⟨c0, c1, c2, c3, f0, f1, f2, f3⟩ := box4_facts HC) | (go_at_call 37; apply Calls.mono; (focus (with_reducible (exact cB _ HG.regs))); rintro e wn ⟨rfl, hl⟩; replace HB := heap_later hl HB; replace HC := heap_later hl HC; replace HG := HG.later hl; replace LL := Later.trans LL hl; obtain ⟨b0, b1, b2, b3, b4, b5, b6, b7, b8, b9, b10, b11, b12⟩ := box13_facts HB; obtain ⟨c0, c1, c2, c3, f0, f1, f2, f3⟩ := box4_facts HC))
        all_goals obtain ⟨r0, r1, r2, r3, -, -, -, -⟩ := box4_facts (box4_stored HC (.int .i64 0) (.int .i64 0) (.int .i64 0) (.int .i64 0))
        all_goals refine bodyPost_ret (by simp [results, Tryd.results14, go_sem, r0, r1, r2, r3]; try rfl) rfl ⟨rfl, ?_⟩
        all_goals exact Below.setCell (Below.setCell (Below.setCell (Below.setCell LL hC _) hC _) hC _) hC _
      · have h1' : (op != 1) = true := by simp; exact h1
        cases ma with
        | true =>
          simp [h1] at hP
          subst hP
          go_wp2_with (first | (go_at_call 12; apply Calls.mono; (focus (with_reducible (exact cI _ HG))); rintro e wn ⟨rfl, hl⟩; replace HB := heap_later hl HB; replace HC := heap_later hl HC; replace HG := HG.later hl; replace LL := Later.trans LL hl; obtain ⟨b0, b1, b2, b3, b4, b5, b6, b7, b8, b9, b10, b11, b12⟩ := box13_facts HB; obtain ⟨c0, c1, c2, c3, f0, f1, f2, f3⟩ := box4_facts HC) | (go_at_call 37; apply Calls.mono; (focus (with_reducible (exact cA _ HG.regs))); rintro e wn ⟨rfl, hl⟩; replace HB := heap_later hl HB; replace HC := heap_later hl HC; replace HG := HG.later hl; replace LL := Later.trans LL hl; obtain ⟨b0, b1, b2, b3, b4, b5, b6, b7, b8, b9, b10, b11, b12⟩ := box13_facts HB; obtain ⟨c0, c1, c2, c3, f0, f1, f2, f3⟩ := box4_facts HC) | (go_at_call 37; apply Calls.mono; (focus (with_reducible (exact cB _ HG.regs))); rintro e wn ⟨rfl, hl⟩; replace HB := heap_later hl HB; replace HC := heap_later hl HC; replace HG := HG.later hl; replace LL := Later.trans LL hl; obtain ⟨b0, b1, b2, b3, b4, b5, b6, b7, b8, b9, b10, b11, b12⟩ := box13_facts HB; obtain ⟨c0, c1, c2, c3, f0, f1, f2, f3⟩ := box4_facts HC))
          all_goals obtain ⟨r0, r1, r2, r3, -, -, -, -⟩ := box4_facts (box4_stored HC (.int .i64 ak) (.int .i64 ar) (.int .i64 ay) (.int .i64 an))
          all_goals refine bodyPost_ret (by simp [results, Tryd.results14, go_sem, r0, r1, r2, r3]; try rfl) rfl ⟨rfl, ?_⟩
          all_goals exact Below.setCell (Below.setCell (Below.setCell (Below.setCell LL hC _) hC _) hC _) hC _
        | false =>
          simp at hP
          subst hP
          go_wp2_with (first | (go_at_call 12; apply Calls.mono; (focus (with_reducible (exact cI _ HG))); rintro e wn ⟨rfl, hl⟩; replace HB := heap_later hl HB; replace HC := heap_later hl HC; replace HG := HG.later hl; replace LL := Later.trans LL hl; obtain ⟨b0, b1, b2, b3, b4, b5, b6, b7, b8, b9, b10, b11, b12⟩ := box13_facts HB; obtain ⟨c0, c1, c2, c3, f0, f1, f2, f3⟩ := box4_facts HC) | (go_at_call 37; apply Calls.mono; (focus (with_reducible (exact cA _ HG.regs))); rintro e wn ⟨rfl, hl⟩; replace HB := heap_later hl HB; replace HC := heap_later hl HC; replace HG := HG.later hl; replace LL := Later.trans LL hl; obtain ⟨b0, b1, b2, b3, b4, b5, b6, b7, b8, b9, b10, b11, b12⟩ := box13_facts HB; obtain ⟨c0, c1, c2, c3, f0, f1, f2, f3⟩ := box4_facts HC) | (go_at_call 37; apply Calls.mono; (focus (with_reducible (exact cB _ HG.regs))); rintro e wn ⟨rfl, hl⟩; replace HB := heap_later hl HB; replace HC := heap_later hl HC; replace HG := HG.later hl; replace LL := Later.trans LL hl; obtain ⟨b0, b1, b2, b3, b4, b5, b6, b7, b8, b9, b10, b11, b12⟩ := box13_facts HB; obtain ⟨c0, c1, c2, c3, f0, f1, f2, f3⟩ := box4_facts HC))
          all_goals obtain ⟨r0, r1, r2, r3, -, -, -, -⟩ := box4_facts (box4_stored HC (.int .i64 0) (.int .i64 0) (.int .i64 0) (.int .i64 0))
          all_goals refine bodyPost_ret (by simp [results, Tryd.results14, go_sem, r0, r1, r2, r3]; try rfl) rfl ⟨rfl, ?_⟩
          all_goals exact Below.setCell (Below.setCell (Below.setCell (Below.setCell LL hC _) hC _) hC _) hC _
  · have hR' : (R != 0) = true := by simp; exact hR
    simp [hR] at hP
    subst hP
    go_wp2_with (first | (go_at_call 12; apply Calls.mono; (focus (with_reducible (exact cI _ HG))); rintro e wn ⟨rfl, hl⟩; replace HB := heap_later hl HB; replace HC := heap_later hl HC; replace HG := HG.later hl; replace LL := Later.trans LL hl; obtain ⟨b0, b1, b2, b3, b4, b5, b6, b7, b8, b9, b10, b11, b12⟩ := box13_facts HB; obtain ⟨c0, c1, c2, c3, f0, f1, f2, f3⟩ := box4_facts HC) | (go_at_call 37; apply Calls.mono; (focus (with_reducible (exact cA _ HG.regs))); rintro e wn ⟨rfl, hl⟩; replace HB := heap_later hl HB; replace HC := heap_later hl HC; replace HG := HG.later hl; replace LL := Later.trans LL hl; obtain ⟨b0, b1, b2, b3, b4, b5, b6, b7, b8, b9, b10, b11, b12⟩ := box13_facts HB; obtain ⟨c0, c1, c2, c3, f0, f1, f2, f3⟩ := box4_facts HC) | (go_at_call 37; apply Calls.mono; (focus (with_reducible (exact cB _ HG.regs))); rintro e wn ⟨rfl, hl⟩; replace HB := heap_later hl HB; replace HC := heap_later hl HC; replace HG := HG.later hl; replace LL := Later.trans LL hl; obtain ⟨b0, b1, b2, b3, b4, b5, b6, b7, b8, b9, b10, b11, b12⟩ := box13_facts HB; obtain ⟨c0, c1, c2, c3, f0, f1, f2, f3⟩ := box4_facts HC))
    all_goals obtain ⟨r0, r1, r2, r3, -, -, -, -⟩ := box4_facts (box4_stored HC (.int .i64 0) (.int .i64 0) (.int .i64 0) (.int .i64 0))
    all_goals refine bodyPost_ret (by simp [results, Tryd.results14, go_sem, r0, r1, r2, r3]; try rfl) rfl ⟨rfl, ?_⟩
    all_goals exact Below.setCell (Below.setCell (Below.setCell (Below.setCell LL hC _) hC _) hC _) hC _

set_option maxRecDepth 1000000 in
set_option maxHeartbeats 4000000 in
theorem insWrites_any (x : Ins) (hd : x.dest.size ≤ 1000) (w : World) (hG : NamesGood w) :
    Calls Tryd.prog 15 #[x.val] w fun e w' => e = .returned (.tuple #[(writesF x).1.val, .bool (writesF x).2]) ∧ Later w w' := by
  have cI := fun w' h => insRight_any x hd w' h
  have cA := fun w' h => insIsMemory_any x.a w' h
  have cB := fun w' h => insIsMemory_any x.b w' h
  rw [writes_eq]
  obtain ⟨op, lock, cond, ⟨ak, ar, ay, an⟩, ⟨bk, br, bs, bn⟩, dest, lb⟩ := x
  clear hd
  unfold writes2F zeroOpd
  dsimp only at *
  generalize insF ⟨op, lock, cond, ⟨ak, ar, ay, an⟩, ⟨bk, br, bs, bn⟩, dest, lb⟩ = R at *
  generalize isMemO ⟨ak, ar, ay, an⟩ = ma at *
  obtain ⟨P, hP⟩ : ∃ P, P = (if R ≠ 0 ∨ op = 7 ∨ ma = false then ((⟨0, 0, 0, 0⟩ : Opd), false) else (⟨ak, ar, ay, an⟩, true)) := ⟨_, rfl⟩
  rw [← hP]
  unfold Ins.val Ins.cells Opd.val at *
  dsimp only at *
  have LL := Later.alloc (Later.alloc (Later.refl w) (.cells #[.int .i64 op, .bool lock, .int .i64 cond, .int .i64 ak, .int .i64 ar, .int .i64 ay, .int .i64 an, .int .i64 bk, .int .i64 br, .int .i64 bs, .int .i64 bn, .string dest, lb] 26)) (.cells #[.int .i64 0, .int .i64 0, .int .i64 0, .int .i64 0] 23)
  obtain ⟨HB, HC⟩ := two_new2 w (.cells #[.int .i64 op, .bool lock, .int .i64 cond, .int .i64 ak, .int .i64 ar, .int .i64 ay, .int .i64 an, .int .i64 bk, .int .i64 br, .int .i64 bs, .int .i64 bn, .string dest, lb] 26) (.cells #[.int .i64 0, .int .i64 0, .int .i64 0, .int .i64 0] 23)
  have HG := hG.later LL
  clear hG
  go_enter Tryd.func15, Tryd.ntmps15
  go_upto_region 1 with (fail)
  generalize (w.alloc _).alloc _ = W at *
  obtain ⟨b0, b1, b2, b3, b4, b5, b6, b7, b8, b9, b10, b11, b12⟩ := box13_facts HB; obtain ⟨c0, c1, c2, c3, f0, f1, f2, f3⟩ := box4_facts HC
  have hC : w.heap.size ≤ w.heap.size + 1 := by omega
  generalize w.heap.size + 1 = C at *
  rcases Decidable.em (R = 0) with rfl | hR
  · rcases Decidable.em (op = 7) with rfl | h7
    · simp at hP
      subst hP
      go_wp2_with (first | (go_at_call 12; apply Calls.mono; (focus (with_reducible (exact cI _ HG))); rintro e wn ⟨rfl, hl⟩; replace HB := heap_later hl HB; replace HC := heap_later hl HC; replace HG := HG.later hl; replace LL := Later.trans LL hl; obtain ⟨b0, b1, b2, b3, b4, b5, b6, b7, b8, b9, b10, b11, b12⟩ := box13_facts HB; obtain ⟨c0, c1, c2, c3, f0, f1, f2, f3⟩ := box4_facts HC) | (go_at_call 37; apply Calls.mono; (focus (with_reducible (exact cA _ HG.regs))); rintro e wn ⟨rfl, hl⟩; replace HB := heap_later hl HB; replace HC := heap_later hl HC; replace HG := HG.later hl; replace LL := Later.trans LL hl; obtain ⟨b0, b1, b2, b3, b4, b5, b6, b7, b8, b9, b10, b11, b12⟩ := box13_facts HB; obtain ⟨c0, c1, c2, c3, f0, f1, f2, f3⟩ := box4_facts HC) | (go_at_call 37; apply Calls.mono; (focus (with_reducible (exact cB _ HG.regs))); rintro e wn ⟨rfl, hl⟩; replace HB := heap_later hl HB; replace HC := heap_later hl HC; replace HG := HG.later hl; replace LL := Later.trans LL hl; obtain ⟨b0, b1, b2, b3, b4, b5, b6, b7, b8, b9, b10, b11, b12⟩ := box13_facts HB; obtain ⟨c0, c1, c2, c3, f0, f1, f2, f3⟩ := box4_facts HC))
      all_goals obtain ⟨r0, r1, r2, r3, -, -, -, -⟩ := box4_facts (box4_stored HC (.int .i64 0) (.int .i64 0) (.int .i64 0) (.int .i64 0))
      all_goals refine bodyPost_ret (by simp [results, Tryd.results15, go_sem, r0, r1, r2, r3]; try rfl) rfl ⟨rfl, ?_⟩
      all_goals exact Below.setCell (Below.setCell (Below.setCell (Below.setCell LL hC _) hC _) hC _) hC _
    · have h7' : (op == 7) = false := by simp; exact h7
      cases ma with
      | true =>
        simp [h7] at hP
        subst hP
        go_wp2_with (first | (go_at_call 12; apply Calls.mono; (focus (with_reducible (exact cI _ HG))); rintro e wn ⟨rfl, hl⟩; replace HB := heap_later hl HB; replace HC := heap_later hl HC; replace HG := HG.later hl; replace LL := Later.trans LL hl; obtain ⟨b0, b1, b2, b3, b4, b5, b6, b7, b8, b9, b10, b11, b12⟩ := box13_facts HB; obtain ⟨c0, c1, c2, c3, f0, f1, f2, f3⟩ := box4_facts HC) | (go_at_call 37; apply Calls.mono; (focus (with_reducible (exact cA _ HG.regs))); rintro e wn ⟨rfl, hl⟩; replace HB := heap_later hl HB; replace HC := heap_later hl HC; replace HG := HG.later hl; replace LL := Later.trans LL hl; obtain ⟨b0, b1, b2, b3, b4, b5, b6, b7, b8, b9, b10, b11, b12⟩ := box13_facts HB; obtain ⟨c0, c1, c2, c3, f0, f1, f2, f3⟩ := box4_facts HC) | (go_at_call 37; apply Calls.mono; (focus (with_reducible (exact cB _ HG.regs))); rintro e wn ⟨rfl, hl⟩; replace HB := heap_later hl HB; replace HC := heap_later hl HC; replace HG := HG.later hl; replace LL := Later.trans LL hl; obtain ⟨b0, b1, b2, b3, b4, b5, b6, b7, b8, b9, b10, b11, b12⟩ := box13_facts HB; obtain ⟨c0, c1, c2, c3, f0, f1, f2, f3⟩ := box4_facts HC))
        all_goals obtain ⟨r0, r1, r2, r3, -, -, -, -⟩ := box4_facts (box4_stored HC (.int .i64 ak) (.int .i64 ar) (.int .i64 ay) (.int .i64 an))
        all_goals refine bodyPost_ret (by simp [results, Tryd.results15, go_sem, r0, r1, r2, r3]; try rfl) rfl ⟨rfl, ?_⟩
        all_goals exact Below.setCell (Below.setCell (Below.setCell (Below.setCell LL hC _) hC _) hC _) hC _
      | false =>
        simp at hP
        subst hP
        go_wp2_with (first | (go_at_call 12; apply Calls.mono; (focus (with_reducible (exact cI _ HG))); rintro e wn ⟨rfl, hl⟩; replace HB := heap_later hl HB; replace HC := heap_later hl HC; replace HG := HG.later hl; replace LL := Later.trans LL hl; obtain ⟨b0, b1, b2, b3, b4, b5, b6, b7, b8, b9, b10, b11, b12⟩ := box13_facts HB; obtain ⟨c0, c1, c2, c3, f0, f1, f2, f3⟩ := box4_facts HC) | (go_at_call 37; apply Calls.mono; (focus (with_reducible (exact cA _ HG.regs))); rintro e wn ⟨rfl, hl⟩; replace HB := heap_later hl HB; replace HC := heap_later hl HC; replace HG := HG.later hl; replace LL := Later.trans LL hl; obtain ⟨b0, b1, b2, b3, b4, b5, b6, b7, b8, b9, b10, b11, b12⟩ := box13_facts HB; obtain ⟨c0, c1, c2, c3, f0, f1, f2, f3⟩ := box4_facts HC) | (go_at_call 37; apply Calls.mono; (focus (with_reducible (exact cB _ HG.regs))); rintro e wn ⟨rfl, hl⟩; replace HB := heap_later hl HB; replace HC := heap_later hl HC; replace HG := HG.later hl; replace LL := Later.trans LL hl; obtain ⟨b0, b1, b2, b3, b4, b5, b6, b7, b8, b9, b10, b11, b12⟩ := box13_facts HB; obtain ⟨c0, c1, c2, c3, f0, f1, f2, f3⟩ := box4_facts HC))
        all_goals obtain ⟨r0, r1, r2, r3, -, -, -, -⟩ := box4_facts (box4_stored HC (.int .i64 0) (.int .i64 0) (.int .i64 0) (.int .i64 0))
        all_goals refine bodyPost_ret (by simp [results, Tryd.results15, go_sem, r0, r1, r2, r3]; try rfl) rfl ⟨rfl, ?_⟩
        all_goals exact Below.setCell (Below.setCell (Below.setCell (Below.setCell LL hC _) hC _) hC _) hC _
  · have hR' : (R != 0) = true := by simp; exact hR
    simp [hR] at hP
    subst hP
    go_wp2_with (first | (go_at_call 12; apply Calls.mono; (focus (with_reducible (exact cI _ HG))); rintro e wn ⟨rfl, hl⟩; replace HB := heap_later hl HB; replace HC := heap_later hl HC; replace HG := HG.later hl; replace LL := Later.trans LL hl; obtain ⟨b0, b1, b2, b3, b4, b5, b6, b7, b8, b9, b10, b11, b12⟩ := box13_facts HB; obtain ⟨c0, c1, c2, c3, f0, f1, f2, f3⟩ := box4_facts HC) | (go_at_call 37; apply Calls.mono; (focus (with_reducible (exact cA _ HG.regs))); rintro e wn ⟨rfl, hl⟩; replace HB := heap_later hl HB; replace HC := heap_later hl HC; replace HG := HG.later hl; replace LL := Later.trans LL hl; obtain ⟨b0, b1, b2, b3, b4, b5, b6, b7, b8, b9, b10, b11, b12⟩ := box13_facts HB; obtain ⟨c0, c1, c2, c3, f0, f1, f2, f3⟩ := box4_facts HC) | (go_at_call 37; apply Calls.mono; (focus (with_reducible (exact cB _ HG.regs))); rintro e wn ⟨rfl, hl⟩; replace HB := heap_later hl HB; replace HC := heap_later hl HC; replace HG := HG.later hl; replace LL := Later.trans LL hl; obtain ⟨b0, b1, b2, b3, b4, b5, b6, b7, b8, b9, b10, b11, b12⟩ := box13_facts HB; obtain ⟨c0, c1, c2, c3, f0, f1, f2, f3⟩ := box4_facts HC))
    all_goals obtain ⟨r0, r1, r2, r3, -, -, -, -⟩ := box4_facts (box4_stored HC (.int .i64 0) (.int .i64 0) (.int .i64 0) (.int .i64 0))
    all_goals refine bodyPost_ret (by simp [results, Tryd.results15, go_sem, r0, r1, r2, r3]; try rfl) rfl ⟨rfl, ?_⟩
    all_goals exact Below.setCell (Below.setCell (Below.setCell (Below.setCell LL hC _) hC _) hC _) hC _

end Go.Proofs.YtginggelbfbcfaaDoor
