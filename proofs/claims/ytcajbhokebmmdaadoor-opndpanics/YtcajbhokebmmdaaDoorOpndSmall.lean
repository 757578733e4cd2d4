/-
  What package opnd's functions over an operand and over its part return: Right, Of, Num, Memory, Reg, Back. Nothing that was in memory turns. Conditions: the table of the registers' words stands as the program's text lays it; as each theorem names them.
-/
import Derived.Test.YtcajbhokebmmdaaDoorNamesReg
import Derived.Test.YtcajbhokebmmdaaDoorRefOpnd
import Derived.Test.YtcajbhokebmmdaaDoorBoxes
import Derived.Test.YtcajbhokebmmdaaDoorOpndAsserts
import Derived.RegionTactic
import Derived.Deep.CutRange
namespace Go.Proofs.YtcajbhokebmmdaaDoor
open Go.RowKit
set_option linter.unusedVariables false
set_option linter.unusedSimpArgs false

/-- The four parts. -/
def regP (r : Int) : Value := .iface 43 (.agg #[.int .i64 r])
def numP (n : Int) : Value := .iface 45 (.agg #[.int .i64 n])
def atP (s n : Int) : Value := .iface 47 (.agg #[.int .i64 s, .int .i64 n])
def byP (s r : Int) : Value := .iface 49 (.agg #[.int .i64 s, .int .i64 r])

/-- The part of an operand's numbers. -/
def partV (o : Opd) : Value := if o.kind = 1 then regP o.reg else if o.kind = 2 then numP o.n else if o.kind = 3 then atP o.sym o.n else byP o.sym o.reg

def isRegF (r : Int) : Bool := decide (0 ≤ r ∧ r ≤ 7)

theorem isReg_any (r : Int) (w : World) (hT : Tab w 0 regsT) :
    Calls Tryd.prog 23 #[.int .i64 r] w fun e w' => e = .returned (.bool (isRegF r)) ∧ w' = w := by
  have c := regText_any r w hT
  have e0 := regText_no r
  generalize textAt regsT r = t at *
  have hb : (!t.toList.isEmpty) = isRegF r := by
    rw [Bool.eq_iff_iff]
    simp only [isRegF, decide_eq_true_eq, ← e0, Bool.not_eq_true']
  clear e0
  go_enter Tryd.func23, Tryd.ntmps23
  go_wp2_with (go_at_call 28; refine c.mono ?_; rintro e w1 ⟨rfl, h1⟩; obtain rfl := h1.symm)
  go_ret
  exact ⟨rfl, rfl⟩

set_option maxRecDepth 1000000 in
set_option maxHeartbeats 1000000 in
theorem right_any (o : Opd) (w : World) (hT : Tab w 0 regsT) :
    Calls Tryd.prog 10 #[o.val] w fun e w' => e = .returned (.bool (opdRightF o)) ∧ Later w w' := by
  obtain ⟨k, r, s, n⟩ := o
  have c := fun wr hT => isReg_any r wr hT
  have hr : isRegF r = true ↔ 0 ≤ r ∧ r ≤ 7 := by simp [isRegF]
  unfold Opd.val opdRightF
  generalize isRegF r = b at *
  have L := Later.alloc (Later.refl w) (.cells #[.int .i64 k, .int .i64 r, .int .i64 s, .int .i64 n] 23)
  have HT : Hid (Tab (w.alloc (.cells #[.int .i64 k, .int .i64 r, .int .i64 s, .int .i64 n] 23)) 0 regsT) := hT.later L
  clear hT
  have HR : Hid (b = true ↔ 0 ≤ r ∧ r ≤ 7) := hr
  clear hr
  cases b
  all_goals go_enter Tryd.func10, Tryd.ntmps10
  all_goals go_wp2_with (go_at_call 23; refine (c _ HT.out).mono ?_; rintro e w1 ⟨rfl, h1⟩; obtain rfl := h1.symm)
  all_goals go_ret
  all_goals have hr := HR.out
  all_goals refine ⟨ret_bool ?_, Later.alloc (Later.refl _) _⟩
  all_goals rw [Bool.eq_iff_iff]
  all_goals simp only [Bool.or_eq_true, Bool.and_eq_true, decide_eq_true_eq, beq_iff_eq, beq_eq_false_iff_ne, ne_eq, true_iff, false_iff, Bool.false_eq_true] at *
  all_goals omega

set_option maxRecDepth 1000000 in
set_option maxHeartbeats 1000000 in
theorem of_yes (o : Opd) (ho : opdRightF o = true) (w : World) (hT : Tab w 0 regsT) :
    Calls Tryd.prog 9 #[o.val] w fun e w' => e = .returned (.tuple #[partV o, .bool true]) ∧ Later w w' := by
  obtain ⟨k, r, s, n⟩ := o
  have L := Later.alloc (Later.refl w) (.cells #[.int .i64 k, .int .i64 r, .int .i64 s, .int .i64 n] 23)
  have c := right_any ⟨k, r, s, n⟩ _ (hT.later L)
  rw [ho] at c
  have hk : k = 1 ∨ k = 2 ∨ k = 3 ∨ k = 4 := by simp [opdRightF] at ho; omega
  clear hT ho
  unfold Opd.val at *
  unfold partV regP numP atP byP
  have hb := at_new w (.cells #[.int .i64 k, .int .i64 r, .int .i64 s, .int .i64 n] 23)
  rcases hk with rfl | rfl | rfl | rfl
  all_goals go_enter Tryd.func9, Tryd.ntmps9
  all_goals go_wp2_with (go_at_call 10; refine c.mono ?_; rintro e w1 ⟨rfl, hl1⟩; obtain ⟨c0, c1, c2, c3, -, -, -, -⟩ := box4_facts (heap_later hl1 hb))
  all_goals go_ret2
  all_goals exact ⟨rfl, L.trans hl1⟩

set_option maxRecDepth 1000000 in
set_option maxHeartbeats 1000000 in
theorem of_no (o : Opd) (ho : opdRightF o = false) (w : World) (hT : Tab w 0 regsT) :
    Calls Tryd.prog 9 #[o.val] w fun e w' => e = .returned (.tuple #[.nilIface, .bool false]) ∧ Later w w' := by
  obtain ⟨k, r, s, n⟩ := o
  have L := Later.alloc (Later.refl w) (.cells #[.int .i64 k, .int .i64 r, .int .i64 s, .int .i64 n] 23)
  have c := right_any ⟨k, r, s, n⟩ _ (hT.later L)
  rw [ho] at c
  clear hT ho
  unfold Opd.val at *
  go_enter Tryd.func9, Tryd.ntmps9
  go_wp2_with (go_at_call 10; refine c.mono ?_; rintro e w1 ⟨rfl, hl1⟩)
  go_ret2
  exact ⟨rfl, L.trans hl1⟩

theorem kinds_of_right {o : Opd} (ho : opdRightF o = true) : o.kind = 1 ∨ o.kind = 2 ∨ o.kind = 3 ∨ o.kind = 4 := by
  simp [opdRightF] at ho; omega

set_option maxRecDepth 1000000 in
set_option maxHeartbeats 1000000 in
theorem num_part (o : Opd) (hk : o.kind = 1 ∨ o.kind = 2 ∨ o.kind = 3 ∨ o.kind = 4) (w : World) :
    Calls Tryd.prog 15 #[partV o] w fun e w' => e = .returned (.tuple #[.int .i64 (if o.kind = 2 then o.n else 0), .bool (decide (o.kind = 2))]) ∧ Later w w' := by
  obtain ⟨k, r, s, n⟩ := o
  unfold partV regP numP atP byP
  dsimp only at hk ⊢
  rcases hk with rfl | rfl | rfl | rfl
  all_goals simp only [reduceIte, Int.reduceEq, decide_true, decide_false]
  all_goals go_enter Tryd.func15, Tryd.ntmps15
  all_goals go_wp2
  all_goals go_ret2
  all_goals exact ⟨rfl, Later.alloc (Later.refl _) _⟩

set_option maxRecDepth 1000000 in
set_option maxHeartbeats 1000000 in
theorem memory_part (o : Opd) (hk : o.kind = 1 ∨ o.kind = 2 ∨ o.kind = 3 ∨ o.kind = 4) (w : World) :
    Calls Tryd.prog 16 #[partV o] w fun e w' => e = .returned (.tuple #[.int .i64 (if memF o = true then o.sym else 0), .bool (memF o)]) ∧ Later w w' := by
  obtain ⟨k, r, s, n⟩ := o
  unfold partV regP numP atP byP memF
  dsimp only at hk ⊢
  rcases hk with rfl | rfl | rfl | rfl
  all_goals simp only [reduceIte, Int.reduceEq, decide_true, decide_false, or_true, or_false, true_or, false_or, Bool.false_eq_true]
  all_goals go_enter Tryd.func16, Tryd.ntmps16
  all_goals go_wp2
  all_goals go_ret2
  all_goals first | exact ⟨rfl, Later.alloc (Later.refl _) _⟩ | exact ⟨rfl, Later.alloc (Later.alloc (Later.refl _) _) _⟩

theorem reg_yes (r : Int) (w : World) : Calls Tryd.prog 21 #[regP r] w fun e w' => e = .returned (.int .i64 r) ∧ w' = w := by
  unfold regP
  go_enter Tryd.func21, Tryd.ntmps21
  go_wp2
  go_ret
  exact ⟨rfl, rfl⟩

/-- The operand of a kind that has the numbers of that kind's part, the others 0. -/
def spreadF (o : Opd) : Opd := if o.kind = 1 then ⟨1, o.reg, 0, 0⟩ else if o.kind = 2 then ⟨2, 0, 0, o.n⟩ else if o.kind = 3 then ⟨3, 0, o.sym, o.n⟩ else ⟨4, o.reg, o.sym, 0⟩

theorem spread_right {o : Opd} (h : opdRightF o = true) : spreadF o = o := by
  obtain ⟨k, r, s, n⟩ := o
  simp [opdRightF] at h
  rcases h with ⟨rfl, -, -, rfl, rfl⟩ | ⟨rfl, rfl, rfl⟩ | ⟨rfl, -, -, rfl⟩ | ⟨rfl, -, -, -, rfl⟩
  all_goals simp [spreadF]

set_option maxRecDepth 1000000 in
set_option maxHeartbeats 1000000 in
theorem spread_part (o : Opd) (hk : o.kind = 1 ∨ o.kind = 2 ∨ o.kind = 3 ∨ o.kind = 4) (w : World) :
    Calls Tryd.prog 26 #[partV o] w fun e w' => e = .returned (spreadF o).val ∧ Later w w' := by
  obtain ⟨k, r, s, n⟩ := o
  unfold partV regP numP atP byP spreadF Opd.val
  dsimp only at hk ⊢
  rcases hk with rfl | rfl | rfl | rfl
  all_goals simp only [reduceIte, Int.reduceEq]
  all_goals go_enter Tryd.func26, Tryd.ntmps26
  all_goals go_wp2
  all_goals refine bodyPost_ret (by simp [results, Tryd.results26, go_sem]; try rfl) rfl ?_
  all_goals refine ⟨rfl, ?_⟩
  all_goals repeat (first | exact Later.refl _ | apply Later.alloc)

/-- What Back tells of the part of an operand's numbers. -/
def backF (o : Opd) : Opd := if opdRightF (spreadF o) = true then spreadF o else ⟨0, 0, 0, 0⟩

set_option maxRecDepth 1000000 in
set_option maxHeartbeats 1000000 in
theorem back_part (o : Opd) (hk : o.kind = 1 ∨ o.kind = 2 ∨ o.kind = 3 ∨ o.kind = 4) (w : World) (hT : Tab w 0 regsT) :
    Calls Tryd.prog 18 #[partV o] w fun e w' => e = .returned (backF o).val ∧ Later w w' := by
  have cs := fun w' => spread_part o hk w'
  unfold backF
  generalize spreadF o = p at *
  have cr := fun w' hT => right_any p w' hT
  generalize opdRightF p = b at *
  obtain ⟨k, r, s, n⟩ := p
  unfold Opd.val at *
  generalize partV o = P at *
  have L0 := Later.alloc (Later.refl w) (.cells #[.int .i64 0, .int .i64 0, .int .i64 0, .int .i64 0] 23)
  have H0 := at_new w (.cells #[.int .i64 0, .int .i64 0, .int .i64 0, .int .i64 0] 23)
  have HT : Hid (Tab w 0 regsT) := hT
  clear hT
  go_enter Tryd.func18, Tryd.ntmps18
  go_upto_region 2 with (go_at_call 26; refine (cs _).mono ?_; rintro e w1 ⟨rfl, hl1⟩)
  have h1 := heap_later hl1 H0
  have h2 := heap_later (Later.alloc (Later.refl w1) (.cells #[.int .i64 k, .int .i64 r, .int .i64 s, .int .i64 n] 23)) h1
  have h3 := at_new w1 (.cells #[.int .i64 k, .int .i64 r, .int .i64 s, .int .i64 n] 23)
  have L2 := Later.alloc (L0.trans hl1) (.cells #[.int .i64 k, .int .i64 r, .int .i64 s, .int .i64 n] 23)
  generalize w1.alloc (.cells #[.int .i64 k, .int .i64 r, .int .i64 s, .int .i64 n] 23) = W2 at *
  generalize hB : w1.heap.size = B at *
  generalize hA : w.heap.size = A at *
  obtain ⟨c0, c1, c2, c3, -, -, -, -⟩ := box4_facts h3
  clear h1 H0 L0 hl1
  cases b
  · as_aux_lemma =>
    go_wp2_with (go_at_call 10; refine (cr _ (HT.out.later L2)).mono ?_; rintro e w3 ⟨rfl, hl3⟩; obtain ⟨d0, d1, d2, d3, f0, f1, f2, f3⟩ := box4_facts (heap_later hl3 h2))
    have hs := box4_stored (heap_later hl3 h2) (.int .i64 0) (.int .i64 0) (.int .i64 0) (.int .i64 0)
    obtain ⟨r0, r1, r2, r3, -, -, -, -⟩ := box4_facts hs
    refine bodyPost_ret (by simp [results, Tryd.results18, go_sem, r0, r1, r2, r3]; try rfl) rfl ⟨rfl, ?_⟩
    exact Below.setCell (Below.setCell (Below.setCell (Below.setCell (L2.trans hl3) (by exact Nat.le_of_eq hA) _) (by exact Nat.le_of_eq hA) _) (by exact Nat.le_of_eq hA) _) (by exact Nat.le_of_eq hA) _
  · as_aux_lemma =>
    go_wp2_with (go_at_call 10; refine (cr _ (HT.out.later L2)).mono ?_; rintro e w3 ⟨rfl, hl3⟩; obtain ⟨d0, d1, d2, d3, f0, f1, f2, f3⟩ := box4_facts (heap_later hl3 h2); obtain ⟨e0, e1, e2, e3, -, -, -, -⟩ := box4_facts (heap_later hl3 h3))
    have hs := box4_stored (heap_later hl3 h2) (.int .i64 k) (.int .i64 r) (.int .i64 s) (.int .i64 n)
    obtain ⟨r0, r1, r2, r3, -, -, -, -⟩ := box4_facts hs
    refine bodyPost_ret (by simp [results, Tryd.results18, go_sem, r0, r1, r2, r3]; try rfl) rfl ⟨rfl, ?_⟩
    exact Below.setCell (Below.setCell (Below.setCell (Below.setCell (L2.trans hl3) (by exact Nat.le_of_eq hA) _) (by exact Nat.le_of_eq hA) _) (by exact Nat.le_of_eq hA) _) (by exact Nat.le_of_eq hA) _

end Go.Proofs.YtcajbhokebmmdaaDoor
