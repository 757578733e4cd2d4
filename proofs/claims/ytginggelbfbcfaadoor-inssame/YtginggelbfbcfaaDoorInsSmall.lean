/-
  What package ins's functions over an operand return: whether it is a register, a number or a register, memory, that may be; and whether what an instruction does is a jump. Nothing that was in memory turns. Conditions: the table of the registers' words stands as the program's text lays it.
-/
import Derived.Test.YtginggelbfbcfaaDoorOpndSmall
import Derived.Test.YtginggelbfbcfaaDoorRefOpndMore
import Derived.RegionTactic
import Derived.Deep.CutRange
namespace Go.Proofs.YtginggelbfbcfaaDoor
open Go.RowKit
set_option linter.unusedVariables false
set_option linter.unusedSimpArgs false

def isRegO (o : Opd) : Bool := opdRightF o && decide (o.kind = 1)
def isPlainO (o : Opd) : Bool := opdRightF o && plainF o
def isMemO (o : Opd) : Bool := opdRightF o && memF o

theorem insJumps_any (op : Int) (w : World) :
    Calls Tryd.prog 35 #[.int .i64 op] w fun e w' => e = .returned (.bool (jumpsF op)) ∧ w' = w := by
  unfold jumpsF
  go_enter Tryd.func35, Tryd.ntmps35
  go_wp2
  all_goals go_ret
  all_goals refine ⟨ret_bool ?_, rfl⟩
  all_goals rw [Bool.eq_iff_iff]
  all_goals simp only [Bool.or_eq_true, Bool.and_eq_true, decide_eq_true_eq, beq_iff_eq, beq_eq_false_iff_ne, ne_eq, true_iff, false_iff, Bool.false_eq_true] at *
  all_goals omega

set_option maxRecDepth 1000000 in
set_option maxHeartbeats 1000000 in
theorem insIsReg_any (o : Opd) (w : World) (hT : Tab w 2 regsT) :
    Calls Tryd.prog 59 #[o.val] w fun e w' => e = .returned (.bool (isRegO o)) ∧ Later w w' := by
  have L := Later.alloc (Later.refl w) (.cells #[.int .i64 o.kind, .int .i64 o.reg, .int .i64 o.sym, .int .i64 o.n] 23)
  have HT := hT.later L
  clear hT
  unfold isRegO
  cases h : opdRightF o with
  | false =>
    have c := of_no o h _ HT
    clear HT h
    obtain ⟨k, r, s, n⟩ := o
    unfold Opd.val at *
    dsimp only at *
    go_enter Tryd.func59, Tryd.ntmps59
    go_wp2_with (go_at_call 51; refine c.mono ?_; rintro e w1 ⟨rfl, hl1⟩)
    go_ret
    exact ⟨by simp, by repeat (first | exact L.trans hl1 | apply Later.alloc)⟩
  | true =>
    have c := of_yes o h _ HT
    have hk := kinds_of_right h
    clear HT h
    obtain ⟨k, r, s, n⟩ := o
    unfold Opd.val at *
    unfold partV regP numP atP byP at c
    dsimp only at *
    rcases hk with rfl | rfl | rfl | rfl
    all_goals simp only [reduceIte, Int.reduceEq] at c
    all_goals go_enter Tryd.func59, Tryd.ntmps59
    all_goals go_wp2_with (go_at_call 51; refine c.mono ?_; rintro e w1 ⟨rfl, hl1⟩)
    all_goals go_ret
    all_goals exact ⟨by simp, by repeat (first | exact L.trans hl1 | apply Later.alloc)⟩

set_option maxRecDepth 1000000 in
set_option maxHeartbeats 1000000 in
theorem insIsMemory_any (o : Opd) (w : World) (hT : Tab w 2 regsT) :
    Calls Tryd.prog 37 #[o.val] w fun e w' => e = .returned (.bool (isMemO o)) ∧ Later w w' := by
  have L := Later.alloc (Later.refl w) (.cells #[.int .i64 o.kind, .int .i64 o.reg, .int .i64 o.sym, .int .i64 o.n] 23)
  have HT := hT.later L
  clear hT
  unfold isMemO memF
  cases h : opdRightF o with
  | false =>
    have c := of_no o h _ HT
    clear HT h
    obtain ⟨k, r, s, n⟩ := o
    unfold Opd.val at *
    dsimp only at *
    go_enter Tryd.func37, Tryd.ntmps37
    go_wp2_with (go_at_call 51; refine c.mono ?_; rintro e w1 ⟨rfl, hl1⟩)
    go_ret
    exact ⟨by simp, by repeat (first | exact L.trans hl1 | apply Later.alloc)⟩
  | true =>
    have c := of_yes o h _ HT
    have hk := kinds_of_right h
    clear HT h
    obtain ⟨k, r, s, n⟩ := o
    unfold Opd.val at *
    unfold partV regP numP atP byP at c
    dsimp only at *
    rcases hk with rfl | rfl | rfl | rfl
    all_goals simp only [reduceIte, Int.reduceEq] at c
    all_goals go_enter Tryd.func37, Tryd.ntmps37
    all_goals go_wp2_with (go_at_call 51; refine c.mono ?_; rintro e w1 ⟨rfl, hl1⟩)
    all_goals go_ret
    all_goals exact ⟨by simp, by repeat (first | exact L.trans hl1 | apply Later.alloc)⟩

set_option maxRecDepth 1000000 in
set_option maxHeartbeats 1000000 in
theorem insIsPlain_any (o : Opd) (w : World) (hT : Tab w 2 regsT) :
    Calls Tryd.prog 60 #[o.val] w fun e w' => e = .returned (.bool (isPlainO o)) ∧ Later w w' := by
  have L := Later.alloc (Later.refl w) (.cells #[.int .i64 o.kind, .int .i64 o.reg, .int .i64 o.sym, .int .i64 o.n] 23)
  have HT := hT.later L
  clear hT
  have HB := at_new w (.cells #[.int .i64 o.kind, .int .i64 o.reg, .int .i64 o.sym, .int .i64 o.n] 23)
  have cR := fun w' hT' => insIsReg_any o w' hT'
  unfold isPlainO plainF
  unfold isRegO at cR
  cases h : opdRightF o with
  | false =>
    have c := of_no o h _ HT
    simp only [h, Bool.false_and] at cR
    clear h
    obtain ⟨k, r, s, n⟩ := o
    unfold Opd.val at *
    dsimp only at *
    go_enter Tryd.func60, Tryd.ntmps60
    go_upto_region 3 with (go_at_call 51; refine c.mono ?_; rintro e w1 ⟨rfl, hl1⟩)
    have hl2 := Later.alloc hl1 (.cells #[.int .i64 0] 84)
    generalize w1.alloc (.cells #[.int .i64 0] 84) = w2 at *
    replace HT := HT.later hl2
    obtain ⟨b0, b1, b2, b3, -, -, -, -⟩ := box4_facts (heap_later hl2 HB)
    go_wp2_with (go_at_call 59; refine (cR _ HT).mono ?_; rintro e w3 ⟨rfl, hl3⟩)
    go_ret
    exact ⟨by simp, (L.trans hl2).trans hl3⟩
  | true =>
    have c := of_yes o h _ HT
    simp only [h, Bool.true_and] at cR
    have hk := kinds_of_right h
    clear h
    obtain ⟨k, r, s, n⟩ := o
    unfold Opd.val at *
    unfold partV regP numP atP byP at c
    dsimp only at *
    rcases hk with rfl | rfl | rfl | rfl
    all_goals simp only [reduceIte, Int.reduceEq] at c
    all_goals go_enter Tryd.func60, Tryd.ntmps60
    all_goals go_upto_region 3 with (go_at_call 51; refine c.mono ?_; rintro e w1 ⟨rfl, hl1⟩)
    all_goals generalize hw2 : w1.alloc _ = w2
    all_goals have hl2 := hw2 ▸ Later.alloc hl1 _
    all_goals clear hw2
    all_goals replace HT := HT.later hl2
    all_goals obtain ⟨b0, b1, b2, b3, -, -, -, -⟩ := box4_facts (heap_later hl2 HB)
    all_goals go_wp2_with (go_at_call 59; refine (cR _ HT).mono ?_; rintro e w3 ⟨rfl, hl3⟩)
    all_goals go_ret
    all_goals exact ⟨by simp, by first | exact (L.trans hl2).trans hl3 | exact L.trans hl2⟩

end Go.Proofs.YtginggelbfbcfaaDoor
