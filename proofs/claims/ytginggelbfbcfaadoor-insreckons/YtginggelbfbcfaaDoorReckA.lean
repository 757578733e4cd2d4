/-
  What InsReckons returns where what is told of the made instruction is of one of nine shapes. Conditions: the listed tables stand as the program's text lays them.
-/
import Derived.Test.YtginggelbfbcfaaDoorInsAlive
import Derived.Test.YtginggelbfbcfaaDoorBookIns0
import Derived.Test.YtginggelbfbcfaaDoorAfter
namespace Go.Proofs.YtginggelbfbcfaaDoor
open Go.RowKit
set_option linter.unusedVariables false
set_option linter.unusedSimpArgs false

set_option maxRecDepth 1000000 in
set_option maxHeartbeats 4000000 in
theorem core_1 (w : World) (g : NamesGood w) (ak' aa' ab' ac' an' : Int) (op cond ak ar ay an bk br bs bn uk ur us un vk vr vs vn : Int) (lock : Bool) (dest : ByteArray) (h10 : op ≠ 10) (h12 : op ≠ 12) (h14 : op ≠ 14)
    (cM : ∀ w', Calls Tryd.prog 11 #[.agg #[.int .i64 ak', .int .i64 aa', .int .i64 ab', .int .i64 ac', .int .i64 an'], .int .i64 9] w' fun e w'' => e = .returned (.agg #[.int .i64 op, .bool lock, .int .i64 cond, .int .i64 ak, .int .i64 ar, .int .i64 ay, .int .i64 an, .int .i64 bk, .int .i64 br, .int .i64 bs, .int .i64 bn, .string dest, .slice none 0 0]) ∧ Later w' w'')
    (cR : ∀ w', NamesGood w' → Calls Tryd.prog 14 #[.agg #[.int .i64 op, .bool lock, .int .i64 cond, .int .i64 ak, .int .i64 ar, .int .i64 ay, .int .i64 an, .int .i64 bk, .int .i64 br, .int .i64 bs, .int .i64 bn, .string dest, .slice none 0 0]] w' fun e w'' => e = .returned (.tuple #[.agg #[.int .i64 uk, .int .i64 ur, .int .i64 us, .int .i64 un], .bool true]) ∧ Later w' w'')
    (cW : ∀ w', NamesGood w' → Calls Tryd.prog 15 #[.agg #[.int .i64 op, .bool lock, .int .i64 cond, .int .i64 ak, .int .i64 ar, .int .i64 ay, .int .i64 an, .int .i64 bk, .int .i64 br, .int .i64 bs, .int .i64 bn, .string dest, .slice none 0 0]] w' fun e w'' => e = .returned (.tuple #[.agg #[.int .i64 vk, .int .i64 vr, .int .i64 vs, .int .i64 vn], .bool true]) ∧ Later w' w'')
    (cE : ∀ w', NamesGood w' → Calls Tryd.prog 16 #[.agg #[.int .i64 op, .bool lock, .int .i64 cond, .int .i64 ak, .int .i64 ar, .int .i64 ay, .int .i64 an, .int .i64 bk, .int .i64 br, .int .i64 bs, .int .i64 bn, .string dest, .slice none 0 0]] w' fun e w'' => e = .returned (.tuple #[.bool true, .bool false]) ∧ Later w' w'')
    (cP : ∀ w', NamesGood w' → Calls Tryd.prog 17 #[.agg #[.int .i64 op, .bool lock, .int .i64 cond, .int .i64 ak, .int .i64 ar, .int .i64 ay, .int .i64 an, .int .i64 bk, .int .i64 br, .int .i64 bs, .int .i64 bn, .string dest, .slice none 0 0]] w' fun e w'' => e = .returned (.int .i64 2) ∧ Later w' w'')
    (cL : ∀ w', NamesGood w' → Calls Tryd.prog 18 #[.agg #[.int .i64 op, .bool lock, .int .i64 cond, .int .i64 ak, .int .i64 ar, .int .i64 ay, .int .i64 an, .int .i64 bk, .int .i64 br, .int .i64 bs, .int .i64 bn, .string dest, .slice none 0 0]] w' fun e w'' => e = .returned (.bool false) ∧ Later w' w'')
    (cF : ∀ w', NamesGood w' → Calls Tryd.prog 19 #[.agg #[.int .i64 op, .bool lock, .int .i64 cond, .int .i64 ak, .int .i64 ar, .int .i64 ay, .int .i64 an, .int .i64 bk, .int .i64 br, .int .i64 bs, .int .i64 bn, .string dest, .slice none 0 0]] w' fun e w'' => e = .returned (.bool false) ∧ Later w' w'') :
    Calls Tryd.prog 6 #[.agg #[.int .i64 ak', .int .i64 aa', .int .i64 ab', .int .i64 ac', .int .i64 an']] w fun e w' => e = .returned (.bool true) ∧ Later w w' := by
  have cl := fun w' h => insAlive_any w' h
  have n10 : (op == 10) = false := by simp; exact h10
  have n12 : (op == 12) = false := by simp; exact h12
  have n14 : (op == 14) = false := by simp; exact h14
  clear h10 h12 h14
  have L0 := Later.alloc (Later.refl w) (.cells #[.int .i64 ak', .int .i64 aa', .int .i64 ab', .int .i64 ac', .int .i64 an'] 30)
  have H0 := at_new w (.cells #[.int .i64 ak', .int .i64 aa', .int .i64 ab', .int .i64 ac', .int .i64 an'] 30)
  go_enter Tryd.func6, Tryd.ntmps6
  go_upto_region 1 with (fail)
  obtain ⟨c0, c1, c2, c3, c4⟩ := box5_facts H0
  generalize w.alloc (.cells #[.int .i64 ak', .int .i64 aa', .int .i64 ab', .int .i64 ac', .int .i64 an'] 30) = W0 at *
  go_upto_region 2 with (go_at_call 11; apply Calls.mono; (focus (with_reducible (exact cM _))); rintro e W ⟨rfl, hl0⟩)
  have L1 := L0.trans hl0
  have HB := at_new W (.cells #[.int .i64 op, .bool lock, .int .i64 cond, .int .i64 ak, .int .i64 ar, .int .i64 ay, .int .i64 an, .int .i64 bk, .int .i64 br, .int .i64 bs, .int .i64 bn, .string dest, .slice none 0 0] 26)
  have LL := Later.alloc L1 (.cells #[.int .i64 op, .bool lock, .int .i64 cond, .int .i64 ak, .int .i64 ar, .int .i64 ay, .int .i64 an, .int .i64 bk, .int .i64 br, .int .i64 bs, .int .i64 bn, .string dest, .slice none 0 0] 26)
  generalize W.alloc (.cells #[.int .i64 op, .bool lock, .int .i64 cond, .int .i64 ak, .int .i64 ar, .int .i64 ay, .int .i64 an, .int .i64 bk, .int .i64 br, .int .i64 bs, .int .i64 bn, .string dest, .slice none 0 0] 26) = W2 at *
  generalize W.heap.size = C at *
  clear c0 c1 c2 c3 c4 H0 L0 L1 hl0 cM
  obtain ⟨b0, b1, b2, b3, b4, b5, b6, b7, b8, b9, b10, b11, b12⟩ := box13_facts HB
  go_upto_region 3 with (go_at_call 14; apply Calls.mono; (focus (with_reducible (exact cR _ (NamesGood.later g LL)))); rintro e wn ⟨rfl, hl⟩; replace HB := heap_later hl HB; replace LL := Later.trans LL hl; obtain ⟨b0, b1, b2, b3, b4, b5, b6, b7, b8, b9, b10, b11, b12⟩ := box13_facts HB)
  have HN := Later.alloc (Later.refl wn) (.cells #[.int .i64 uk, .int .i64 ur, .int .i64 us, .int .i64 un] 23)
  generalize wn.alloc (.cells #[.int .i64 uk, .int .i64 ur, .int .i64 us, .int .i64 un] 23) = Wu at *
  replace HB := heap_later HN HB
  replace LL := Later.trans LL HN
  obtain ⟨b0, b1, b2, b3, b4, b5, b6, b7, b8, b9, b10, b11, b12⟩ := box13_facts HB
  clear HN hl
  go_upto_region 4 with (go_at_call 15; apply Calls.mono; (focus (with_reducible (exact cW _ (NamesGood.later g LL)))); rintro e wn ⟨rfl, hl⟩; replace HB := heap_later hl HB; replace LL := Later.trans LL hl; obtain ⟨b0, b1, b2, b3, b4, b5, b6, b7, b8, b9, b10, b11, b12⟩ := box13_facts HB)
  have HN := Later.alloc (Later.refl wn) (.cells #[.int .i64 vk, .int .i64 vr, .int .i64 vs, .int .i64 vn] 23)
  generalize wn.alloc (.cells #[.int .i64 vk, .int .i64 vr, .int .i64 vs, .int .i64 vn] 23) = Wv at *
  replace HB := heap_later HN HB
  replace LL := Later.trans LL HN
  obtain ⟨b0, b1, b2, b3, b4, b5, b6, b7, b8, b9, b10, b11, b12⟩ := box13_facts HB
  clear HN hl
  go_upto_region 5 with (go_at_call 16; apply Calls.mono; (focus (with_reducible (exact cE _ (NamesGood.later g LL)))); rintro e wn ⟨rfl, hl⟩; replace HB := heap_later hl HB; replace LL := Later.trans LL hl; obtain ⟨b0, b1, b2, b3, b4, b5, b6, b7, b8, b9, b10, b11, b12⟩ := box13_facts HB)
  clear cR cW cE hl
  have m0 := fun p : After wn => cell_after b0 p
  have m1 := fun p : After wn => cell_after b1 p
  have m2 := fun p : After wn => cell_after b2 p
  have m3 := fun p : After wn => cell_after b3 p
  have m4 := fun p : After wn => cell_after b4 p
  have m5 := fun p : After wn => cell_after b5 p
  have m6 := fun p : After wn => cell_after b6 p
  have m7 := fun p : After wn => cell_after b7 p
  have m8 := fun p : After wn => cell_after b8 p
  have m9 := fun p : After wn => cell_after b9 p
  have m10 := fun p : After wn => cell_after b10 p
  have m11 := fun p : After wn => cell_after b11 p
  have m12 := fun p : After wn => cell_after b12 p
  clear b0 b1 b2 b3 b4 b5 b6 b7 b8 b9 b10 b11 b12
  have ne : Nonempty (After wn) := ⟨⟨wn, Later.refl wn⟩⟩
  refine wp_region_later (by kernel_rfl) (by kernel_rfl) ?_
  repeat (first | go_big_quiet_step ((first | (go_at_call 17; exact Calls.after_of (cP _ (NamesGood.later g (Later.trans LL (After.later _))))) | (go_at_call 18; exact Calls.after_of (cL _ (NamesGood.later g (Later.trans LL (After.later _))))) | (go_at_call 19; exact Calls.after_of (cF _ (NamesGood.later g (Later.trans LL (After.later _))))) | (go_at_call 9; exact Calls.after_of (cl _ (NamesGood.later g (Later.trans LL (After.later _))))))) | quiet_step ((first | (go_at_call 17; exact Calls.after_of (cP _ (NamesGood.later g (Later.trans LL (After.later _))))) | (go_at_call 18; exact Calls.after_of (cL _ (NamesGood.later g (Later.trans LL (After.later _))))) | (go_at_call 19; exact Calls.after_of (cF _ (NamesGood.later g (Later.trans LL (After.later _))))) | (go_at_call 9; exact Calls.after_of (cl _ (NamesGood.later g (Later.trans LL (After.later _))))))))
  refine wpQuiet_nil ?_
  intro _ hw'
  obtain ⟨q, hw''⟩ := hw'
  subst hw''
  go_wp2
  go_ret
  exact ⟨rfl, LL.trans q.later⟩

set_option maxRecDepth 1000000 in
set_option maxHeartbeats 4000000 in
theorem core_2 (w : World) (g : NamesGood w) (ak' aa' ab' ac' an' : Int) (op cond ak ar ay an bk br bs bn uk ur us un vk vr vs vn : Int) (lock : Bool) (dest : ByteArray) (h10 : op ≠ 10) (h12 : op ≠ 12) (h14 : op ≠ 14)
    (cM : ∀ w', Calls Tryd.prog 11 #[.agg #[.int .i64 ak', .int .i64 aa', .int .i64 ab', .int .i64 ac', .int .i64 an'], .int .i64 9] w' fun e w'' => e = .returned (.agg #[.int .i64 op, .bool lock, .int .i64 cond, .int .i64 ak, .int .i64 ar, .int .i64 ay, .int .i64 an, .int .i64 bk, .int .i64 br, .int .i64 bs, .int .i64 bn, .string dest, .slice none 0 0]) ∧ Later w' w'')
    (cR : ∀ w', NamesGood w' → Calls Tryd.prog 14 #[.agg #[.int .i64 op, .bool lock, .int .i64 cond, .int .i64 ak, .int .i64 ar, .int .i64 ay, .int .i64 an, .int .i64 bk, .int .i64 br, .int .i64 bs, .int .i64 bn, .string dest, .slice none 0 0]] w' fun e w'' => e = .returned (.tuple #[.agg #[.int .i64 uk, .int .i64 ur, .int .i64 us, .int .i64 un], .bool true]) ∧ Later w' w'')
    (cW : ∀ w', NamesGood w' → Calls Tryd.prog 15 #[.agg #[.int .i64 op, .bool lock, .int .i64 cond, .int .i64 ak, .int .i64 ar, .int .i64 ay, .int .i64 an, .int .i64 bk, .int .i64 br, .int .i64 bs, .int .i64 bn, .string dest, .slice none 0 0]] w' fun e w'' => e = .returned (.tuple #[.agg #[.int .i64 vk, .int .i64 vr, .int .i64 vs, .int .i64 vn], .bool true]) ∧ Later w' w'')
    (cE : ∀ w', NamesGood w' → Calls Tryd.prog 16 #[.agg #[.int .i64 op, .bool lock, .int .i64 cond, .int .i64 ak, .int .i64 ar, .int .i64 ay, .int .i64 an, .int .i64 bk, .int .i64 br, .int .i64 bs, .int .i64 bn, .string dest, .slice none 0 0]] w' fun e w'' => e = .returned (.tuple #[.bool true, .bool false]) ∧ Later w' w'')
    (cP : ∀ w', NamesGood w' → Calls Tryd.prog 17 #[.agg #[.int .i64 op, .bool lock, .int .i64 cond, .int .i64 ak, .int .i64 ar, .int .i64 ay, .int .i64 an, .int .i64 bk, .int .i64 br, .int .i64 bs, .int .i64 bn, .string dest, .slice none 0 0]] w' fun e w'' => e = .returned (.int .i64 1) ∧ Later w' w'')
    (cL : ∀ w', NamesGood w' → Calls Tryd.prog 18 #[.agg #[.int .i64 op, .bool lock, .int .i64 cond, .int .i64 ak, .int .i64 ar, .int .i64 ay, .int .i64 an, .int .i64 bk, .int .i64 br, .int .i64 bs, .int .i64 bn, .string dest, .slice none 0 0]] w' fun e w'' => e = .returned (.bool true) ∧ Later w' w'')
    (cF : ∀ w', NamesGood w' → Calls Tryd.prog 19 #[.agg #[.int .i64 op, .bool lock, .int .i64 cond, .int .i64 ak, .int .i64 ar, .int .i64 ay, .int .i64 an, .int .i64 bk, .int .i64 br, .int .i64 bs, .int .i64 bn, .string dest, .slice none 0 0]] w' fun e w'' => e = .returned (.bool true) ∧ Later w' w'') :
    Calls Tryd.prog 6 #[.agg #[.int .i64 ak', .int .i64 aa', .int .i64 ab', .int .i64 ac', .int .i64 an']] w fun e w' => e = .returned (.bool true) ∧ Later w w' := by
  have cl := fun w' h => insAlive_any w' h
  have n10 : (op == 10) = false := by simp; exact h10
  have n12 : (op == 12) = false := by simp; exact h12
  have n14 : (op == 14) = false := by simp; exact h14
  clear h10 h12 h14
  have L0 := Later.alloc (Later.refl w) (.cells #[.int .i64 ak', .int .i64 aa', .int .i64 ab', .int .i64 ac', .int .i64 an'] 30)
  have H0 := at_new w (.cells #[.int .i64 ak', .int .i64 aa', .int .i64 ab', .int .i64 ac', .int .i64 an'] 30)
  go_enter Tryd.func6, Tryd.ntmps6
  go_upto_region 1 with (fail)
  obtain ⟨c0, c1, c2, c3, c4⟩ := box5_facts H0
  generalize w.alloc (.cells #[.int .i64 ak', .int .i64 aa', .int .i64 ab', .int .i64 ac', .int .i64 an'] 30) = W0 at *
  go_upto_region 2 with (go_at_call 11; apply Calls.mono; (focus (with_reducible (exact cM _))); rintro e W ⟨rfl, hl0⟩)
  have L1 := L0.trans hl0
  have HB := at_new W (.cells #[.int .i64 op, .bool lock, .int .i64 cond, .int .i64 ak, .int .i64 ar, .int .i64 ay, .int .i64 an, .int .i64 bk, .int .i64 br, .int .i64 bs, .int .i64 bn, .string dest, .slice none 0 0] 26)
  have LL := Later.alloc L1 (.cells #[.int .i64 op, .bool lock, .int .i64 cond, .int .i64 ak, .int .i64 ar, .int .i64 ay, .int .i64 an, .int .i64 bk, .int .i64 br, .int .i64 bs, .int .i64 bn, .string dest, .slice none 0 0] 26)
  generalize W.alloc (.cells #[.int .i64 op, .bool lock, .int .i64 cond, .int .i64 ak, .int .i64 ar, .int .i64 ay, .int .i64 an, .int .i64 bk, .int .i64 br, .int .i64 bs, .int .i64 bn, .string dest, .slice none 0 0] 26) = W2 at *
  generalize W.heap.size = C at *
  clear c0 c1 c2 c3 c4 H0 L0 L1 hl0 cM
  obtain ⟨b0, b1, b2, b3, b4, b5, b6, b7, b8, b9, b10, b11, b12⟩ := box13_facts HB
  go_upto_region 3 with (go_at_call 14; apply Calls.mono; (focus (with_reducible (exact cR _ (NamesGood.later g LL)))); rintro e wn ⟨rfl, hl⟩; replace HB := heap_later hl HB; replace LL := Later.trans LL hl; obtain ⟨b0, b1, b2, b3, b4, b5, b6, b7, b8, b9, b10, b11, b12⟩ := box13_facts HB)
  have HN := Later.alloc (Later.refl wn) (.cells #[.int .i64 uk, .int .i64 ur, .int .i64 us, .int .i64 un] 23)
  generalize wn.alloc (.cells #[.int .i64 uk, .int .i64 ur, .int .i64 us, .int .i64 un] 23) = Wu at *
  replace HB := heap_later HN HB
  replace LL := Later.trans LL HN
  obtain ⟨b0, b1, b2, b3, b4, b5, b6, b7, b8, b9, b10, b11, b12⟩ := box13_facts HB
  clear HN hl
  go_upto_region 4 with (go_at_call 15; apply Calls.mono; (focus (with_reducible (exact cW _ (NamesGood.later g LL)))); rintro e wn ⟨rfl, hl⟩; replace HB := heap_later hl HB; replace LL := Later.trans LL hl; obtain ⟨b0, b1, b2, b3, b4, b5, b6, b7, b8, b9, b10, b11, b12⟩ := box13_facts HB)
  have HN := Later.alloc (Later.refl wn) (.cells #[.int .i64 vk, .int .i64 vr, .int .i64 vs, .int .i64 vn] 23)
  generalize wn.alloc (.cells #[.int .i64 vk, .int .i64 vr, .int .i64 vs, .int .i64 vn] 23) = Wv at *
  replace HB := heap_later HN HB
  replace LL := Later.trans LL HN
  obtain ⟨b0, b1, b2, b3, b4, b5, b6, b7, b8, b9, b10, b11, b12⟩ := box13_facts HB
  clear HN hl
  go_upto_region 5 with (go_at_call 16; apply Calls.mono; (focus (with_reducible (exact cE _ (NamesGood.later g LL)))); rintro e wn ⟨rfl, hl⟩; replace HB := heap_later hl HB; replace LL := Later.trans LL hl; obtain ⟨b0, b1, b2, b3, b4, b5, b6, b7, b8, b9, b10, b11, b12⟩ := box13_facts HB)
  clear cR cW cE hl
  have m0 := fun p : After wn => cell_after b0 p
  have m1 := fun p : After wn => cell_after b1 p
  have m2 := fun p : After wn => cell_after b2 p
  have m3 := fun p : After wn => cell_after b3 p
  have m4 := fun p : After wn => cell_after b4 p
  have m5 := fun p : After wn => cell_after b5 p
  have m6 := fun p : After wn => cell_after b6 p
  have m7 := fun p : After wn => cell_after b7 p
  have m8 := fun p : After wn => cell_after b8 p
  have m9 := fun p : After wn => cell_after b9 p
  have m10 := fun p : After wn => cell_after b10 p
  have m11 := fun p : After wn => cell_after b11 p
  have m12 := fun p : After wn => cell_after b12 p
  clear b0 b1 b2 b3 b4 b5 b6 b7 b8 b9 b10 b11 b12
  have ne : Nonempty (After wn) := ⟨⟨wn, Later.refl wn⟩⟩
  refine wp_region_later (by kernel_rfl) (by kernel_rfl) ?_
  repeat (first | go_big_quiet_step ((first | (go_at_call 17; exact Calls.after_of (cP _ (NamesGood.later g (Later.trans LL (After.later _))))) | (go_at_call 18; exact Calls.after_of (cL _ (NamesGood.later g (Later.trans LL (After.later _))))) | (go_at_call 19; exact Calls.after_of (cF _ (NamesGood.later g (Later.trans LL (After.later _))))) | (go_at_call 9; exact Calls.after_of (cl _ (NamesGood.later g (Later.trans LL (After.later _))))))) | quiet_step ((first | (go_at_call 17; exact Calls.after_of (cP _ (NamesGood.later g (Later.trans LL (After.later _))))) | (go_at_call 18; exact Calls.after_of (cL _ (NamesGood.later g (Later.trans LL (After.later _))))) | (go_at_call 19; exact Calls.after_of (cF _ (NamesGood.later g (Later.trans LL (After.later _))))) | (go_at_call 9; exact Calls.after_of (cl _ (NamesGood.later g (Later.trans LL (After.later _))))))))
  refine wpQuiet_nil ?_
  intro _ hw'
  obtain ⟨q, hw''⟩ := hw'
  subst hw''
  go_wp2
  go_ret
  exact ⟨rfl, LL.trans q.later⟩

set_option maxRecDepth 1000000 in
set_option maxHeartbeats 4000000 in
theorem core_3 (w : World) (g : NamesGood w) (ak' aa' ab' ac' an' : Int) (op cond ak ar ay an bk br bs bn uk ur us un vk vr vs vn : Int) (lock : Bool) (dest : ByteArray) (h10 : op ≠ 10) (h12 : op ≠ 12) (h14 : op ≠ 14)
    (cM : ∀ w', Calls Tryd.prog 11 #[.agg #[.int .i64 ak', .int .i64 aa', .int .i64 ab', .int .i64 ac', .int .i64 an'], .int .i64 9] w' fun e w'' => e = .returned (.agg #[.int .i64 op, .bool lock, .int .i64 cond, .int .i64 ak, .int .i64 ar, .int .i64 ay, .int .i64 an, .int .i64 bk, .int .i64 br, .int .i64 bs, .int .i64 bn, .string dest, .slice none 0 0]) ∧ Later w' w'')
    (cR : ∀ w', NamesGood w' → Calls Tryd.prog 14 #[.agg #[.int .i64 op, .bool lock, .int .i64 cond, .int .i64 ak, .int .i64 ar, .int .i64 ay, .int .i64 an, .int .i64 bk, .int .i64 br, .int .i64 bs, .int .i64 bn, .string dest, .slice none 0 0]] w' fun e w'' => e = .returned (.tuple #[.agg #[.int .i64 uk, .int .i64 ur, .int .i64 us, .int .i64 un], .bool true]) ∧ Later w' w'')
    (cW : ∀ w', NamesGood w' → Calls Tryd.prog 15 #[.agg #[.int .i64 op, .bool lock, .int .i64 cond, .int .i64 ak, .int .i64 ar, .int .i64 ay, .int .i64 an, .int .i64 bk, .int .i64 br, .int .i64 bs, .int .i64 bn, .string dest, .slice none 0 0]] w' fun e w'' => e = .returned (.tuple #[.agg #[.int .i64 vk, .int .i64 vr, .int .i64 vs, .int .i64 vn], .bool false]) ∧ Later w' w'')
    (cE : ∀ w', NamesGood w' → Calls Tryd.prog 16 #[.agg #[.int .i64 op, .bool lock, .int .i64 cond, .int .i64 ak, .int .i64 ar, .int .i64 ay, .int .i64 an, .int .i64 bk, .int .i64 br, .int .i64 bs, .int .i64 bn, .string dest, .slice none 0 0]] w' fun e w'' => e = .returned (.tuple #[.bool true, .bool false]) ∧ Later w' w'')
    (cP : ∀ w', NamesGood w' → Calls Tryd.prog 17 #[.agg #[.int .i64 op, .bool lock, .int .i64 cond, .int .i64 ak, .int .i64 ar, .int .i64 ay, .int .i64 an, .int .i64 bk, .int .i64 br, .int .i64 bs, .int .i64 bn, .string dest, .slice none 0 0]] w' fun e w'' => e = .returned (.int .i64 1) ∧ Later w' w'')
    (cL : ∀ w', NamesGood w' → Calls Tryd.prog 18 #[.agg #[.int .i64 op, .bool lock, .int .i64 cond, .int .i64 ak, .int .i64 ar, .int .i64 ay, .int .i64 an, .int .i64 bk, .int .i64 br, .int .i64 bs, .int .i64 bn, .string dest, .slice none 0 0]] w' fun e w'' => e = .returned (.bool false) ∧ Later w' w'')
    (cF : ∀ w', NamesGood w' → Calls Tryd.prog 19 #[.agg #[.int .i64 op, .bool lock, .int .i64 cond, .int .i64 ak, .int .i64 ar, .int .i64 ay, .int .i64 an, .int .i64 bk, .int .i64 br, .int .i64 bs, .int .i64 bn, .string dest, .slice none 0 0]] w' fun e w'' => e = .returned (.bool false) ∧ Later w' w'') :
    Calls Tryd.prog 6 #[.agg #[.int .i64 ak', .int .i64 aa', .int .i64 ab', .int .i64 ac', .int .i64 an']] w fun e w' => e = .returned (.bool true) ∧ Later w w' := by
  have cl := fun w' h => insAlive_any w' h
  have n10 : (op == 10) = false := by simp; exact h10
  have n12 : (op == 12) = false := by simp; exact h12
  have n14 : (op == 14) = false := by simp; exact h14
  clear h10 h12 h14
  have L0 := Later.alloc (Later.refl w) (.cells #[.int .i64 ak', .int .i64 aa', .int .i64 ab', .int .i64 ac', .int .i64 an'] 30)
  have H0 := at_new w (.cells #[.int .i64 ak', .int .i64 aa', .int .i64 ab', .int .i64 ac', .int .i64 an'] 30)
  go_enter Tryd.func6, Tryd.ntmps6
  go_upto_region 1 with (fail)
  obtain ⟨c0, c1, c2, c3, c4⟩ := box5_facts H0
  generalize w.alloc (.cells #[.int .i64 ak', .int .i64 aa', .int .i64 ab', .int .i64 ac', .int .i64 an'] 30) = W0 at *
  go_upto_region 2 with (go_at_call 11; apply Calls.mono; (focus (with_reducible (exact cM _))); rintro e W ⟨rfl, hl0⟩)
  have L1 := L0.trans hl0
  have HB := at_new W (.cells #[.int .i64 op, .bool lock, .int .i64 cond, .int .i64 ak, .int .i64 ar, .int .i64 ay, .int .i64 an, .int .i64 bk, .int .i64 br, .int .i64 bs, .int .i64 bn, .string dest, .slice none 0 0] 26)
  have LL := Later.alloc L1 (.cells #[.int .i64 op, .bool lock, .int .i64 cond, .int .i64 ak, .int .i64 ar, .int .i64 ay, .int .i64 an, .int .i64 bk, .int .i64 br, .int .i64 bs, .int .i64 bn, .string dest, .slice none 0 0] 26)
  generalize W.alloc (.cells #[.int .i64 op, .bool lock, .int .i64 cond, .int .i64 ak, .int .i64 ar, .int .i64 ay, .int .i64 an, .int .i64 bk, .int .i64 br, .int .i64 bs, .int .i64 bn, .string dest, .slice none 0 0] 26) = W2 at *
  generalize W.heap.size = C at *
  clear c0 c1 c2 c3 c4 H0 L0 L1 hl0 cM
  obtain ⟨b0, b1, b2, b3, b4, b5, b6, b7, b8, b9, b10, b11, b12⟩ := box13_facts HB
  go_upto_region 3 with (go_at_call 14; apply Calls.mono; (focus (with_reducible (exact cR _ (NamesGood.later g LL)))); rintro e wn ⟨rfl, hl⟩; replace HB := heap_later hl HB; replace LL := Later.trans LL hl; obtain ⟨b0, b1, b2, b3, b4, b5, b6, b7, b8, b9, b10, b11, b12⟩ := box13_facts HB)
  have HN := Later.alloc (Later.refl wn) (.cells #[.int .i64 uk, .int .i64 ur, .int .i64 us, .int .i64 un] 23)
  generalize wn.alloc (.cells #[.int .i64 uk, .int .i64 ur, .int .i64 us, .int .i64 un] 23) = Wu at *
  replace HB := heap_later HN HB
  replace LL := Later.trans LL HN
  obtain ⟨b0, b1, b2, b3, b4, b5, b6, b7, b8, b9, b10, b11, b12⟩ := box13_facts HB
  clear HN hl
  go_upto_region 4 with (go_at_call 15; apply Calls.mono; (focus (with_reducible (exact cW _ (NamesGood.later g LL)))); rintro e wn ⟨rfl, hl⟩; replace HB := heap_later hl HB; replace LL := Later.trans LL hl; obtain ⟨b0, b1, b2, b3, b4, b5, b6, b7, b8, b9, b10, b11, b12⟩ := box13_facts HB)
  have HN := Later.alloc (Later.refl wn) (.cells #[.int .i64 vk, .int .i64 vr, .int .i64 vs, .int .i64 vn] 23)
  generalize wn.alloc (.cells #[.int .i64 vk, .int .i64 vr, .int .i64 vs, .int .i64 vn] 23) = Wv at *
  replace HB := heap_later HN HB
  replace LL := Later.trans LL HN
  obtain ⟨b0, b1, b2, b3, b4, b5, b6, b7, b8, b9, b10, b11, b12⟩ := box13_facts HB
  clear HN hl
  go_upto_region 5 with (go_at_call 16; apply Calls.mono; (focus (with_reducible (exact cE _ (NamesGood.later g LL)))); rintro e wn ⟨rfl, hl⟩; replace HB := heap_later hl HB; replace LL := Later.trans LL hl; obtain ⟨b0, b1, b2, b3, b4, b5, b6, b7, b8, b9, b10, b11, b12⟩ := box13_facts HB)
  clear cR cW cE hl
  have m0 := fun p : After wn => cell_after b0 p
  have m1 := fun p : After wn => cell_after b1 p
  have m2 := fun p : After wn => cell_after b2 p
  have m3 := fun p : After wn => cell_after b3 p
  have m4 := fun p : After wn => cell_after b4 p
  have m5 := fun p : After wn => cell_after b5 p
  have m6 := fun p : After wn => cell_after b6 p
  have m7 := fun p : After wn => cell_after b7 p
  have m8 := fun p : After wn => cell_after b8 p
  have m9 := fun p : After wn => cell_after b9 p
  have m10 := fun p : After wn => cell_after b10 p
  have m11 := fun p : After wn => cell_after b11 p
  have m12 := fun p : After wn => cell_after b12 p
  clear b0 b1 b2 b3 b4 b5 b6 b7 b8 b9 b10 b11 b12
  have ne : Nonempty (After wn) := ⟨⟨wn, Later.refl wn⟩⟩
  refine wp_region_later (by kernel_rfl) (by kernel_rfl) ?_
  repeat (first | go_big_quiet_step ((first | (go_at_call 17; exact Calls.after_of (cP _ (NamesGood.later g (Later.trans LL (After.later _))))) | (go_at_call 18; exact Calls.after_of (cL _ (NamesGood.later g (Later.trans LL (After.later _))))) | (go_at_call 19; exact Calls.after_of (cF _ (NamesGood.later g (Later.trans LL (After.later _))))) | (go_at_call 9; exact Calls.after_of (cl _ (NamesGood.later g (Later.trans LL (After.later _))))))) | quiet_step ((first | (go_at_call 17; exact Calls.after_of (cP _ (NamesGood.later g (Later.trans LL (After.later _))))) | (go_at_call 18; exact Calls.after_of (cL _ (NamesGood.later g (Later.trans LL (After.later _))))) | (go_at_call 19; exact Calls.after_of (cF _ (NamesGood.later g (Later.trans LL (After.later _))))) | (go_at_call 9; exact Calls.after_of (cl _ (NamesGood.later g (Later.trans LL (After.later _))))))))
  refine wpQuiet_nil ?_
  intro _ hw'
  obtain ⟨q, hw''⟩ := hw'
  subst hw''
  go_wp2
  go_ret
  exact ⟨rfl, LL.trans q.later⟩

set_option maxRecDepth 1000000 in
set_option maxHeartbeats 4000000 in
theorem core_4 (w : World) (g : NamesGood w) (ak' aa' ab' ac' an' : Int) (op cond ak ar ay an bk br bs bn uk ur us un vk vr vs vn : Int) (lock : Bool) (dest : ByteArray) (h10 : op ≠ 10) (h12 : op ≠ 12) (h14 : op ≠ 14)
    (cM : ∀ w', Calls Tryd.prog 11 #[.agg #[.int .i64 ak', .int .i64 aa', .int .i64 ab', .int .i64 ac', .int .i64 an'], .int .i64 9] w' fun e w'' => e = .returned (.agg #[.int .i64 op, .bool lock, .int .i64 cond, .int .i64 ak, .int .i64 ar, .int .i64 ay, .int .i64 an, .int .i64 bk, .int .i64 br, .int .i64 bs, .int .i64 bn, .string dest, .slice none 0 0]) ∧ Later w' w'')
    (cR : ∀ w', NamesGood w' → Calls Tryd.prog 14 #[.agg #[.int .i64 op, .bool lock, .int .i64 cond, .int .i64 ak, .int .i64 ar, .int .i64 ay, .int .i64 an, .int .i64 bk, .int .i64 br, .int .i64 bs, .int .i64 bn, .string dest, .slice none 0 0]] w' fun e w'' => e = .returned (.tuple #[.agg #[.int .i64 uk, .int .i64 ur, .int .i64 us, .int .i64 un], .bool false]) ∧ Later w' w'')
    (cW : ∀ w', NamesGood w' → Calls Tryd.prog 15 #[.agg #[.int .i64 op, .bool lock, .int .i64 cond, .int .i64 ak, .int .i64 ar, .int .i64 ay, .int .i64 an, .int .i64 bk, .int .i64 br, .int .i64 bs, .int .i64 bn, .string dest, .slice none 0 0]] w' fun e w'' => e = .returned (.tuple #[.agg #[.int .i64 vk, .int .i64 vr, .int .i64 vs, .int .i64 vn], .bool true]) ∧ Later w' w'')
    (cE : ∀ w', NamesGood w' → Calls Tryd.prog 16 #[.agg #[.int .i64 op, .bool lock, .int .i64 cond, .int .i64 ak, .int .i64 ar, .int .i64 ay, .int .i64 an, .int .i64 bk, .int .i64 br, .int .i64 bs, .int .i64 bn, .string dest, .slice none 0 0]] w' fun e w'' => e = .returned (.tuple #[.bool true, .bool false]) ∧ Later w' w'')
    (cP : ∀ w', NamesGood w' → Calls Tryd.prog 17 #[.agg #[.int .i64 op, .bool lock, .int .i64 cond, .int .i64 ak, .int .i64 ar, .int .i64 ay, .int .i64 an, .int .i64 bk, .int .i64 br, .int .i64 bs, .int .i64 bn, .string dest, .slice none 0 0]] w' fun e w'' => e = .returned (.int .i64 1) ∧ Later w' w'')
    (cL : ∀ w', NamesGood w' → Calls Tryd.prog 18 #[.agg #[.int .i64 op, .bool lock, .int .i64 cond, .int .i64 ak, .int .i64 ar, .int .i64 ay, .int .i64 an, .int .i64 bk, .int .i64 br, .int .i64 bs, .int .i64 bn, .string dest, .slice none 0 0]] w' fun e w'' => e = .returned (.bool false) ∧ Later w' w'')
    (cF : ∀ w', NamesGood w' → Calls Tryd.prog 19 #[.agg #[.int .i64 op, .bool lock, .int .i64 cond, .int .i64 ak, .int .i64 ar, .int .i64 ay, .int .i64 an, .int .i64 bk, .int .i64 br, .int .i64 bs, .int .i64 bn, .string dest, .slice none 0 0]] w' fun e w'' => e = .returned (.bool false) ∧ Later w' w'') :
    Calls Tryd.prog 6 #[.agg #[.int .i64 ak', .int .i64 aa', .int .i64 ab', .int .i64 ac', .int .i64 an']] w fun e w' => e = .returned (.bool true) ∧ Later w w' := by
  have cl := fun w' h => insAlive_any w' h
  have n10 : (op == 10) = false := by simp; exact h10
  have n12 : (op == 12) = false := by simp; exact h12
  have n14 : (op == 14) = false := by simp; exact h14
  clear h10 h12 h14
  have L0 := Later.alloc (Later.refl w) (.cells #[.int .i64 ak', .int .i64 aa', .int .i64 ab', .int .i64 ac', .int .i64 an'] 30)
  have H0 := at_new w (.cells #[.int .i64 ak', .int .i64 aa', .int .i64 ab', .int .i64 ac', .int .i64 an'] 30)
  go_enter Tryd.func6, Tryd.ntmps6
  go_upto_region 1 with (fail)
  obtain ⟨c0, c1, c2, c3, c4⟩ := box5_facts H0
  generalize w.alloc (.cells #[.int .i64 ak', .int .i64 aa', .int .i64 ab', .int .i64 ac', .int .i64 an'] 30) = W0 at *
  go_upto_region 2 with (go_at_call 11; apply Calls.mono; (focus (with_reducible (exact cM _))); rintro e W ⟨rfl, hl0⟩)
  have L1 := L0.trans hl0
  have HB := at_new W (.cells #[.int .i64 op, .bool lock, .int .i64 cond, .int .i64 ak, .int .i64 ar, .int .i64 ay, .int .i64 an, .int .i64 bk, .int .i64 br, .int .i64 bs, .int .i64 bn, .string dest, .slice none 0 0] 26)
  have LL := Later.alloc L1 (.cells #[.int .i64 op, .bool lock, .int .i64 cond, .int .i64 ak, .int .i64 ar, .int .i64 ay, .int .i64 an, .int .i64 bk, .int .i64 br, .int .i64 bs, .int .i64 bn, .string dest, .slice none 0 0] 26)
  generalize W.alloc (.cells #[.int .i64 op, .bool lock, .int .i64 cond, .int .i64 ak, .int .i64 ar, .int .i64 ay, .int .i64 an, .int .i64 bk, .int .i64 br, .int .i64 bs, .int .i64 bn, .string dest, .slice none 0 0] 26) = W2 at *
  generalize W.heap.size = C at *
  clear c0 c1 c2 c3 c4 H0 L0 L1 hl0 cM
  obtain ⟨b0, b1, b2, b3, b4, b5, b6, b7, b8, b9, b10, b11, b12⟩ := box13_facts HB
  go_upto_region 3 with (go_at_call 14; apply Calls.mono; (focus (with_reducible (exact cR _ (NamesGood.later g LL)))); rintro e wn ⟨rfl, hl⟩; replace HB := heap_later hl HB; replace LL := Later.trans LL hl; obtain ⟨b0, b1, b2, b3, b4, b5, b6, b7, b8, b9, b10, b11, b12⟩ := box13_facts HB)
  have HN := Later.alloc (Later.refl wn) (.cells #[.int .i64 uk, .int .i64 ur, .int .i64 us, .int .i64 un] 23)
  generalize wn.alloc (.cells #[.int .i64 uk, .int .i64 ur, .int .i64 us, .int .i64 un] 23) = Wu at *
  replace HB := heap_later HN HB
  replace LL := Later.trans LL HN
  obtain ⟨b0, b1, b2, b3, b4, b5, b6, b7, b8, b9, b10, b11, b12⟩ := box13_facts HB
  clear HN hl
  go_upto_region 4 with (go_at_call 15; apply Calls.mono; (focus (with_reducible (exact cW _ (NamesGood.later g LL)))); rintro e wn ⟨rfl, hl⟩; replace HB := heap_later hl HB; replace LL := Later.trans LL hl; obtain ⟨b0, b1, b2, b3, b4, b5, b6, b7, b8, b9, b10, b11, b12⟩ := box13_facts HB)
  have HN := Later.alloc (Later.refl wn) (.cells #[.int .i64 vk, .int .i64 vr, .int .i64 vs, .int .i64 vn] 23)
  generalize wn.alloc (.cells #[.int .i64 vk, .int .i64 vr, .int .i64 vs, .int .i64 vn] 23) = Wv at *
  replace HB := heap_later HN HB
  replace LL := Later.trans LL HN
  obtain ⟨b0, b1, b2, b3, b4, b5, b6, b7, b8, b9, b10, b11, b12⟩ := box13_facts HB
  clear HN hl
  go_upto_region 5 with (go_at_call 16; apply Calls.mono; (focus (with_reducible (exact cE _ (NamesGood.later g LL)))); rintro e wn ⟨rfl, hl⟩; replace HB := heap_later hl HB; replace LL := Later.trans LL hl; obtain ⟨b0, b1, b2, b3, b4, b5, b6, b7, b8, b9, b10, b11, b12⟩ := box13_facts HB)
  clear cR cW cE hl
  have m0 := fun p : After wn => cell_after b0 p
  have m1 := fun p : After wn => cell_after b1 p
  have m2 := fun p : After wn => cell_after b2 p
  have m3 := fun p : After wn => cell_after b3 p
  have m4 := fun p : After wn => cell_after b4 p
  have m5 := fun p : After wn => cell_after b5 p
  have m6 := fun p : After wn => cell_after b6 p
  have m7 := fun p : After wn => cell_after b7 p
  have m8 := fun p : After wn => cell_after b8 p
  have m9 := fun p : After wn => cell_after b9 p
  have m10 := fun p : After wn => cell_after b10 p
  have m11 := fun p : After wn => cell_after b11 p
  have m12 := fun p : After wn => cell_after b12 p
  clear b0 b1 b2 b3 b4 b5 b6 b7 b8 b9 b10 b11 b12
  have ne : Nonempty (After wn) := ⟨⟨wn, Later.refl wn⟩⟩
  refine wp_region_later (by kernel_rfl) (by kernel_rfl) ?_
  repeat (first | go_big_quiet_step ((first | (go_at_call 17; exact Calls.after_of (cP _ (NamesGood.later g (Later.trans LL (After.later _))))) | (go_at_call 18; exact Calls.after_of (cL _ (NamesGood.later g (Later.trans LL (After.later _))))) | (go_at_call 19; exact Calls.after_of (cF _ (NamesGood.later g (Later.trans LL (After.later _))))) | (go_at_call 9; exact Calls.after_of (cl _ (NamesGood.later g (Later.trans LL (After.later _))))))) | quiet_step ((first | (go_at_call 17; exact Calls.after_of (cP _ (NamesGood.later g (Later.trans LL (After.later _))))) | (go_at_call 18; exact Calls.after_of (cL _ (NamesGood.later g (Later.trans LL (After.later _))))) | (go_at_call 19; exact Calls.after_of (cF _ (NamesGood.later g (Later.trans LL (After.later _))))) | (go_at_call 9; exact Calls.after_of (cl _ (NamesGood.later g (Later.trans LL (After.later _))))))))
  refine wpQuiet_nil ?_
  intro _ hw'
  obtain ⟨q, hw''⟩ := hw'
  subst hw''
  go_wp2
  go_ret
  exact ⟨rfl, LL.trans q.later⟩

set_option maxRecDepth 1000000 in
set_option maxHeartbeats 4000000 in
theorem core_5 (w : World) (g : NamesGood w) (ak' aa' ab' ac' an' : Int) (op cond ak ar ay an bk br bs bn uk ur us un vk vr vs vn : Int) (lock : Bool) (dest : ByteArray) (h10 : op ≠ 10) (h12 : op ≠ 12) (h14 : op ≠ 14)
    (cM : ∀ w', Calls Tryd.prog 11 #[.agg #[.int .i64 ak', .int .i64 aa', .int .i64 ab', .int .i64 ac', .int .i64 an'], .int .i64 9] w' fun e w'' => e = .returned (.agg #[.int .i64 op, .bool lock, .int .i64 cond, .int .i64 ak, .int .i64 ar, .int .i64 ay, .int .i64 an, .int .i64 bk, .int .i64 br, .int .i64 bs, .int .i64 bn, .string dest, .slice none 0 0]) ∧ Later w' w'')
    (cR : ∀ w', NamesGood w' → Calls Tryd.prog 14 #[.agg #[.int .i64 op, .bool lock, .int .i64 cond, .int .i64 ak, .int .i64 ar, .int .i64 ay, .int .i64 an, .int .i64 bk, .int .i64 br, .int .i64 bs, .int .i64 bn, .string dest, .slice none 0 0]] w' fun e w'' => e = .returned (.tuple #[.agg #[.int .i64 uk, .int .i64 ur, .int .i64 us, .int .i64 un], .bool false]) ∧ Later w' w'')
    (cW : ∀ w', NamesGood w' → Calls Tryd.prog 15 #[.agg #[.int .i64 op, .bool lock, .int .i64 cond, .int .i64 ak, .int .i64 ar, .int .i64 ay, .int .i64 an, .int .i64 bk, .int .i64 br, .int .i64 bs, .int .i64 bn, .string dest, .slice none 0 0]] w' fun e w'' => e = .returned (.tuple #[.agg #[.int .i64 vk, .int .i64 vr, .int .i64 vs, .int .i64 vn], .bool false]) ∧ Later w' w'')
    (cE : ∀ w', NamesGood w' → Calls Tryd.prog 16 #[.agg #[.int .i64 op, .bool lock, .int .i64 cond, .int .i64 ak, .int .i64 ar, .int .i64 ay, .int .i64 an, .int .i64 bk, .int .i64 br, .int .i64 bs, .int .i64 bn, .string dest, .slice none 0 0]] w' fun e w'' => e = .returned (.tuple #[.bool true, .bool false]) ∧ Later w' w'')
    (cP : ∀ w', NamesGood w' → Calls Tryd.prog 17 #[.agg #[.int .i64 op, .bool lock, .int .i64 cond, .int .i64 ak, .int .i64 ar, .int .i64 ay, .int .i64 an, .int .i64 bk, .int .i64 br, .int .i64 bs, .int .i64 bn, .string dest, .slice none 0 0]] w' fun e w'' => e = .returned (.int .i64 1) ∧ Later w' w'')
    (cL : ∀ w', NamesGood w' → Calls Tryd.prog 18 #[.agg #[.int .i64 op, .bool lock, .int .i64 cond, .int .i64 ak, .int .i64 ar, .int .i64 ay, .int .i64 an, .int .i64 bk, .int .i64 br, .int .i64 bs, .int .i64 bn, .string dest, .slice none 0 0]] w' fun e w'' => e = .returned (.bool false) ∧ Later w' w'')
    (cF : ∀ w', NamesGood w' → Calls Tryd.prog 19 #[.agg #[.int .i64 op, .bool lock, .int .i64 cond, .int .i64 ak, .int .i64 ar, .int .i64 ay, .int .i64 an, .int .i64 bk, .int .i64 br, .int .i64 bs, .int .i64 bn, .string dest, .slice none 0 0]] w' fun e w'' => e = .returned (.bool false) ∧ Later w' w'') :
    Calls Tryd.prog 6 #[.agg #[.int .i64 ak', .int .i64 aa', .int .i64 ab', .int .i64 ac', .int .i64 an']] w fun e w' => e = .returned (.bool true) ∧ Later w w' := by
  have cl := fun w' h => insAlive_any w' h
  have n10 : (op == 10) = false := by simp; exact h10
  have n12 : (op == 12) = false := by simp; exact h12
  have n14 : (op == 14) = false := by simp; exact h14
  clear h10 h12 h14
  have L0 := Later.alloc (Later.refl w) (.cells #[.int .i64 ak', .int .i64 aa', .int .i64 ab', .int .i64 ac', .int .i64 an'] 30)
  have H0 := at_new w (.cells #[.int .i64 ak', .int .i64 aa', .int .i64 ab', .int .i64 ac', .int .i64 an'] 30)
  go_enter Tryd.func6, Tryd.ntmps6
  go_upto_region 1 with (fail)
  obtain ⟨c0, c1, c2, c3, c4⟩ := box5_facts H0
  generalize w.alloc (.cells #[.int .i64 ak', .int .i64 aa', .int .i64 ab', .int .i64 ac', .int .i64 an'] 30) = W0 at *
  go_upto_region 2 with (go_at_call 11; apply Calls.mono; (focus (with_reducible (exact cM _))); rintro e W ⟨rfl, hl0⟩)
  have L1 := L0.trans hl0
  have HB := at_new W (.cells #[.int .i64 op, .bool lock, .int .i64 cond, .int .i64 ak, .int .i64 ar, .int .i64 ay, .int .i64 an, .int .i64 bk, .int .i64 br, .int .i64 bs, .int .i64 bn, .string dest, .slice none 0 0] 26)
  have LL := Later.alloc L1 (.cells #[.int .i64 op, .bool lock, .int .i64 cond, .int .i64 ak, .int .i64 ar, .int .i64 ay, .int .i64 an, .int .i64 bk, .int .i64 br, .int .i64 bs, .int .i64 bn, .string dest, .slice none 0 0] 26)
  generalize W.alloc (.cells #[.int .i64 op, .bool lock, .int .i64 cond, .int .i64 ak, .int .i64 ar, .int .i64 ay, .int .i64 an, .int .i64 bk, .int .i64 br, .int .i64 bs, .int .i64 bn, .string dest, .slice none 0 0] 26) = W2 at *
  generalize W.heap.size = C at *
  clear c0 c1 c2 c3 c4 H0 L0 L1 hl0 cM
  obtain ⟨b0, b1, b2, b3, b4, b5, b6, b7, b8, b9, b10, b11, b12⟩ := box13_facts HB
  go_upto_region 3 with (go_at_call 14; apply Calls.mono; (focus (with_reducible (exact cR _ (NamesGood.later g LL)))); rintro e wn ⟨rfl, hl⟩; replace HB := heap_later hl HB; replace LL := Later.trans LL hl; obtain ⟨b0, b1, b2, b3, b4, b5, b6, b7, b8, b9, b10, b11, b12⟩ := box13_facts HB)
  have HN := Later.alloc (Later.refl wn) (.cells #[.int .i64 uk, .int .i64 ur, .int .i64 us, .int .i64 un] 23)
  generalize wn.alloc (.cells #[.int .i64 uk, .int .i64 ur, .int .i64 us, .int .i64 un] 23) = Wu at *
  replace HB := heap_later HN HB
  replace LL := Later.trans LL HN
  obtain ⟨b0, b1, b2, b3, b4, b5, b6, b7, b8, b9, b10, b11, b12⟩ := box13_facts HB
  clear HN hl
  go_upto_region 4 with (go_at_call 15; apply Calls.mono; (focus (with_reducible (exact cW _ (NamesGood.later g LL)))); rintro e wn ⟨rfl, hl⟩; replace HB := heap_later hl HB; replace LL := Later.trans LL hl; obtain ⟨b0, b1, b2, b3, b4, b5, b6, b7, b8, b9, b10, b11, b12⟩ := box13_facts HB)
  have HN := Later.alloc (Later.refl wn) (.cells #[.int .i64 vk, .int .i64 vr, .int .i64 vs, .int .i64 vn] 23)
  generalize wn.alloc (.cells #[.int .i64 vk, .int .i64 vr, .int .i64 vs, .int .i64 vn] 23) = Wv at *
  replace HB := heap_later HN HB
  replace LL := Later.trans LL HN
  obtain ⟨b0, b1, b2, b3, b4, b5, b6, b7, b8, b9, b10, b11, b12⟩ := box13_facts HB
  clear HN hl
  go_upto_region 5 with (go_at_call 16; apply Calls.mono; (focus (with_reducible (exact cE _ (NamesGood.later g LL)))); rintro e wn ⟨rfl, hl⟩; replace HB := heap_later hl HB; replace LL := Later.trans LL hl; obtain ⟨b0, b1, b2, b3, b4, b5, b6, b7, b8, b9, b10, b11, b12⟩ := box13_facts HB)
  clear cR cW cE hl
  have m0 := fun p : After wn => cell_after b0 p
  have m1 := fun p : After wn => cell_after b1 p
  have m2 := fun p : After wn => cell_after b2 p
  have m3 := fun p : After wn => cell_after b3 p
  have m4 := fun p : After wn => cell_after b4 p
  have m5 := fun p : After wn => cell_after b5 p
  have m6 := fun p : After wn => cell_after b6 p
  have m7 := fun p : After wn => cell_after b7 p
  have m8 := fun p : After wn => cell_after b8 p
  have m9 := fun p : After wn => cell_after b9 p
  have m10 := fun p : After wn => cell_after b10 p
  have m11 := fun p : After wn => cell_after b11 p
  have m12 := fun p : After wn => cell_after b12 p
  clear b0 b1 b2 b3 b4 b5 b6 b7 b8 b9 b10 b11 b12
  have ne : Nonempty (After wn) := ⟨⟨wn, Later.refl wn⟩⟩
  refine wp_region_later (by kernel_rfl) (by kernel_rfl) ?_
  repeat (first | go_big_quiet_step ((first | (go_at_call 17; exact Calls.after_of (cP _ (NamesGood.later g (Later.trans LL (After.later _))))) | (go_at_call 18; exact Calls.after_of (cL _ (NamesGood.later g (Later.trans LL (After.later _))))) | (go_at_call 19; exact Calls.after_of (cF _ (NamesGood.later g (Later.trans LL (After.later _))))) | (go_at_call 9; exact Calls.after_of (cl _ (NamesGood.later g (Later.trans LL (After.later _))))))) | quiet_step ((first | (go_at_call 17; exact Calls.after_of (cP _ (NamesGood.later g (Later.trans LL (After.later _))))) | (go_at_call 18; exact Calls.after_of (cL _ (NamesGood.later g (Later.trans LL (After.later _))))) | (go_at_call 19; exact Calls.after_of (cF _ (NamesGood.later g (Later.trans LL (After.later _))))) | (go_at_call 9; exact Calls.after_of (cl _ (NamesGood.later g (Later.trans LL (After.later _))))))))
  refine wpQuiet_nil ?_
  intro _ hw'
  obtain ⟨q, hw''⟩ := hw'
  subst hw''
  go_wp2
  go_ret
  exact ⟨rfl, LL.trans q.later⟩

end Go.Proofs.YtginggelbfbcfaaDoor
