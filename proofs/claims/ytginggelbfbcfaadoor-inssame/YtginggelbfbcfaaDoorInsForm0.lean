/-
  What package ins's functions over an instruction return: whether it has nothing that jumps alone have, no operands, those of a move, of an exchange; whether it is a row's; and what is wrong with it. Nothing that was in memory turns. Conditions: the listed tables stand as the program's text lays them; its name has at most 1000 bytes.
-/
import Derived.Test.YtginggelbfbcfaaDoorInsSmall
import Derived.Test.YtginggelbfbcfaaDoorRefIns
namespace Go.Proofs.YtginggelbfbcfaaDoor
open Go.RowKit
set_option linter.unusedVariables false
set_option linter.unusedSimpArgs false

def bareF (x : Ins) : Bool := decide (x.cond = 0) && x.dest.data.toList.isEmpty
def aloneF (x : Ins) : Bool := opdZero x.a && opdZero x.b && !x.lock
def movesF (x : Ins) : Bool := if isRegO x.a = true then isPlainO x.b || isMemO x.b else isMemO x.a && isPlainO x.b
def swapsF (x : Ins) : Bool := isMemO x.a && isRegO x.b
def formedF (x : Ins) : Bool :=
  if x.op = 1 ∨ x.op = 7 then bareF x && movesF x && !x.lock
  else if 2 ≤ x.op ∧ x.op ≤ 6 then bareF x && movesF x && (!x.lock || isMemO x.a)
  else if x.op = 8 then bareF x && swapsF x && !x.lock
  else if x.op = 9 then bareF x && swapsF x && x.lock
  else if x.op = 10 then aloneF x && decide (x.cond = 0)
  else if x.op = 11 then aloneF x && decide (1 ≤ x.cond) && decide (x.cond ≤ 10)
  else if 12 ≤ x.op ∧ x.op ≤ 14 then aloneF x && bareF x
  else false

set_option maxRecDepth 1000000 in
set_option maxHeartbeats 4000000 in
theorem insBare_any (x : Ins) (w : World) :
    Calls Tryd.prog 44 #[x.val] w fun e w' => e = .returned (.bool (bareF x)) ∧ Later w w' := by
  unfold bareF
  obtain ⟨op, lock, cond, ⟨ak, ar, ay, an⟩, ⟨bk, br, bs, bn⟩, dest, lb⟩ := x
  unfold Ins.val Ins.cells at *
  try unfold Opd.val at *
  dsimp only at *
  have he : dest.toList.isEmpty = dest.data.toList.isEmpty := by rw [ByteArray.toList_eq]
  generalize dest.data.toList.isEmpty = em at *
  rcases Decidable.em (cond = 0) with rfl | hc
  all_goals go_enter Tryd.func44, Tryd.ntmps44
  all_goals go_wp2
  all_goals go_ret
  all_goals exact ⟨ret_bool (by simp_all), Later.alloc (Later.refl _) _⟩

set_option maxRecDepth 1000000 in
set_option maxHeartbeats 4000000 in
theorem insAlone_any (x : Ins) (w : World) :
    Calls Tryd.prog 47 #[x.val] w fun e w' => e = .returned (.bool (aloneF x)) ∧ Later w w' := by
  unfold aloneF opdZero
  obtain ⟨op, lock, cond, ⟨ak, ar, ay, an⟩, ⟨bk, br, bs, bn⟩, dest, lb⟩ := x
  unfold Ins.val Ins.cells at *
  try unfold Opd.val at *
  dsimp only at *
  go_enter Tryd.func47, Tryd.ntmps47
  go_wp2
  all_goals go_ret
  all_goals exact ⟨ret_bool (by simp_all), Later.alloc (Later.refl _) _⟩

set_option maxRecDepth 1000000 in
set_option maxHeartbeats 4000000 in
theorem insSwaps_any (x : Ins) (w : World) (hG : Tab w 2 regsT) :
    Calls Tryd.prog 46 #[x.val] w fun e w' => e = .returned (.bool (swapsF x)) ∧ Later w w' := by
  have c1 := fun w' h => insIsMemory_any x.a w' h
  have c2 := fun w' h => insIsReg_any x.b w' h
  unfold swapsF
  generalize isMemO x.a = ma at *
  generalize isRegO x.b = rb at *
  obtain ⟨op, lock, cond, ⟨ak, ar, ay, an⟩, ⟨bk, br, bs, bn⟩, dest, lb⟩ := x
  unfold Ins.val Ins.cells at *
  try unfold Opd.val at *
  dsimp only at *
  have LL := Later.alloc (Later.refl w) (.cells #[.int .i64 op, .bool lock, .int .i64 cond, .int .i64 ak, .int .i64 ar, .int .i64 ay, .int .i64 an, .int .i64 bk, .int .i64 br, .int .i64 bs, .int .i64 bn, .string dest, lb] 26)
  have HB := at_new w (.cells #[.int .i64 op, .bool lock, .int .i64 cond, .int .i64 ak, .int .i64 ar, .int .i64 ay, .int .i64 an, .int .i64 bk, .int .i64 br, .int .i64 bs, .int .i64 bn, .string dest, lb] 26)
  have HG := hG.later LL
  clear hG
  go_enter Tryd.func46, Tryd.ntmps46
  go_upto_region 1 with (fail)
  obtain ⟨b0, b1, b2, b3, b4, b5, b6, b7, b8, b9, b10, b11, b12⟩ := box13_facts HB
  generalize w.alloc (.cells #[.int .i64 op, .bool lock, .int .i64 cond, .int .i64 ak, .int .i64 ar, .int .i64 ay, .int .i64 an, .int .i64 bk, .int .i64 br, .int .i64 bs, .int .i64 bn, .string dest, lb] 26) = W at *
  cases ma
  all_goals go_wp2_with (first | (go_at_call 37; apply Calls.mono; (focus (with_reducible (exact c1 _ HG))); rintro e wn ⟨rfl, hl⟩; replace HB := heap_later hl HB; replace HG := HG.later hl; replace LL := Later.trans LL hl; obtain ⟨b0, b1, b2, b3, b4, b5, b6, b7, b8, b9, b10, b11, b12⟩ := box13_facts HB) | (go_at_call 59; apply Calls.mono; (focus (with_reducible (exact c2 _ HG))); rintro e wn ⟨rfl, hl⟩; replace HB := heap_later hl HB; replace HG := HG.later hl; replace LL := Later.trans LL hl; obtain ⟨b0, b1, b2, b3, b4, b5, b6, b7, b8, b9, b10, b11, b12⟩ := box13_facts HB))
  all_goals go_ret
  all_goals exact ⟨ret_bool (by first | rfl | (simp; done) | (simp_all; done) | (simp; omega)), LL⟩

set_option maxRecDepth 1000000 in
set_option maxHeartbeats 4000000 in
theorem insMoves_any (x : Ins) (w : World) (hG : Tab w 2 regsT) :
    Calls Tryd.prog 45 #[x.val] w fun e w' => e = .returned (.bool (movesF x)) ∧ Later w w' := by
  have c1 := fun w' h => insIsReg_any x.a w' h
  have c2 := fun w' h => insIsPlain_any x.b w' h
  have c3 := fun w' h => insIsMemory_any x.b w' h
  have c4 := fun w' h => insIsMemory_any x.a w' h
  unfold movesF
  generalize isRegO x.a = ra at *
  generalize isPlainO x.b = pb at *
  generalize isMemO x.b = mb at *
  generalize isMemO x.a = ma at *
  obtain ⟨op, lock, cond, ⟨ak, ar, ay, an⟩, ⟨bk, br, bs, bn⟩, dest, lb⟩ := x
  unfold Ins.val Ins.cells at *
  try unfold Opd.val at *
  dsimp only at *
  have LL := Later.alloc (Later.refl w) (.cells #[.int .i64 op, .bool lock, .int .i64 cond, .int .i64 ak, .int .i64 ar, .int .i64 ay, .int .i64 an, .int .i64 bk, .int .i64 br, .int .i64 bs, .int .i64 bn, .string dest, lb] 26)
  have HB := at_new w (.cells #[.int .i64 op, .bool lock, .int .i64 cond, .int .i64 ak, .int .i64 ar, .int .i64 ay, .int .i64 an, .int .i64 bk, .int .i64 br, .int .i64 bs, .int .i64 bn, .string dest, lb] 26)
  have HG := hG.later LL
  clear hG
  go_enter Tryd.func45, Tryd.ntmps45
  go_upto_region 1 with (fail)
  obtain ⟨b0, b1, b2, b3, b4, b5, b6, b7, b8, b9, b10, b11, b12⟩ := box13_facts HB
  generalize w.alloc (.cells #[.int .i64 op, .bool lock, .int .i64 cond, .int .i64 ak, .int .i64 ar, .int .i64 ay, .int .i64 an, .int .i64 bk, .int .i64 br, .int .i64 bs, .int .i64 bn, .string dest, lb] 26) = W at *
  cases ra <;> cases pb <;> cases ma
  all_goals go_wp2_with (first | (go_at_call 59; apply Calls.mono; (focus (with_reducible (exact c1 _ HG))); rintro e wn ⟨rfl, hl⟩; replace HB := heap_later hl HB; replace HG := HG.later hl; replace LL := Later.trans LL hl; obtain ⟨b0, b1, b2, b3, b4, b5, b6, b7, b8, b9, b10, b11, b12⟩ := box13_facts HB) | (go_at_call 60; apply Calls.mono; (focus (with_reducible (exact c2 _ HG))); rintro e wn ⟨rfl, hl⟩; replace HB := heap_later hl HB; replace HG := HG.later hl; replace LL := Later.trans LL hl; obtain ⟨b0, b1, b2, b3, b4, b5, b6, b7, b8, b9, b10, b11, b12⟩ := box13_facts HB) | (go_at_call 37; apply Calls.mono; (focus (with_reducible (exact c3 _ HG))); rintro e wn ⟨rfl, hl⟩; replace HB := heap_later hl HB; replace HG := HG.later hl; replace LL := Later.trans LL hl; obtain ⟨b0, b1, b2, b3, b4, b5, b6, b7, b8, b9, b10, b11, b12⟩ := box13_facts HB) | (go_at_call 37; apply Calls.mono; (focus (with_reducible (exact c4 _ HG))); rintro e wn ⟨rfl, hl⟩; replace HB := heap_later hl HB; replace HG := HG.later hl; replace LL := Later.trans LL hl; obtain ⟨b0, b1, b2, b3, b4, b5, b6, b7, b8, b9, b10, b11, b12⟩ := box13_facts HB))
  all_goals go_ret
  all_goals exact ⟨ret_bool (by first | rfl | (simp; done) | (simp_all; done) | (simp; omega)), LL⟩

end Go.Proofs.YtginggelbfbcfaaDoor
