/-
  What package ins's formed returns of an instruction: whether it is a row's. Nothing that was in memory turns. Conditions: the table of the registers' words stands as the program's text lays it.
-/
import Derived.Test.YtginggelbfbcfaaDoorInsForm0
namespace Go.Proofs.YtginggelbfbcfaaDoor
open Go.RowKit
set_option linter.unusedVariables false
set_option linter.unusedSimpArgs false

set_option maxRecDepth 1000000 in
set_option maxHeartbeats 4000000 in
theorem insFormed_any (x : Ins) (w : World) (hG : Tab w 2 regsT) :
    Calls Tryd.prog 34 #[x.val] w fun e w' => e = .returned (.bool (formedF x)) ∧ Later w w' := by
  have c1 := fun w' => insBare_any x w'
  have c2 := fun w' h => insMoves_any x w' h
  have c3 := fun w' h => insSwaps_any x w' h
  have c4 := fun w' => insAlone_any x w'
  have c5 := fun w' h => insIsMemory_any x.a w' h
  unfold formedF
  generalize bareF x = ba at *
  generalize movesF x = mo at *
  generalize swapsF x = sw at *
  generalize aloneF x = al at *
  generalize isMemO x.a = ma at *
  obtain ⟨op, lock, cond, ⟨ak, ar, ay, an⟩, ⟨bk, br, bs, bn⟩, dest, lb⟩ := x
  unfold Ins.val Ins.cells at *
  try unfold Opd.val at *
  dsimp only at *
  have LL := Later.alloc (Later.refl w) (.cells #[.int .i64 op, .bool lock, .int .i64 cond, .int .i64 ak, .int .i64 ar, .int .i64 ay, .int .i64 an, .int .i64 bk, .int .i64 br, .int .i64 bs, .int .i64 bn, .string dest, lb] 26)
  have HB := at_new w (.cells #[.int .i64 op, .bool lock, .int .i64 cond, .int .i64 ak, .int .i64 ar, .int .i64 ay, .int .i64 an, .int .i64 bk, .int .i64 br, .int .i64 bs, .int .i64 bn, .string dest, lb] 26)
  have HG := hG.later LL
  clear hG
  go_enter Tryd.func34, Tryd.ntmps34
  go_upto_region 1 with (fail)
  obtain ⟨b0, b1, b2, b3, b4, b5, b6, b7, b8, b9, b10, b11, b12⟩ := box13_facts HB
  generalize w.alloc (.cells #[.int .i64 op, .bool lock, .int .i64 cond, .int .i64 ak, .int .i64 ar, .int .i64 ay, .int .i64 an, .int .i64 bk, .int .i64 br, .int .i64 bs, .int .i64 bn, .string dest, lb] 26) = W at *
  rcases Decidable.em (op = 1 ∨ op = 7) with h | h17
  · rcases h with rfl | rfl <;> cases ba <;> cases mo
    all_goals go_wp2_with (first | (go_at_call 44; apply Calls.mono; (focus (with_reducible (exact c1 _))); rintro e wn ⟨rfl, hl⟩; replace HB := heap_later hl HB; replace HG := HG.later hl; replace LL := Later.trans LL hl; obtain ⟨b0, b1, b2, b3, b4, b5, b6, b7, b8, b9, b10, b11, b12⟩ := box13_facts HB) | (go_at_call 45; apply Calls.mono; (focus (with_reducible (exact c2 _ HG))); rintro e wn ⟨rfl, hl⟩; replace HB := heap_later hl HB; replace HG := HG.later hl; replace LL := Later.trans LL hl; obtain ⟨b0, b1, b2, b3, b4, b5, b6, b7, b8, b9, b10, b11, b12⟩ := box13_facts HB) | (go_at_call 46; apply Calls.mono; (focus (with_reducible (exact c3 _ HG))); rintro e wn ⟨rfl, hl⟩; replace HB := heap_later hl HB; replace HG := HG.later hl; replace LL := Later.trans LL hl; obtain ⟨b0, b1, b2, b3, b4, b5, b6, b7, b8, b9, b10, b11, b12⟩ := box13_facts HB) | (go_at_call 47; apply Calls.mono; (focus (with_reducible (exact c4 _))); rintro e wn ⟨rfl, hl⟩; replace HB := heap_later hl HB; replace HG := HG.later hl; replace LL := Later.trans LL hl; obtain ⟨b0, b1, b2, b3, b4, b5, b6, b7, b8, b9, b10, b11, b12⟩ := box13_facts HB) | (go_at_call 37; apply Calls.mono; (focus (with_reducible (exact c5 _ HG))); rintro e wn ⟨rfl, hl⟩; replace HB := heap_later hl HB; replace HG := HG.later hl; replace LL := Later.trans LL hl; obtain ⟨b0, b1, b2, b3, b4, b5, b6, b7, b8, b9, b10, b11, b12⟩ := box13_facts HB))
    all_goals go_ret
    all_goals exact ⟨ret_bool (by first | rfl | (simp; done) | (simp_all; done) | (simp; omega)), LL⟩
  · rcases Decidable.em (op = 8) with rfl | h8
    · cases ba <;> cases sw
      all_goals go_wp2_with (first | (go_at_call 44; apply Calls.mono; (focus (with_reducible (exact c1 _))); rintro e wn ⟨rfl, hl⟩; replace HB := heap_later hl HB; replace HG := HG.later hl; replace LL := Later.trans LL hl; obtain ⟨b0, b1, b2, b3, b4, b5, b6, b7, b8, b9, b10, b11, b12⟩ := box13_facts HB) | (go_at_call 45; apply Calls.mono; (focus (with_reducible (exact c2 _ HG))); rintro e wn ⟨rfl, hl⟩; replace HB := heap_later hl HB; replace HG := HG.later hl; replace LL := Later.trans LL hl; obtain ⟨b0, b1, b2, b3, b4, b5, b6, b7, b8, b9, b10, b11, b12⟩ := box13_facts HB) | (go_at_call 46; apply Calls.mono; (focus (with_reducible (exact c3 _ HG))); rintro e wn ⟨rfl, hl⟩; replace HB := heap_later hl HB; replace HG := HG.later hl; replace LL := Later.trans LL hl; obtain ⟨b0, b1, b2, b3, b4, b5, b6, b7, b8, b9, b10, b11, b12⟩ := box13_facts HB) | (go_at_call 47; apply Calls.mono; (focus (with_reducible (exact c4 _))); rintro e wn ⟨rfl, hl⟩; replace HB := heap_later hl HB; replace HG := HG.later hl; replace LL := Later.trans LL hl; obtain ⟨b0, b1, b2, b3, b4, b5, b6, b7, b8, b9, b10, b11, b12⟩ := box13_facts HB) | (go_at_call 37; apply Calls.mono; (focus (with_reducible (exact c5 _ HG))); rintro e wn ⟨rfl, hl⟩; replace HB := heap_later hl HB; replace HG := HG.later hl; replace LL := Later.trans LL hl; obtain ⟨b0, b1, b2, b3, b4, b5, b6, b7, b8, b9, b10, b11, b12⟩ := box13_facts HB))
      all_goals go_ret
      all_goals exact ⟨ret_bool (by first | rfl | (simp; done) | (simp_all; done) | (simp; omega)), LL⟩
    · rcases Decidable.em (op = 9) with rfl | h9
      · cases ba <;> cases sw
        all_goals go_wp2_with (first | (go_at_call 44; apply Calls.mono; (focus (with_reducible (exact c1 _))); rintro e wn ⟨rfl, hl⟩; replace HB := heap_later hl HB; replace HG := HG.later hl; replace LL := Later.trans LL hl; obtain ⟨b0, b1, b2, b3, b4, b5, b6, b7, b8, b9, b10, b11, b12⟩ := box13_facts HB) | (go_at_call 45; apply Calls.mono; (focus (with_reducible (exact c2 _ HG))); rintro e wn ⟨rfl, hl⟩; replace HB := heap_later hl HB; replace HG := HG.later hl; replace LL := Later.trans LL hl; obtain ⟨b0, b1, b2, b3, b4, b5, b6, b7, b8, b9, b10, b11, b12⟩ := box13_facts HB) | (go_at_call 46; apply Calls.mono; (focus (with_reducible (exact c3 _ HG))); rintro e wn ⟨rfl, hl⟩; replace HB := heap_later hl HB; replace HG := HG.later hl; replace LL := Later.trans LL hl; obtain ⟨b0, b1, b2, b3, b4, b5, b6, b7, b8, b9, b10, b11, b12⟩ := box13_facts HB) | (go_at_call 47; apply Calls.mono; (focus (with_reducible (exact c4 _))); rintro e wn ⟨rfl, hl⟩; replace HB := heap_later hl HB; replace HG := HG.later hl; replace LL := Later.trans LL hl; obtain ⟨b0, b1, b2, b3, b4, b5, b6, b7, b8, b9, b10, b11, b12⟩ := box13_facts HB) | (go_at_call 37; apply Calls.mono; (focus (with_reducible (exact c5 _ HG))); rintro e wn ⟨rfl, hl⟩; replace HB := heap_later hl HB; replace HG := HG.later hl; replace LL := Later.trans LL hl; obtain ⟨b0, b1, b2, b3, b4, b5, b6, b7, b8, b9, b10, b11, b12⟩ := box13_facts HB))
        all_goals go_ret
        all_goals exact ⟨ret_bool (by first | rfl | (simp; done) | (simp_all; done) | (simp; omega)), LL⟩
      · rcases Decidable.em (op = 10) with rfl | h10
        · cases al
          all_goals go_wp2_with (first | (go_at_call 44; apply Calls.mono; (focus (with_reducible (exact c1 _))); rintro e wn ⟨rfl, hl⟩; replace HB := heap_later hl HB; replace HG := HG.later hl; replace LL := Later.trans LL hl; obtain ⟨b0, b1, b2, b3, b4, b5, b6, b7, b8, b9, b10, b11, b12⟩ := box13_facts HB) | (go_at_call 45; apply Calls.mono; (focus (with_reducible (exact c2 _ HG))); rintro e wn ⟨rfl, hl⟩; replace HB := heap_later hl HB; replace HG := HG.later hl; replace LL := Later.trans LL hl; obtain ⟨b0, b1, b2, b3, b4, b5, b6, b7, b8, b9, b10, b11, b12⟩ := box13_facts HB) | (go_at_call 46; apply Calls.mono; (focus (with_reducible (exact c3 _ HG))); rintro e wn ⟨rfl, hl⟩; replace HB := heap_later hl HB; replace HG := HG.later hl; replace LL := Later.trans LL hl; obtain ⟨b0, b1, b2, b3, b4, b5, b6, b7, b8, b9, b10, b11, b12⟩ := box13_facts HB) | (go_at_call 47; apply Calls.mono; (focus (with_reducible (exact c4 _))); rintro e wn ⟨rfl, hl⟩; replace HB := heap_later hl HB; replace HG := HG.later hl; replace LL := Later.trans LL hl; obtain ⟨b0, b1, b2, b3, b4, b5, b6, b7, b8, b9, b10, b11, b12⟩ := box13_facts HB) | (go_at_call 37; apply Calls.mono; (focus (with_reducible (exact c5 _ HG))); rintro e wn ⟨rfl, hl⟩; replace HB := heap_later hl HB; replace HG := HG.later hl; replace LL := Later.trans LL hl; obtain ⟨b0, b1, b2, b3, b4, b5, b6, b7, b8, b9, b10, b11, b12⟩ := box13_facts HB))
          all_goals go_ret
          all_goals exact ⟨ret_bool (by first | rfl | (simp; done) | (simp_all; done) | (simp; omega)), LL⟩
        · rcases Decidable.em (op = 11) with rfl | h11
          · cases al
            · go_wp2_with (first | (go_at_call 44; apply Calls.mono; (focus (with_reducible (exact c1 _))); rintro e wn ⟨rfl, hl⟩; replace HB := heap_later hl HB; replace HG := HG.later hl; replace LL := Later.trans LL hl; obtain ⟨b0, b1, b2, b3, b4, b5, b6, b7, b8, b9, b10, b11, b12⟩ := box13_facts HB) | (go_at_call 45; apply Calls.mono; (focus (with_reducible (exact c2 _ HG))); rintro e wn ⟨rfl, hl⟩; replace HB := heap_later hl HB; replace HG := HG.later hl; replace LL := Later.trans LL hl; obtain ⟨b0, b1, b2, b3, b4, b5, b6, b7, b8, b9, b10, b11, b12⟩ := box13_facts HB) | (go_at_call 46; apply Calls.mono; (focus (with_reducible (exact c3 _ HG))); rintro e wn ⟨rfl, hl⟩; replace HB := heap_later hl HB; replace HG := HG.later hl; replace LL := Later.trans LL hl; obtain ⟨b0, b1, b2, b3, b4, b5, b6, b7, b8, b9, b10, b11, b12⟩ := box13_facts HB) | (go_at_call 47; apply Calls.mono; (focus (with_reducible (exact c4 _))); rintro e wn ⟨rfl, hl⟩; replace HB := heap_later hl HB; replace HG := HG.later hl; replace LL := Later.trans LL hl; obtain ⟨b0, b1, b2, b3, b4, b5, b6, b7, b8, b9, b10, b11, b12⟩ := box13_facts HB) | (go_at_call 37; apply Calls.mono; (focus (with_reducible (exact c5 _ HG))); rintro e wn ⟨rfl, hl⟩; replace HB := heap_later hl HB; replace HG := HG.later hl; replace LL := Later.trans LL hl; obtain ⟨b0, b1, b2, b3, b4, b5, b6, b7, b8, b9, b10, b11, b12⟩ := box13_facts HB))
              go_ret
              exact ⟨ret_bool (by first | rfl | (simp; done) | (simp_all; done) | (simp; omega)), LL⟩
            · rcases Decidable.em (1 ≤ cond) with hc | hc
              all_goals go_wp2_with (first | (go_at_call 44; apply Calls.mono; (focus (with_reducible (exact c1 _))); rintro e wn ⟨rfl, hl⟩; replace HB := heap_later hl HB; replace HG := HG.later hl; replace LL := Later.trans LL hl; obtain ⟨b0, b1, b2, b3, b4, b5, b6, b7, b8, b9, b10, b11, b12⟩ := box13_facts HB) | (go_at_call 45; apply Calls.mono; (focus (with_reducible (exact c2 _ HG))); rintro e wn ⟨rfl, hl⟩; replace HB := heap_later hl HB; replace HG := HG.later hl; replace LL := Later.trans LL hl; obtain ⟨b0, b1, b2, b3, b4, b5, b6, b7, b8, b9, b10, b11, b12⟩ := box13_facts HB) | (go_at_call 46; apply Calls.mono; (focus (with_reducible (exact c3 _ HG))); rintro e wn ⟨rfl, hl⟩; replace HB := heap_later hl HB; replace HG := HG.later hl; replace LL := Later.trans LL hl; obtain ⟨b0, b1, b2, b3, b4, b5, b6, b7, b8, b9, b10, b11, b12⟩ := box13_facts HB) | (go_at_call 47; apply Calls.mono; (focus (with_reducible (exact c4 _))); rintro e wn ⟨rfl, hl⟩; replace HB := heap_later hl HB; replace HG := HG.later hl; replace LL := Later.trans LL hl; obtain ⟨b0, b1, b2, b3, b4, b5, b6, b7, b8, b9, b10, b11, b12⟩ := box13_facts HB) | (go_at_call 37; apply Calls.mono; (focus (with_reducible (exact c5 _ HG))); rintro e wn ⟨rfl, hl⟩; replace HB := heap_later hl HB; replace HG := HG.later hl; replace LL := Later.trans LL hl; obtain ⟨b0, b1, b2, b3, b4, b5, b6, b7, b8, b9, b10, b11, b12⟩ := box13_facts HB))
              all_goals go_ret
              all_goals exact ⟨ret_bool (by first | rfl | (simp; done) | (simp_all; done) | (simp; omega)), LL⟩
          · rcases Decidable.em (2 ≤ op ∧ op ≤ 6) with h26 | h26
            · obtain rfl | rfl | rfl | rfl | rfl : op = 2 ∨ op = 3 ∨ op = 4 ∨ op = 5 ∨ op = 6 := by omega
              all_goals as_aux_lemma =>
                cases ba <;> cases mo <;> cases lock
                all_goals go_wp2_with (first | (go_at_call 44; apply Calls.mono; (focus (with_reducible (exact c1 _))); rintro e wn ⟨rfl, hl⟩; replace HB := heap_later hl HB; replace HG := HG.later hl; replace LL := Later.trans LL hl; obtain ⟨b0, b1, b2, b3, b4, b5, b6, b7, b8, b9, b10, b11, b12⟩ := box13_facts HB) | (go_at_call 45; apply Calls.mono; (focus (with_reducible (exact c2 _ HG))); rintro e wn ⟨rfl, hl⟩; replace HB := heap_later hl HB; replace HG := HG.later hl; replace LL := Later.trans LL hl; obtain ⟨b0, b1, b2, b3, b4, b5, b6, b7, b8, b9, b10, b11, b12⟩ := box13_facts HB) | (go_at_call 46; apply Calls.mono; (focus (with_reducible (exact c3 _ HG))); rintro e wn ⟨rfl, hl⟩; replace HB := heap_later hl HB; replace HG := HG.later hl; replace LL := Later.trans LL hl; obtain ⟨b0, b1, b2, b3, b4, b5, b6, b7, b8, b9, b10, b11, b12⟩ := box13_facts HB) | (go_at_call 47; apply Calls.mono; (focus (with_reducible (exact c4 _))); rintro e wn ⟨rfl, hl⟩; replace HB := heap_later hl HB; replace HG := HG.later hl; replace LL := Later.trans LL hl; obtain ⟨b0, b1, b2, b3, b4, b5, b6, b7, b8, b9, b10, b11, b12⟩ := box13_facts HB) | (go_at_call 37; apply Calls.mono; (focus (with_reducible (exact c5 _ HG))); rintro e wn ⟨rfl, hl⟩; replace HB := heap_later hl HB; replace HG := HG.later hl; replace LL := Later.trans LL hl; obtain ⟨b0, b1, b2, b3, b4, b5, b6, b7, b8, b9, b10, b11, b12⟩ := box13_facts HB))
                all_goals go_ret
                all_goals exact ⟨ret_bool (by first | rfl | (simp; done) | (simp_all; done) | (simp; omega)), LL⟩
            · rcases Decidable.em (12 ≤ op ∧ op ≤ 14) with h124 | h124
              · obtain rfl | rfl | rfl : op = 12 ∨ op = 13 ∨ op = 14 := by omega
                all_goals cases al
                all_goals go_wp2_with (first | (go_at_call 44; apply Calls.mono; (focus (with_reducible (exact c1 _))); rintro e wn ⟨rfl, hl⟩; replace HB := heap_later hl HB; replace HG := HG.later hl; replace LL := Later.trans LL hl; obtain ⟨b0, b1, b2, b3, b4, b5, b6, b7, b8, b9, b10, b11, b12⟩ := box13_facts HB) | (go_at_call 45; apply Calls.mono; (focus (with_reducible (exact c2 _ HG))); rintro e wn ⟨rfl, hl⟩; replace HB := heap_later hl HB; replace HG := HG.later hl; replace LL := Later.trans LL hl; obtain ⟨b0, b1, b2, b3, b4, b5, b6, b7, b8, b9, b10, b11, b12⟩ := box13_facts HB) | (go_at_call 46; apply Calls.mono; (focus (with_reducible (exact c3 _ HG))); rintro e wn ⟨rfl, hl⟩; replace HB := heap_later hl HB; replace HG := HG.later hl; replace LL := Later.trans LL hl; obtain ⟨b0, b1, b2, b3, b4, b5, b6, b7, b8, b9, b10, b11, b12⟩ := box13_facts HB) | (go_at_call 47; apply Calls.mono; (focus (with_reducible (exact c4 _))); rintro e wn ⟨rfl, hl⟩; replace HB := heap_later hl HB; replace HG := HG.later hl; replace LL := Later.trans LL hl; obtain ⟨b0, b1, b2, b3, b4, b5, b6, b7, b8, b9, b10, b11, b12⟩ := box13_facts HB) | (go_at_call 37; apply Calls.mono; (focus (with_reducible (exact c5 _ HG))); rintro e wn ⟨rfl, hl⟩; replace HB := heap_later hl HB; replace HG := HG.later hl; replace LL := Later.trans LL hl; obtain ⟨b0, b1, b2, b3, b4, b5, b6, b7, b8, b9, b10, b11, b12⟩ := box13_facts HB))
                all_goals go_ret
                all_goals exact ⟨ret_bool (by first | rfl | (simp; done) | (simp_all; done) | (simp; omega)), LL⟩
              · have n1 : (op == 1) = false := by simp; omega
                have n2 : (op == 2) = false := by simp; omega
                have n3 : (op == 3) = false := by simp; omega
                have n4 : (op == 4) = false := by simp; omega
                have n5 : (op == 5) = false := by simp; omega
                have n6 : (op == 6) = false := by simp; omega
                have n7 : (op == 7) = false := by simp; omega
                have n8 : (op == 8) = false := by simp; omega
                have n9 : (op == 9) = false := by simp; omega
                have n10 : (op == 10) = false := by simp; omega
                have n11 : (op == 11) = false := by simp; omega
                have n12 : (op == 12) = false := by simp; omega
                have n13 : (op == 13) = false := by simp; omega
                have n14 : (op == 14) = false := by simp; omega
                go_wp2
                go_ret
                exact ⟨ret_bool (by simp [h17, h8, h9, h10, h11, h26, h124]), LL⟩

end Go.Proofs.YtginggelbfbcfaaDoor
