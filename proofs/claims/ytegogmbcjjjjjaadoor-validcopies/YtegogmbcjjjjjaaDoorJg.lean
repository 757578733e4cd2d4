/-
  What package ins's formed returns of an instruction: whether it is a row's. Nothing that was in memory turns. Conditions: the table of the registers' words stands as the program's text lays it.
  What package ins's Right returns of an instruction. Nothing that was in memory turns. Conditions: the listed tables stand as the program's text lays them; its name has at most 1000 bytes.
  What package ins's Reads, Writes, Locked and Fence return of an instruction. Nothing that was in memory turns. Conditions: the listed tables stand as the program's text lays them; its name has at most 1000 bytes.
  What Parts and Leads return of an instruction, the document's own and package ins's. Nothing that was in memory turns. Conditions: the listed tables stand as the program's text lays them; its name has at most 1000 bytes.
-/
import Derived.Test.YtegogmbcjjjjjaaDoorJf
import Derived.Test.YtegogmbcjjjjjaaDoorJe
import Derived.Test.YtegogmbcjjjjjaaDoorJc
import Derived.Deep.RegionHeld3
namespace Go.Proofs.YtegogmbcjjjjjaaDoor
open Go.RowKit
set_option linter.unusedVariables false
set_option linter.unusedSimpArgs false

set_option maxRecDepth 1000000 in
set_option maxHeartbeats 4000000 in
theorem insFormed_any (x : Ins) (w : World) (hG : Tab w 2 regsT) :
    Calls Tryd.prog 64 #[x.val] w fun e w' => e = .returned (.bool (formedF x)) ∧ Later w w' := by
  have c1 := fun w' => insBare_any x w'
  have c2 := fun w' h => insMoves_any x w' h
  have c3 := fun w' h => insSwaps_any x w' h
  have c4 := fun w' => insAlone_any x w'
  have c5 := fun w' h => insIsMemory_any x.a w' h
  unfold formedF
  generalize bareF x = ba at *
  generalize movesF x = mo at *
  generalize swapsF x = sw at *
  generalize aloneF x = al at *
  generalize isMemO x.a = ma at *
  obtain ⟨op, lock, cond, ⟨ak, ar, ay, an⟩, ⟨bk, br, bs, bn⟩, dest, lb⟩ := x
  unfold Ins.val Ins.cells at *
  try unfold Opd.val at *
  dsimp only at *
  have LL := Later.alloc (Later.refl w) (.cells #[.int .i64 op, .bool lock, .int .i64 cond, .int .i64 ak, .int .i64 ar, .int .i64 ay, .int .i64 an, .int .i64 bk, .int .i64 br, .int .i64 bs, .int .i64 bn, .string dest, lb] 39)
  have HB := at_new w (.cells #[.int .i64 op, .bool lock, .int .i64 cond, .int .i64 ak, .int .i64 ar, .int .i64 ay, .int .i64 an, .int .i64 bk, .int .i64 br, .int .i64 bs, .int .i64 bn, .string dest, lb] 39)
  have HG := hG.later LL
  clear hG
  go_enter Tryd.func64, Tryd.ntmps64
  go_upto_region 1 with (fail)
  obtain ⟨b0, b1, b2, b3, b4, b5, b6, b7, b8, b9, b10, b11, b12⟩ := box13_facts HB
  generalize w.alloc (.cells #[.int .i64 op, .bool lock, .int .i64 cond, .int .i64 ak, .int .i64 ar, .int .i64 ay, .int .i64 an, .int .i64 bk, .int .i64 br, .int .i64 bs, .int .i64 bn, .string dest, lb] 39) = W at *
  rcases Decidable.em (op = 1 ∨ op = 7) with h | h17
  · rcases h with rfl | rfl <;> cases ba <;> cases mo
    all_goals go_wp2_with (first | (go_at_call 68; apply Calls.mono; (focus (with_reducible (exact c1 _))); rintro e wn ⟨rfl, hl⟩; replace HB := heap_later hl HB; replace HG := HG.later hl; replace LL := Later.trans LL hl; obtain ⟨b0, b1, b2, b3, b4, b5, b6, b7, b8, b9, b10, b11, b12⟩ := box13_facts HB) | (go_at_call 69; apply Calls.mono; (focus (with_reducible (exact c2 _ HG))); rintro e wn ⟨rfl, hl⟩; replace HB := heap_later hl HB; replace HG := HG.later hl; replace LL := Later.trans LL hl; obtain ⟨b0, b1, b2, b3, b4, b5, b6, b7, b8, b9, b10, b11, b12⟩ := box13_facts HB) | (go_at_call 71; apply Calls.mono; (focus (with_reducible (exact c3 _ HG))); rintro e wn ⟨rfl, hl⟩; replace HB := heap_later hl HB; replace HG := HG.later hl; replace LL := Later.trans LL hl; obtain ⟨b0, b1, b2, b3, b4, b5, b6, b7, b8, b9, b10, b11, b12⟩ := box13_facts HB) | (go_at_call 72; apply Calls.mono; (focus (with_reducible (exact c4 _))); rintro e wn ⟨rfl, hl⟩; replace HB := heap_later hl HB; replace HG := HG.later hl; replace LL := Later.trans LL hl; obtain ⟨b0, b1, b2, b3, b4, b5, b6, b7, b8, b9, b10, b11, b12⟩ := box13_facts HB) | (go_at_call 70; apply Calls.mono; (focus (with_reducible (exact c5 _ HG))); rintro e wn ⟨rfl, hl⟩; replace HB := heap_later hl HB; replace HG := HG.later hl; replace LL := Later.trans LL hl; obtain ⟨b0, b1, b2, b3, b4, b5, b6, b7, b8, b9, b10, b11, b12⟩ := box13_facts HB))
    all_goals go_ret
    all_goals exact ⟨ret_bool (by first | rfl | (simp; done) | (simp_all; done) | (simp; omega)), LL⟩
  · rcases Decidable.em (op = 8) with rfl | h8
    · cases ba <;> cases sw
      all_goals go_wp2_with (first | (go_at_call 68; apply Calls.mono; (focus (with_reducible (exact c1 _))); rintro e wn ⟨rfl, hl⟩; replace HB := heap_later hl HB; replace HG := HG.later hl; replace LL := Later.trans LL hl; obtain ⟨b0, b1, b2, b3, b4, b5, b6, b7, b8, b9, b10, b11, b12⟩ := box13_facts HB) | (go_at_call 69; apply Calls.mono; (focus (with_reducible (exact c2 _ HG))); rintro e wn ⟨rfl, hl⟩; replace HB := heap_later hl HB; replace HG := HG.later hl; replace LL := Later.trans LL hl; obtain ⟨b0, b1, b2, b3, b4, b5, b6, b7, b8, b9, b10, b11, b12⟩ := box13_facts HB) | (go_at_call 71; apply Calls.mono; (focus (with_reducible (exact c3 _ HG))); rintro e wn ⟨rfl, hl⟩; replace HB := heap_later hl HB; replace HG := HG.later hl; replace LL := Later.trans LL hl; obtain ⟨b0, b1, b2, b3, b4, b5, b6, b7, b8, b9, b10, b11, b12⟩ := box13_facts HB) | (go_at_call 72; apply Calls.mono; (focus (with_reducible (exact c4 _))); rintro e wn ⟨rfl, hl⟩; replace HB := heap_later hl HB; replace HG := HG.later hl; replace LL := Later.trans LL hl; obtain ⟨b0, b1, b2, b3, b4, b5, b6, b7, b8, b9, b10, b11, b12⟩ := box13_facts HB) | (go_at_call 70; apply Calls.mono; (focus (with_reducible (exact c5 _ HG))); rintro e wn ⟨rfl, hl⟩; replace HB := heap_later hl HB; replace HG := HG.later hl; replace LL := Later.trans LL hl; obtain ⟨b0, b1, b2, b3, b4, b5, b6, b7, b8, b9, b10, b11, b12⟩ := box13_facts HB))
      all_goals go_ret
      all_goals exact ⟨ret_bool (by first | rfl | (simp; done) | (simp_all; done) | (simp; omega)), LL⟩
    · rcases Decidable.em (op = 9) with rfl | h9
      · cases ba <;> cases sw
        all_goals go_wp2_with (first | (go_at_call 68; apply Calls.mono; (focus (with_reducible (exact c1 _))); rintro e wn ⟨rfl, hl⟩; replace HB := heap_later hl HB; replace HG := HG.later hl; replace LL := Later.trans LL hl; obtain ⟨b0, b1, b2, b3, b4, b5, b6, b7, b8, b9, b10, b11, b12⟩ := box13_facts HB) | (go_at_call 69; apply Calls.mono; (focus (with_reducible (exact c2 _ HG))); rintro e wn ⟨rfl, hl⟩; replace HB := heap_later hl HB; replace HG := HG.later hl; replace LL := Later.trans LL hl; obtain ⟨b0, b1, b2, b3, b4, b5, b6, b7, b8, b9, b10, b11, b12⟩ := box13_facts HB) | (go_at_call 71; apply Calls.mono; (focus (with_reducible (exact c3 _ HG))); rintro e wn ⟨rfl, hl⟩; replace HB := heap_later hl HB; replace HG := HG.later hl; replace LL := Later.trans LL hl; obtain ⟨b0, b1, b2, b3, b4, b5, b6, b7, b8, b9, b10, b11, b12⟩ := box13_facts HB) | (go_at_call 72; apply Calls.mono; (focus (with_reducible (exact c4 _))); rintro e wn ⟨rfl, hl⟩; replace HB := heap_later hl HB; replace HG := HG.later hl; replace LL := Later.trans LL hl; obtain ⟨b0, b1, b2, b3, b4, b5, b6, b7, b8, b9, b10, b11, b12⟩ := box13_facts HB) | (go_at_call 70; apply Calls.mono; (focus (with_reducible (exact c5 _ HG))); rintro e wn ⟨rfl, hl⟩; replace HB := heap_later hl HB; replace HG := HG.later hl; replace LL := Later.trans LL hl; obtain ⟨b0, b1, b2, b3, b4, b5, b6, b7, b8, b9, b10, b11, b12⟩ := box13_facts HB))
        all_goals go_ret
        all_goals exact ⟨ret_bool (by first | rfl | (simp; done) | (simp_all; done) | (simp; omega)), LL⟩
      · rcases Decidable.em (op = 10) with rfl | h10
        · cases al
          all_goals go_wp2_with (first | (go_at_call 68; apply Calls.mono; (focus (with_reducible (exact c1 _))); rintro e wn ⟨rfl, hl⟩; replace HB := heap_later hl HB; replace HG := HG.later hl; replace LL := Later.trans LL hl; obtain ⟨b0, b1, b2, b3, b4, b5, b6, b7, b8, b9, b10, b11, b12⟩ := box13_facts HB) | (go_at_call 69; apply Calls.mono; (focus (with_reducible (exact c2 _ HG))); rintro e wn ⟨rfl, hl⟩; replace HB := heap_later hl HB; replace HG := HG.later hl; replace LL := Later.trans LL hl; obtain ⟨b0, b1, b2, b3, b4, b5, b6, b7, b8, b9, b10, b11, b12⟩ := box13_facts HB) | (go_at_call 71; apply Calls.mono; (focus (with_reducible (exact c3 _ HG))); rintro e wn ⟨rfl, hl⟩; replace HB := heap_later hl HB; replace HG := HG.later hl; replace LL := Later.trans LL hl; obtain ⟨b0, b1, b2, b3, b4, b5, b6, b7, b8, b9, b10, b11, b12⟩ := box13_facts HB) | (go_at_call 72; apply Calls.mono; (focus (with_reducible (exact c4 _))); rintro e wn ⟨rfl, hl⟩; replace HB := heap_later hl HB; replace HG := HG.later hl; replace LL := Later.trans LL hl; obtain ⟨b0, b1, b2, b3, b4, b5, b6, b7, b8, b9, b10, b11, b12⟩ := box13_facts HB) | (go_at_call 70; apply Calls.mono; (focus (with_reducible (exact c5 _ HG))); rintro e wn ⟨rfl, hl⟩; replace HB := heap_later hl HB; replace HG := HG.later hl; replace LL := Later.trans LL hl; obtain ⟨b0, b1, b2, b3, b4, b5, b6, b7, b8, b9, b10, b11, b12⟩ := box13_facts HB))
          all_goals go_ret
          all_goals exact ⟨ret_bool (by first | rfl | (simp; done) | (simp_all; done) | (simp; omega)), LL⟩
        · rcases Decidable.em (op = 11) with rfl | h11
          · cases al
            · go_wp2_with (first | (go_at_call 68; apply Calls.mono; (focus (with_reducible (exact c1 _))); rintro e wn ⟨rfl, hl⟩; replace HB := heap_later hl HB; replace HG := HG.later hl; replace LL := Later.trans LL hl; obtain ⟨b0, b1, b2, b3, b4, b5, b6, b7, b8, b9, b10, b11, b12⟩ := box13_facts HB) | (go_at_call 69; apply Calls.mono; (focus (with_reducible (exact c2 _ HG))); rintro e wn ⟨rfl, hl⟩; replace HB := heap_later hl HB; replace HG := HG.later hl; replace LL := Later.trans LL hl; obtain ⟨b0, b1, b2, b3, b4, b5, b6, b7, b8, b9, b10, b11, b12⟩ := box13_facts HB) | (go_at_call 71; apply Calls.mono; (focus (with_reducible (exact c3 _ HG))); rintro e wn ⟨rfl, hl⟩; replace HB := heap_later hl HB; replace HG := HG.later hl; replace LL := Later.trans LL hl; obtain ⟨b0, b1, b2, b3, b4, b5, b6, b7, b8, b9, b10, b11, b12⟩ := box13_facts HB) | (go_at_call 72; apply Calls.mono; (focus (with_reducible (exact c4 _))); rintro e wn ⟨rfl, hl⟩; replace HB := heap_later hl HB; replace HG := HG.later hl; replace LL := Later.trans LL hl; obtain ⟨b0, b1, b2, b3, b4, b5, b6, b7, b8, b9, b10, b11, b12⟩ := box13_facts HB) | (go_at_call 70; apply Calls.mono; (focus (with_reducible (exact c5 _ HG))); rintro e wn ⟨rfl, hl⟩; replace HB := heap_later hl HB; replace HG := HG.later hl; replace LL := Later.trans LL hl; obtain ⟨b0, b1, b2, b3, b4, b5, b6, b7, b8, b9, b10, b11, b12⟩ := box13_facts HB))
              go_ret
              exact ⟨ret_bool (by first | rfl | (simp; done) | (simp_all; done) | (simp; omega)), LL⟩
            · rcases Decidable.em (1 ≤ cond) with hc | hc
              all_goals go_wp2_with (first | (go_at_call 68; apply Calls.mono; (focus (with_reducible (exact c1 _))); rintro e wn ⟨rfl, hl⟩; replace HB := heap_later hl HB; replace HG := HG.later hl; replace LL := Later.trans LL hl; obtain ⟨b0, b1, b2, b3, b4, b5, b6, b7, b8, b9, b10, b11, b12⟩ := box13_facts HB) | (go_at_call 69; apply Calls.mono; (focus (with_reducible (exact c2 _ HG))); rintro e wn ⟨rfl, hl⟩; replace HB := heap_later hl HB; replace HG := HG.later hl; replace LL := Later.trans LL hl; obtain ⟨b0, b1, b2, b3, b4, b5, b6, b7, b8, b9, b10, b11, b12⟩ := box13_facts HB) | (go_at_call 71; apply Calls.mono; (focus (with_reducible (exact c3 _ HG))); rintro e wn ⟨rfl, hl⟩; replace HB := heap_later hl HB; replace HG := HG.later hl; replace LL := Later.trans LL hl; obtain ⟨b0, b1, b2, b3, b4, b5, b6, b7, b8, b9, b10, b11, b12⟩ := box13_facts HB) | (go_at_call 72; apply Calls.mono; (focus (with_reducible (exact c4 _))); rintro e wn ⟨rfl, hl⟩; replace HB := heap_later hl HB; replace HG := HG.later hl; replace LL := Later.trans LL hl; obtain ⟨b0, b1, b2, b3, b4, b5, b6, b7, b8, b9, b10, b11, b12⟩ := box13_facts HB) | (go_at_call 70; apply Calls.mono; (focus (with_reducible (exact c5 _ HG))); rintro e wn ⟨rfl, hl⟩; replace HB := heap_later hl HB; replace HG := HG.later hl; replace LL := Later.trans LL hl; obtain ⟨b0, b1, b2, b3, b4, b5, b6, b7, b8, b9, b10, b11, b12⟩ := box13_facts HB))
              all_goals go_ret
              all_goals exact ⟨ret_bool (by first | rfl | (simp; done) | (simp_all; done) | (simp; omega)), LL⟩
          · rcases Decidable.em (2 ≤ op ∧ op ≤ 6) with h26 | h26
            · obtain rfl | rfl | rfl | rfl | rfl : op = 2 ∨ op = 3 ∨ op = 4 ∨ op = 5 ∨ op = 6 := by omega
              all_goals as_aux_lemma =>
                cases ba <;> cases mo <;> cases lock
                all_goals go_wp2_with (first | (go_at_call 68; apply Calls.mono; (focus (with_reducible (exact c1 _))); rintro e wn ⟨rfl, hl⟩; replace HB := heap_later hl HB; replace HG := HG.later hl; replace LL := Later.trans LL hl; obtain ⟨b0, b1, b2, b3, b4, b5, b6, b7, b8, b9, b10, b11, b12⟩ := box13_facts HB) | (go_at_call 69; apply Calls.mono; (focus (with_reducible (exact c2 _ HG))); rintro e wn ⟨rfl, hl⟩; replace HB := heap_later hl HB; replace HG := HG.later hl; replace LL := Later.trans LL hl; obtain ⟨b0, b1, b2, b3, b4, b5, b6, b7, b8, b9, b10, b11, b12⟩ := box13_facts HB) | (go_at_call 71; apply Calls.mono; (focus (with_reducible (exact c3 _ HG))); rintro e wn ⟨rfl, hl⟩; replace HB := heap_later hl HB; replace HG := HG.later hl; replace LL := Later.trans LL hl; obtain ⟨b0, b1, b2, b3, b4, b5, b6, b7, b8, b9, b10, b11, b12⟩ := box13_facts HB) | (go_at_call 72; apply Calls.mono; (focus (with_reducible (exact c4 _))); rintro e wn ⟨rfl, hl⟩; replace HB := heap_later hl HB; replace HG := HG.later hl; replace LL := Later.trans LL hl; obtain ⟨b0, b1, b2, b3, b4, b5, b6, b7, b8, b9, b10, b11, b12⟩ := box13_facts HB) | (go_at_call 70; apply Calls.mono; (focus (with_reducible (exact c5 _ HG))); rintro e wn ⟨rfl, hl⟩; replace HB := heap_later hl HB; replace HG := HG.later hl; replace LL := Later.trans LL hl; obtain ⟨b0, b1, b2, b3, b4, b5, b6, b7, b8, b9, b10, b11, b12⟩ := box13_facts HB))
                all_goals go_ret
                all_goals exact ⟨ret_bool (by first | rfl | (simp; done) | (simp_all; done) | (simp; omega)), LL⟩
            · rcases Decidable.em (12 ≤ op ∧ op ≤ 14) with h124 | h124
              · obtain rfl | rfl | rfl : op = 12 ∨ op = 13 ∨ op = 14 := by omega
                all_goals cases al
                all_goals go_wp2_with (first | (go_at_call 68; apply Calls.mono; (focus (with_reducible (exact c1 _))); rintro e wn ⟨rfl, hl⟩; replace HB := heap_later hl HB; replace HG := HG.later hl; replace LL := Later.trans LL hl; obtain ⟨b0, b1, b2, b3, b4, b5, b6, b7, b8, b9, b10, b11, b12⟩ := box13_facts HB) | (go_at_call 69; apply Calls.mono; (focus (with_reducible (exact c2 _ HG))); rintro e wn ⟨rfl, hl⟩; replace HB := heap_later hl HB; replace HG := HG.later hl; replace LL := Later.trans LL hl; obtain ⟨b0, b1, b2, b3, b4, b5, b6, b7, b8, b9, b10, b11, b12⟩ := box13_facts HB) | (go_at_call 71; apply Calls.mono; (focus (with_reducible (exact c3 _ HG))); rintro e wn ⟨rfl, hl⟩; replace HB := heap_later hl HB; replace HG := HG.later hl; replace LL := Later.trans LL hl; obtain ⟨b0, b1, b2, b3, b4, b5, b6, b7, b8, b9, b10, b11, b12⟩ := box13_facts HB) | (go_at_call 72; apply Calls.mono; (focus (with_reducible (exact c4 _))); rintro e wn ⟨rfl, hl⟩; replace HB := heap_later hl HB; replace HG := HG.later hl; replace LL := Later.trans LL hl; obtain ⟨b0, b1, b2, b3, b4, b5, b6, b7, b8, b9, b10, b11, b12⟩ := box13_facts HB) | (go_at_call 70; apply Calls.mono; (focus (with_reducible (exact c5 _ HG))); rintro e wn ⟨rfl, hl⟩; replace HB := heap_later hl HB; replace HG := HG.later hl; replace LL := Later.trans LL hl; obtain ⟨b0, b1, b2, b3, b4, b5, b6, b7, b8, b9, b10, b11, b12⟩ := box13_facts HB))
                all_goals go_ret
                all_goals exact ⟨ret_bool (by first | rfl | (simp; done) | (simp_all; done) | (simp; omega)), LL⟩
              · have n1 : (op == 1) = false := by simp; omega
                have n2 : (op == 2) = false := by simp; omega
                have n3 : (op == 3) = false := by simp; omega
                have n4 : (op == 4) = false := by simp; omega
                have n5 : (op == 5) = false := by simp; omega
                have n6 : (op == 6) = false := by simp; omega
                have n7 : (op == 7) = false := by simp; omega
                have n8 : (op == 8) = false := by simp; omega
                have n9 : (op == 9) = false := by simp; omega
                have n10 : (op == 10) = false := by simp; omega
                have n11 : (op == 11) = false := by simp; omega
                have n12 : (op == 12) = false := by simp; omega
                have n13 : (op == 13) = false := by simp; omega
                have n14 : (op == 14) = false := by simp; omega
                go_wp2
                go_ret
                exact ⟨ret_bool (by simp [h17, h8, h9, h10, h11, h26, h124]), LL⟩

end Go.Proofs.YtegogmbcjjjjjaaDoor

namespace Go.Proofs.YtegogmbcjjjjjaaDoor
open Go.RowKit
set_option linter.unusedVariables false
set_option linter.unusedSimpArgs false

/-- What is wrong, asked the developers' way, is what is wrong. -/
theorem insF_formed (x : Ins) : insF x = if formedF x = false then 4 else if jumpsF x.op = true ∧ rightF x.dest = false then 3 else 0 := by
  have hm : memF x.a = true → x.a.kind ≠ 1 := by intro h; simp [memF] at h; omega
  have hmb : memF x.b = true → x.b.kind ≠ 1 := by intro h; simp [memF] at h; omega
  have hp : plainF x.b = true ↔ (x.b.kind = 1 ∨ x.b.kind = 2) := by simp [plainF]
  have hr : reckonsF x.op = true ↔ (2 ≤ x.op ∧ x.op ≤ 6) := by simp [reckonsF]
  have hj : jumpsF x.op = true ↔ (x.op = 10 ∨ x.op = 11) := by simp [jumpsF]
  unfold insF formedF rowF bareF aloneF movesF swapsF isRegO isPlainO isMemO
  generalize rightF x.dest = ri at *
  generalize x.dest.data.toList.isEmpty = em at *
  generalize opdRightF x.a = ra at *
  generalize opdRightF x.b = rb at *
  generalize memF x.a = ma at *
  generalize memF x.b = mb at *
  generalize plainF x.b = pb at *
  generalize opdZero x.a = za at *
  generalize opdZero x.b = zb at *
  generalize reckonsF x.op = rk at *
  generalize jumpsF x.op = ju at *
  generalize x.op = op at *
  generalize x.lock = lk at *
  generalize x.cond = cond at *
  generalize x.a.kind = ak at *
  generalize x.b.kind = bk at *
  by_cases h0 : op < 1 ∨ 14 < op
  · rw [if_pos h0]
    have e : ¬ (op = 1 ∨ op = 7) ∧ ¬ (2 ≤ op ∧ op ≤ 6) ∧ op ≠ 8 ∧ op ≠ 9 ∧ op ≠ 10 ∧ op ≠ 11 ∧ ¬ (12 ≤ op ∧ op ≤ 14) := by omega
    simp [e]
  · rw [if_neg h0]
    have ho : op = 1 ∨ op = 2 ∨ op = 3 ∨ op = 4 ∨ op = 5 ∨ op = 6 ∨ op = 7 ∨ op = 8 ∨ op = 9 ∨ op = 10 ∨ op = 11 ∨ op = 12 ∨ op = 13 ∨ op = 14 := by omega
    rcases ho with rfl | rfl | rfl | rfl | rfl | rfl | rfl | rfl | rfl | rfl | rfl | rfl | rfl | rfl
    all_goals grind

set_option maxRecDepth 1000000 in
set_option maxHeartbeats 4000000 in
theorem insRight_any (x : Ins) (hd : x.dest.size ≤ 1000) (w : World) (hG : NamesGood w) :
    Calls Tryd.prog 57 #[x.val] w fun e w' => e = .returned (.int .i64 (insF x)) ∧ Later w w' := by
  have c1 := fun w' h => insFormed_any x w' h
  have c2 := fun w' => insJumps_any x.op w'
  have c3 := fun w' h => nameRight_any x.dest hd w' h
  rw [insF_formed]
  generalize formedF x = fo at *
  generalize jumpsF x.op = ju at *
  generalize rightF x.dest = ri at *
  clear hd
  obtain ⟨op, lock, cond, ⟨ak, ar, ay, an⟩, ⟨bk, br, bs, bn⟩, dest, lb⟩ := x
  unfold Ins.val Ins.cells at *
  try unfold Opd.val at *
  dsimp only at *
  have LL := Later.alloc (Later.refl w) (.cells #[.int .i64 op, .bool lock, .int .i64 cond, .int .i64 ak, .int .i64 ar, .int .i64 ay, .int .i64 an, .int .i64 bk, .int .i64 br, .int .i64 bs, .int .i64 bn, .string dest, lb] 39)
  have HB := at_new w (.cells #[.int .i64 op, .bool lock, .int .i64 cond, .int .i64 ak, .int .i64 ar, .int .i64 ay, .int .i64 an, .int .i64 bk, .int .i64 br, .int .i64 bs, .int .i64 bn, .string dest, lb] 39)
  have HG := hG.later LL
  clear hG
  go_enter Tryd.func57, Tryd.ntmps57
  go_upto_region 1 with (fail)
  obtain ⟨b0, b1, b2, b3, b4, b5, b6, b7, b8, b9, b10, b11, b12⟩ := box13_facts HB
  generalize w.alloc (.cells #[.int .i64 op, .bool lock, .int .i64 cond, .int .i64 ak, .int .i64 ar, .int .i64 ay, .int .i64 an, .int .i64 bk, .int .i64 br, .int .i64 bs, .int .i64 bn, .string dest, lb] 39) = W at *
  cases fo <;> cases ju <;> cases ri
  all_goals go_wp2_with (first | (go_at_call 64; apply Calls.mono; (focus (with_reducible (exact c1 _ HG.regs))); rintro e wn ⟨rfl, hl⟩; replace HB := heap_later hl HB; replace HG := HG.later hl; replace LL := Later.trans LL hl; obtain ⟨b0, b1, b2, b3, b4, b5, b6, b7, b8, b9, b10, b11, b12⟩ := box13_facts HB) | (go_at_call 65; apply Calls.mono; (focus (with_reducible (exact c2 _))); rintro e wn ⟨rfl, hr⟩; obtain rfl := hr.symm) | (go_at_call 44; apply Calls.mono; (focus (with_reducible (exact c3 _ HG))); rintro e wn ⟨rfl, hl⟩; replace HB := heap_later hl HB; replace HG := HG.later hl; replace LL := Later.trans LL hl; obtain ⟨b0, b1, b2, b3, b4, b5, b6, b7, b8, b9, b10, b11, b12⟩ := box13_facts HB))
  all_goals go_ret
  all_goals exact ⟨ret_int (by simp), LL⟩

end Go.Proofs.YtegogmbcjjjjjaaDoor

namespace Go.Proofs.YtegogmbcjjjjjaaDoor
open Go.RowKit
set_option linter.unusedVariables false
set_option linter.unusedSimpArgs false

def reads2F (x : Ins) : Opd × Bool := if insF x ≠ 0 then (zeroOpd, false) else if isMemO x.b = true then (x.b, true) else if x.op ≠ 1 ∧ isMemO x.a = true then (x.a, true) else (zeroOpd, false)
def writes2F (x : Ins) : Opd × Bool := if insF x ≠ 0 ∨ x.op = 7 ∨ isMemO x.a = false then (zeroOpd, false) else (x.a, true)

theorem mem_of_zero {o : Opd} (h : opdZero o = true) : opdRightF o = false ∧ memF o = false := by
  simp [opdZero] at h
  simp [opdRightF, memF]
  omega

theorem ins_ok {x : Ins} (h : insF x = 0) : (9 < x.op → isMemO x.a = false ∧ isMemO x.b = false) ∧ (x.op ≤ 9 → isMemO x.a = memF x.a ∧ isMemO x.b = memF x.b) := by
  have za : opdZero x.a = true → isMemO x.a = false := fun h => by simp [isMemO, mem_of_zero h]
  have zb : opdZero x.b = true → isMemO x.b = false := fun h => by simp [isMemO, mem_of_zero h]
  have ra : opdRightF x.a = true → isMemO x.a = memF x.a := fun h => by simp [isMemO, h]
  have rb : opdRightF x.b = true → isMemO x.b = memF x.b := fun h => by simp [isMemO, h]
  unfold insF rowF at h
  generalize isMemO x.a = ia at *
  generalize isMemO x.b = ib at *
  generalize opdZero x.a = oa at *
  generalize opdZero x.b = ob at *
  generalize opdRightF x.a = ya at *
  generalize opdRightF x.b = yb at *
  refine ⟨fun h9 => ?_, fun h9 => ?_⟩
  · by_cases h0 : x.op < 1 ∨ 14 < x.op
    · rw [if_pos h0] at h; omega
    · rw [if_neg h0, if_pos (Or.inr h9)] at h
      cases oa <;> cases ob <;> simp at h
      exact ⟨za rfl, zb rfl⟩
  · by_cases h0 : x.op < 1 ∨ 14 < x.op
    · rw [if_pos h0] at h; omega
    · have e : ¬ (x.op < 1 ∨ 9 < x.op) := by omega
      rw [if_neg h0, if_neg e] at h
      cases ya <;> cases yb <;> first | (exfalso; simp at h; done) | exact ⟨ra rfl, rb rfl⟩

theorem reads_eq (x : Ins) : readsF x = reads2F x := by
  unfold readsF reads2F
  by_cases h : insF x = 0
  · obtain ⟨h1, h2⟩ := ins_ok h
    by_cases h9 : 9 < x.op
    · simp [h, h9, h1 h9]
    · simp [h, h9, h2 (by omega), and_comm]
  · simp [h]

theorem writes_eq (x : Ins) : writesF x = writes2F x := by
  unfold writesF writes2F
  by_cases h : insF x = 0
  · obtain ⟨h1, h2⟩ := ins_ok h
    by_cases h9 : 9 < x.op
    · simp [h, h9, h1 h9]
    · simp [h, h9, h2 (by omega)]
  · simp [h]

end Go.Proofs.YtegogmbcjjjjjaaDoor

namespace Go.Proofs.YtegogmbcjjjjjaaDoor
open Go.RowKit
set_option linter.unusedVariables false
set_option linter.unusedSimpArgs false

set_option maxRecDepth 1000000 in
set_option maxHeartbeats 4000000 in
theorem insLeads_any (x : Ins) (hd : x.dest.size ≤ 1000) (w : World) (hG : NamesGood w) :
    Calls Tryd.prog 59 #[x.val] w fun e w' => e = .returned (.tuple #[.bool (leadsF x).1, .bool (leadsF x).2]) ∧ Later w w' := by
  have cI := fun w' h => insRight_any x hd w' h
  have cJ := fun w' => insJumps_any x.op w'
  unfold leadsF
  generalize insF x = R at *
  generalize jumpsF x.op = ju at *
  obtain ⟨op, lock, cond, ⟨ak, ar, ay, an⟩, ⟨bk, br, bs, bn⟩, dest, lb⟩ := x
  clear hd
  unfold Ins.val Ins.cells at *
  dsimp only at *
  obtain ⟨P, hP⟩ : ∃ P, P = (if R ≠ 0 then (false, false) else (decide (op ≠ 10) && decide (op ≠ 14), ju)) := ⟨_, rfl⟩
  rw [← hP]
  have LL := Later.alloc (Later.refl w) (.cells #[.int .i64 op, .bool lock, .int .i64 cond, .int .i64 ak, .int .i64 ar, .int .i64 ay, .int .i64 an, .int .i64 bk, .int .i64 br, .int .i64 bs, .int .i64 bn, .string dest, lb] 39)
  have HB := at_new w (.cells #[.int .i64 op, .bool lock, .int .i64 cond, .int .i64 ak, .int .i64 ar, .int .i64 ay, .int .i64 an, .int .i64 bk, .int .i64 br, .int .i64 bs, .int .i64 bn, .string dest, lb] 39)
  have HG := hG.later LL
  clear hG
  go_enter Tryd.func59, Tryd.ntmps59
  go_upto_region 1 with (fail)
  obtain ⟨b0, b1, b2, b3, b4, b5, b6, b7, b8, b9, b10, b11, b12⟩ := box13_facts HB
  generalize w.alloc (.cells #[.int .i64 op, .bool lock, .int .i64 cond, .int .i64 ak, .int .i64 ar, .int .i64 ay, .int .i64 an, .int .i64 bk, .int .i64 br, .int .i64 bs, .int .i64 bn, .string dest, lb] 39) = W at *
  rcases Decidable.em (R = 0) with rfl | hR
  · simp only [ne_eq, not_true_eq_false, if_false] at hP
    subst hP
    go_upto_region 3 with (go_at_call 57; apply Calls.mono; (focus (with_reducible (exact cI _ HG))); rintro e wn ⟨rfl, hl⟩; replace HB := heap_later hl HB; replace HG := HG.later hl; replace LL := Later.trans LL hl; obtain ⟨b0, b1, b2, b3, b4, b5, b6, b7, b8, b9, b10, b11, b12⟩ := box13_facts HB)
    rcases Decidable.em (op = 10) with rfl | h10
    · go_quiet ((go_at_call 65; exact Calls.quiet_of_same (cJ _)))
      all_goals go_wp2
      all_goals go_ret2
      all_goals exact ⟨by simp, by first | exact LL | exact Later.drew LL | exact Later.drewN LL _⟩
    · have h10' : (op != 10) = true := by simp; exact h10
      go_region_held3 (fun w' => w'.cell? ⟨w.heap.size, 0, none⟩ = some (.int .i64 op))
        ((first | with_reducible exact b0 | go_keep))
        (first | (go_at_call 65; apply Calls.mono; (focus (with_reducible (exact cJ _))); rintro e wn ⟨rfl, hr⟩; obtain rfl := hr.symm))
      all_goals go_wp2
      all_goals go_ret2
      all_goals exact ⟨by rcases Decidable.em (op = 14) with h | h <;> simp [h10, h], by first | exact LL | exact Later.drew LL⟩
  · have hR' : (R != 0) = true := by simp; exact hR
    simp only [ne_eq, hR, not_false_eq_true, if_true] at hP
    subst hP
    go_wp2_with (go_at_call 57; apply Calls.mono; (focus (with_reducible (exact cI _ HG))); rintro e wn ⟨rfl, hl⟩; replace HB := heap_later hl HB; replace HG := HG.later hl; replace LL := Later.trans LL hl; obtain ⟨b0, b1, b2, b3, b4, b5, b6, b7, b8, b9, b10, b11, b12⟩ := box13_facts HB)
    go_ret2
    exact ⟨rfl, LL⟩

end Go.Proofs.YtegogmbcjjjjjaaDoor
