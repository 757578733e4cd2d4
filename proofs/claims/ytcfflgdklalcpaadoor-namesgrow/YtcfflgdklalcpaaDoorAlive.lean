/-
  The first call whose answer the document fixes returns true. Nothing that was in memory turns. Conditions: the listed tables stand as their texts lay them.
-/
import Derived.Test.YtcfflgdklalcpaaDoorRight
set_option linter.unusedVariables false
namespace Go.Proofs.YtcfflgdklalcpaaDoor
open Go.RowKit

theorem al1 : opF ⟨#[106, 110, 101]⟩ = (11, 2, true) := by kernel_rfl
theorem al2 : regF ⟨#[114, 56]⟩ = (6, true) := by kernel_rfl
theorem al3 : rightF ⟨#[120, 49]⟩ = true := by kernel_rfl
theorem al4 : rightF ⟨#[109, 111, 118]⟩ = false := by kernel_rfl
theorem al5 : wordF ⟨#[115, 121, 109]⟩ = true := by kernel_rfl
theorem al6 : opTextF 1 1 = ⟨#[]⟩ := by kernel_rfl

set_option maxRecDepth 1000000 in
set_option maxHeartbeats 1000000 in
theorem alive_any (w : World) (g : Good w) :
    Calls Tryd.prog 17 #[] w fun e w' => e = .returned (.bool true) ∧ Later w w' := by
  have go : ∀ {w'}, Later w w' → Good w' := fun h => g.later h
  have c11 := fun w' (g' : Good w') => op_any ⟨#[106, 110, 101]⟩ w' g'.2.2.1 g'.2.2.2
  have c9 := fun w' (g' : Good w') => reg_any ⟨#[114, 56]⟩ w' g'.2.1
  have c15 := fun w' (g' : Good w') => right_any ⟨#[120, 49]⟩ (by decide) w' g'
  have c15' := fun w' (g' : Good w') => right_any ⟨#[109, 111, 118]⟩ (by decide) w' g'
  have c13 := fun w' (g' : Good w') => word_any ⟨#[115, 121, 109]⟩ w' g'.2.1 g'.2.2.1 g'.2.2.2
  have c20 := fun w' (g' : Good w') => opText_any 1 1 w' g'.2.2.1 g'.2.2.2
  rw [al1] at c11
  rw [al2] at c9
  rw [al3] at c15
  rw [al4] at c15'
  rw [al5] at c13
  rw [al6] at c20
  go_enter Tryd.func17, Tryd.ntmps17
  go_wp2_with (first
    | (go_at_call 11; refine (c11 _ g).mono ?_; rintro e w1 ⟨rfl, hl1⟩)
    | (go_at_call 9; refine (c9 _ (go hl1)).mono ?_; rintro e w2 ⟨rfl, hl2⟩; have L2 := Later.trans hl1 hl2)
    | (go_at_call 15; apply Calls.mono; (focus (with_reducible (exact c15 _ (go L2)))); rintro e w3 ⟨rfl, hl3⟩; have L3 := Later.trans L2 hl3)
    | (go_at_call 15; apply Calls.mono; (focus (with_reducible (exact c15' _ (go L3)))); rintro e w4 ⟨rfl, hl4⟩; have L4 := Later.trans L3 hl4)
    | (go_at_call 13; refine (c13 _ (go L4)).mono ?_; rintro e w5 ⟨rfl, hl5⟩; have L5 := Later.trans L4 hl5)
    | (go_at_call 20; refine (c20 _ (go L5)).mono ?_; rintro e w6 ⟨rfl, hl6⟩; have L6 := Later.trans L5 hl6))
  go_ret
  exact ⟨rfl, L6⟩

end Go.Proofs.YtcfflgdklalcpaaDoor
