/-
  The law's first look returns true. Nothing that was in memory turns. Conditions: the table of the registers' words stands as the program's text lays it.
-/
import Derived.Test.YtcajbhokebmmdaaDoorOpndText
namespace Go.Proofs.YtcajbhokebmmdaaDoor
open Go.RowKit
set_option linter.unusedVariables false
set_option linter.unusedSimpArgs false

theorem x_rbx : cellT ⟨#[120]⟩ (textAt regsT 1) = ⟨#[120, 91, 114, 98, 120, 93]⟩ := by
  have e : textAt regsT 1 = ⟨#[114, 98, 120]⟩ := rfl
  rw [e]
  decide

set_option maxRecDepth 1000000 in
set_option maxHeartbeats 1000000 in
theorem alive_any (w : World) (hR : Tab w 0 regsT) :
    Calls Tryd.prog 14 #[] w fun e w' => e = .returned (.bool true) ∧ Later w w' := by
  have c1 : ∀ w, Calls Tryd.prog 16 #[.iface 47 (.agg #[.int .i64 2, .int .i64 1])] w fun e w' => e = .returned (.tuple #[.int .i64 2, .bool true]) ∧ Later w w' := fun w => memory_part ⟨3, 0, 2, 1⟩ (by simp) w
  have c2 : ∀ w, Calls Tryd.prog 16 #[.iface 45 (.agg #[.int .i64 3])] w fun e w' => e = .returned (.tuple #[.int .i64 0, .bool false]) ∧ Later w w' := fun w => memory_part ⟨2, 0, 0, 3⟩ (by simp) w
  have c3 : ∀ w, Calls Tryd.prog 21 #[.iface 43 (.agg #[.int .i64 2])] w fun e w' => e = .returned (.int .i64 2) ∧ w' = w := fun w => reg_yes 2 w
  have c4 : ∀ w (hR : Tab w 0 regsT), Calls Tryd.prog 12 #[.agg #[.int .i64 4, .int .i64 1, .int .i64 0, .int .i64 0], .slice (some ⟨w.heap.size, 0, none⟩) 1 1] (w.alloc (.cells #[.string ⟨#[120]⟩] 9)) fun e w' => e = .returned (.string ⟨#[120, 91, 114, 98, 120, 93]⟩) ∧ Later w w' := fun w hR => by
    have h := text_by 0 1 (by omega) [⟨#[120]⟩] ⟨#[120]⟩ rfl (by decide) w.heap.size 1 1 rfl (by omega) (by omega) (w.alloc (.cells #[.string ⟨#[120]⟩] 9)) (hR.later (Later.alloc (Later.refl _) _)) (by
      intro i t hi
      match i, hi with
      | 0, hi => simp at hi; subst hi; exact (box1_facts (at_new w (.cells #[.string ⟨#[120]⟩] 9))).1
      | i + 1, hi => simp at hi)
    rw [x_rbx] at h
    exact h.mono fun e w' ⟨he, hl⟩ => ⟨he, (Later.alloc (Later.refl _) _).trans hl⟩
  have c5 : ∀ w (hR : Tab w 0 regsT), Calls Tryd.prog 10 #[.agg #[.int .i64 2, .int .i64 0, .int .i64 0, .int .i64 0]] w fun e w' => e = .returned (.bool true) ∧ Later w w' := fun w hR => right_any ⟨2, 0, 0, 0⟩ w hR
  have HR : Hid (Tab w 0 regsT) := hR
  clear hR
  go_enter Tryd.func14, Tryd.ntmps14
  go_wp2_with (first
    | (go_at_call 16; apply Calls.mono; (focus (with_reducible (exact c1 _))); rintro e w1 ⟨rfl, hl1⟩)
    | (go_at_call 16; apply Calls.mono; (focus (with_reducible (exact c2 _))); rintro e w2 ⟨rfl, hl2⟩; have l2 := Later.trans hl1 hl2)
    | (go_at_call 21; apply Calls.mono; (focus (with_reducible (exact c3 _))); rintro e w3 ⟨rfl, h3⟩; obtain rfl := h3.symm)
    | (go_at_call 12; apply Calls.mono; (focus (with_reducible (exact c4 _ (HR.out.later l2)))); rintro e w4 ⟨rfl, hl4⟩; have l4 := Later.trans l2 hl4)
    | (go_at_call 10; apply Calls.mono; (focus (with_reducible (exact c5 _ (HR.out.later l4)))); rintro e w5 ⟨rfl, hl5⟩))
  go_ret
  exact ⟨rfl, l4.trans hl5⟩

end Go.Proofs.YtcajbhokebmmdaaDoor
