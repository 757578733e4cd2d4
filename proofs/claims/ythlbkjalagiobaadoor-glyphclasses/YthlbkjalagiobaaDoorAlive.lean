/-
  The first call whose answer the document fixes returns true. Nothing that was in memory turns. Conditions: the library's tables stand as its text lays them.
-/
import Derived.Test.YthlbkjalagiobaaDoorSpots
namespace Go.Proofs.YthlbkjalagiobaaDoor
open Go.RowKit

theorem spots_first : spots ⟨#[195, 169, 10]⟩ = [⟨233, 0, 2, 1, 1, false⟩, ⟨10, 2, 1, 1, 2, false⟩] := by kernel_rfl
theorem place_first : placeOf (spots ⟨#[97, 10, 195, 169, 98]⟩) = (5, 2, 3) := by kernel_rfl

set_option maxRecDepth 1000000 in
set_option maxHeartbeats 4000000 in
theorem alive_any (w : World) (g : Good w) :
    Calls Tryd.prog 14 #[] w fun e w' => e = .returned (.bool true) ∧ Later w w' := by
  have hS := fun w' g' => spots_any ⟨#[195, 169, 10]⟩ (by decide) w' g'
  have hE := fun w' => end_any ⟨#[97, 10, 195, 169, 98]⟩ (by decide) w'
  rw [place_first] at hE
  rw [spots_first] at hS
  have hL1 : letterF 95 = true := by decide
  have hL2 : letterF 49 = false := by decide
  have go : ∀ {w'}, Later w w' → Good w' := fun h => g.later h
  go_enter Tryd.func14, Tryd.ntmps14
  go_wp2_with (first
    | (go_at_call 12; refine (hS _ (go (Later.refl _))).mono ?_; rintro e w1 ⟨⟨a, cap, rfl, hrow⟩, hl1⟩; obtain ⟨gg, rfl, -⟩ := hrow.get (i := 0) rfl)
    | (go_at_call 9; refine (hE _).mono ?_; rintro e w2 ⟨rfl, hl2⟩; have L2 : Later w w2 := Later.trans hl1 hl2; have hr := hrow.later hl2; obtain ⟨g1, e1, p0, p1, p2, p3, p4, p5⟩ := hr.get (i := 0) rfl; cases e1; obtain ⟨g2, e2, q0, q1, q2, q3, q4, q5⟩ := hr.get (i := 1) rfl; cases e2; simp only [Nat.zero_mul, Nat.zero_add, Nat.one_mul] at p0 p1 p2 p3 p4 p5 q0 q1 q2 q3 q4 q5; clear hrow hr)
    | (go_at_call 15; refine (letter_any _ _).mono ?_; rintro e w3 ⟨rfl, hl3⟩; have L3 := Later.trans ‹Later w _› hl3))
  go_ret
  exact ⟨rfl, ‹Later w _›⟩

end Go.Proofs.YthlbkjalagiobaaDoor
