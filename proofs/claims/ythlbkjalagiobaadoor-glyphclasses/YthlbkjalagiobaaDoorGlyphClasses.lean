/-
  Proved: for every number of 32 bits GlyphClasses returns true: whether it is a letter, a digit or a blank is what the document says, and it is at most one of them; the argument reads as before. The listed package variables stand as the program's text lays them (tied). Conditions: none besides.
-/
import Derived.Test.YthlbkjalagiobaaDoorRows
import Derived.Test.YthlbkjalagiobaaDoorCards
import Derived.Test.YthlbkjalagiobaaDoorTie
import Derived.Test.YthlbkjalagiobaaDoorLaid
import Derived.Test.YthlbkjalagiobaaDoorAlive
import Derived.WalkKit
import Derived.ProofKit
import Derived.OpenShut
import Derived.SizedLaws
import Derived.ShutString
import Derived.Stop.Joined
import Derived.SevenTiedAt
namespace Go.Proofs.YthlbkjalagiobaaDoor.glyphClasses
open Go.ChangeShapes Go.WideShapes Go.ChangeAt Go.RowKit
open Go.ChangeMaps (open_string shut_string)
set_option linter.unusedVariables false

theorem own : ownKnob Tryd.prog.godebug = none := by kernel_rfl

theorem apart (r : Int) : (letterF r && digitF r) = false ∧ (letterF r && blankF r) = false ∧ (digitF r && blankF r) = false := by
  refine ⟨?_, ?_, ?_⟩ <;> rw [Bool.and_eq_false_iff] <;> simp only [letterF, digitF, blankF, decide_eq_false_iff_not] <;> omega

set_option maxHeartbeats 4000000 in
theorem walk (a0 : Int) (w0 : (Lit.int .i32 a0).wf = true) (w : World) (g : Good w) :
    Calls Tryd.prog 4 #[.int .i32 a0] w fun e w' => e = .returned (.bool true) ∧ Later w w' := by
  have go : ∀ {w'}, Later w w' → Good w' := fun h => g.later h
  have l0 : Later w w := Later.refl w
  obtain ⟨h1, h2, h3⟩ := apart a0
  have c1 := fun w' => letter_any a0 w'
  have c2 := fun w' => digit_any a0 w'
  have c3 := fun w' => blank_any a0 w'
  have r1 := fun w' => refLetter_any a0 w'
  have r2 := fun w' => refDigit_any a0 w'
  have r3 := fun w' => refBlank_any a0 w'
  clear w0
  generalize letterF a0 = A at *
  generalize digitF a0 = B at *
  generalize blankF a0 = C at *
  cases A <;> cases B <;> cases C
  all_goals first | (exfalso; revert h1 h2 h3; decide) | skip
  all_goals clear h1 h2 h3
  all_goals go_enter Tryd.func4, Tryd.ntmps4
  all_goals go_wp2_with (first | (go_at_call 15; refine (c1 _).mono ?_; rintro e w' ⟨rfl, hl⟩; have hl' := Later.trans ‹Later w _› hl) | (go_at_call 16; refine (c2 _).mono ?_; rintro e w' ⟨rfl, hl⟩; have hl' := Later.trans ‹Later w _› hl) | (go_at_call 17; refine (c3 _).mono ?_; rintro e w' ⟨rfl, hl⟩; have hl' := Later.trans ‹Later w _› hl) | (go_at_call 18; refine (r1 _).mono ?_; rintro e w' ⟨rfl, hl⟩; have hl' := Later.trans ‹Later w _› hl) | (go_at_call 19; refine (r2 _).mono ?_; rintro e w' ⟨rfl, hl⟩; have hl' := Later.trans ‹Later w _› hl) | (go_at_call 20; refine (r3 _).mono ?_; rintro e w' ⟨rfl, hl⟩; have hl' := Later.trans ‹Later w _› hl) | (go_at_call 14; refine (alive_any _ (go ‹_›)).mono ?_; rintro e w' ⟨rfl, hl⟩; have hl' := Later.trans ‹Later w _› hl))
  all_goals go_ret
  all_goals exact ⟨rfl, ‹Later w _›⟩

set_option maxRecDepth 100000 in
theorem lifted (os : Os) (started : os.Started) (H : Type) (enc : TypeId × Value → H) :
    ReturnsInHanded {} Tryd.checked os 4 .any (fun w args => (Rows.glyphClassesSpec.pre enc Tryd.prog Tryd.f4 [] false w args ∧ laidMetH Tryd.prog theList w) ∧ sizedMet enc Tryd.prog Tryd.f4 (OpenSpec.ofChange Rows.glyphClassesSpec) false w args)
      (Rows.glyphClassesSpec.post enc Tryd.prog Tryd.f4 false true false false) := by
  refine returnsInHanded_of_change_and (C := Tryd.checked) (X := fun w _ => laidMetH Tryd.prog theList w) (fun _ _ _ hh h => h.of_heap hh) own started (by kernel_rfl) Tryd.func4
    (ChangeSpec.witness_shaped (enc := enc) (C := Tryd.checked) (os := os) (X := fun w _ => laidMetH Tryd.prog theList w) false (World.laidAll Tryd.prog os theList) #[.int .i32 0] 8 (World.laidAll_os _ _ _) (World.shaped_of_ZipB (by kernel_rfl) (by kernel_rfl)) (by kernel_rfl) (by kernel_rfl) (by kernel_rfl) (door_met os _)) ?_
  intro W base args ds gs before hval0 hW _ hsz0 hL _
  have hsz : (DataW.weightsEach Tryd.prog (Tryd.f4.params.toList ++ Rows.glyphClassesSpec.plain.varTypes Tryd.prog) (ds ++ gs)).all (· ≤ reachBytes) = true := hsz0
  clear hsz0
  have hval : ∀ (j : Nat) t v, Tryd.f4.params[j]? = some t → args[j]? = some v → Value.okWide Tryd.prog W .any base t v := hval0
  have hW' := hW
  obtain ⟨p, q, hA0, hV, rfl, hfz, hnd⟩ := hW
  have hA : DataW.TrodAll enc Tryd.prog W 0 (fun _ => true) true Tryd.f4.params.toList args.toList ds p := hA0
  rw [Tryd.params4] at hA hval hsz
  obtain ⟨v0, vs0, d0, ds0, p0, q0, hargs, rfl, rfl, h0, r0⟩ := trodAll_cons hA
  obtain ⟨rfl, rfl, rfl⟩ := trodAll_nil r0
  obtain rfl : args = #[v0] := by cases args; simp_all
  obtain ⟨rfl, rfl⟩ := trodVars_none hV
  obtain ⟨a0, rfl, rfl, rfl, w0⟩ := open_int Tryd.underlying21 (hval 0 21 v0 rfl rfl) h0
  clear hA0 hval0
  simp only [List.append_nil] at hW'
  refine (walk a0 w0 W (Good.of_laid hL)).mono fun e W' ⟨he, hnx⟩ => ?_
  subst he
  refine ⟨_, rfl, _, _, _, [], [], [], hW', ?_, ?_, rfl, Below.frame hnx _, fun h => by cases h⟩
  · exact (trodAll_cons_mk (shut_bool Tryd.underlying4 _) trodAll_mk0)
  · exact (trodAll_cons_mk (shut_int Tryd.underlying21 w0) trodAll_mk0)

theorem over : Rows.glyphClassesRow.holds Tryd.pinned (OpenSpec.ofChange Rows.glyphClassesSpec) :=
  OpenClaim.holds_of_wide 4 Tryd.f4 rfl rfl rfl rfl rfl rfl rfl ⟨rfl, rfl, rfl, rfl, rfl⟩ rfl rfl rfl rfl rfl (by kernel_rfl) Tryd.func4 (by kernel_rfl)
    (of_decide_eq_true (by kernel_rfl)) (by unfold Func.isWrapper; first | (rw [if_pos (by decide +kernel)]; kernel_rfl) | (rw [if_neg (by decide +kernel)]; exact ⟨rfl, rfl⟩))
    (fun os started H enc _ => lifted os started H enc)

end Go.Proofs.YthlbkjalagiobaaDoor.glyphClasses

namespace Go.Proofs.YthlbkjalagiobaaDoor
open Go
/-- The statement: the row, with its listed variables tied to the program's text. -/
theorem glyphClasses_holds : Rows.GlyphClassesCardSaid :=
  Claim7.holds_tied_plain_at .later [] [.data, .pinned] true Rows.glyphClassesCard.stood.harness false
    glyphClasses.over (fun _ h => by cases h) (by kernel_rfl) (fun _ h => by cases h) glyphClasses_row_tie rfl ⟨rfl, rfl⟩ (by kernel_rfl) rfl
    (fun f fn hf hfn => by
      obtain rfl : f = 4 := Option.some.inj ((show Tryd.prog.funcNamed Rows.glyphClassesRow.func = some 4 by kernel_rfl).symm.trans hf) |>.symm
      obtain rfl : fn = Tryd.f4 := (Option.some.inj (Tryd.func4.symm.trans hfn)).symm
      exact ⟨by kernel_rfl, fun j t ht => by
        rw [Tryd.params4] at ht
        have hm : t ∈ [21] := by simpa using Array.mem_of_getElem? ht
        have hall : ([21].all fun u => !Tryd.prog.wantsStandIn u) = true := by kernel_rfl
        exact (show Tryd.prog.wantsStandIn t = false by simpa using List.all_eq_true.1 hall t hm)⟩)
    (by kernel_rfl)
#print axioms glyphClasses_holds
end Go.Proofs.YthlbkjalagiobaaDoor
