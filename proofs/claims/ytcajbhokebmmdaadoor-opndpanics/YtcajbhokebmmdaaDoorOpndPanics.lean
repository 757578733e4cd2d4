/-
  Proved: for every three numbers OpndPanics returns true: the register of what is no register's part, and of nil, panics; that of a register's part is told; the arguments read as before. The listed package variable stands as the program's text lays it (tied). Conditions: none besides.
-/
import Derived.Test.YtcajbhokebmmdaaDoorRows
import Derived.Test.YtcajbhokebmmdaaDoorCards
import Derived.Test.YtcajbhokebmmdaaDoorTie
import Derived.Test.YtcajbhokebmmdaaDoorRegsLaid
import Derived.Test.YtcajbhokebmmdaaDoorOpndAlive
import Derived.Test.YtcajbhokebmmdaaDoorOpndPan
import Derived.Test.YtcajbhokebmmdaaDoorPick
import Derived.WalkKit
import Derived.ProofKit
import Derived.OpenShut
import Derived.SizedLaws
import Derived.ShutString
import Derived.Stop.Joined
import Derived.SevenTiedAt
namespace Go.Proofs.YtcajbhokebmmdaaDoor.opndPanics
open Go.ChangeShapes Go.WideShapes Go.ChangeAt Go.RowKit
open Go.ChangeMaps (open_string shut_string)
set_option linter.unusedVariables false
set_option linter.unusedSimpArgs false

theorem own : ownKnob Tryd.prog.godebug = none := by kernel_rfl


set_option maxRecDepth 1000000 in
set_option maxHeartbeats 2000000 in
theorem walk (a0 : Int) (w0 : (Lit.int .i64 a0).wf = true) (a1 : Int) (w1 : (Lit.int .i64 a1).wf = true) (a2 : Int) (w2 : (Lit.int .i64 a2).wf = true) (w : World) (g : Good w) :
    Calls Tryd.prog 6 #[.int .i64 a0, .int .i64 a1, .int .i64 a2] w fun e w' => e = .returned (.bool true) ∧ Later w w' := by
  have hb0 : -9223372036854775808 ≤ a0 ∧ a0 ≤ 9223372036854775807 := by
    simp only [Lit.wf, Bool.and_eq_true, decide_eq_true_eq] at w0
    exact ⟨w0.1, w0.2⟩
  have cP := fun w' => pick_any a0 8 hb0 (by omega) w'
  generalize pick a0 8 = r at *
  have c0 := fun w' => panics_no .nilIface (Or.inl rfl) w'
  have c1 := fun w' => panics_no (.iface 45 (.agg #[.int .i64 a2])) (Or.inr (Or.inl ⟨_, rfl⟩)) w'
  have c2 := fun w' => panics_no (.iface 47 (.agg #[.int .i64 a1, .int .i64 a2])) (Or.inr (Or.inr (Or.inl ⟨_, rfl⟩))) w'
  have c3 := fun w' => panics_no (.iface 49 (.agg #[.int .i64 a1, .int .i64 r])) (Or.inr (Or.inr (Or.inr ⟨_, rfl⟩))) w'
  have c4 : ∀ w, Calls Tryd.prog 21 #[.iface 43 (.agg #[.int .i64 r])] w fun e w' => e = .returned (.int .i64 r) ∧ w' = w := fun w => reg_yes r w
  have ca : ∀ w', Good w' → Calls Tryd.prog 14 #[] w' fun e w'' => e = .returned (.bool true) ∧ Later w' w'' := fun w' (hT : Good w') => alive_any w' hT
  have HG : Hid (Good w) := g
  clear g w0 w1 w2 hb0
  go_enter Tryd.func6, Tryd.ntmps6
  go_wp2_with (first
    | (go_at_call 19; apply Calls.mono; (focus (with_reducible (exact cP _))); rintro e u0 ⟨rfl, hu0⟩; obtain rfl := hu0.symm)
    | (go_at_call 20; apply Calls.mono; (focus (with_reducible (exact c0 _))); rintro e u1 ⟨rfl, l1⟩)
    | (go_at_call 20; apply Calls.mono; (focus (with_reducible (exact c1 _))); rintro e u2 ⟨rfl, k2⟩; have l2 := Later.trans l1 k2)
    | (go_at_call 20; apply Calls.mono; (focus (with_reducible (exact c2 _))); rintro e u3 ⟨rfl, k3⟩; have l3 := Later.trans l2 k3)
    | (go_at_call 20; apply Calls.mono; (focus (with_reducible (exact c3 _))); rintro e u4 ⟨rfl, k4⟩; have l4 := Later.trans l3 k4)
    | (go_at_call 21; apply Calls.mono; (focus (with_reducible (exact c4 _))); rintro e u5 ⟨rfl, hu5⟩; obtain rfl := hu5.symm)
    | (go_at_call 14; apply Calls.mono; (focus (with_reducible (exact ca _ (HG.out.later l4)))); rintro e u6 ⟨rfl, k6⟩))
  go_ret
  exact ⟨rfl, l4.trans k6⟩

set_option maxRecDepth 100000 in
theorem lifted (os : Os) (started : os.Started) (H : Type) (enc : TypeId × Value → H) :
    ReturnsInHanded {} Tryd.checked os 6 .any (fun w args => (Rows.opndPanicsSpec.pre enc Tryd.prog Tryd.f6 [] false w args ∧ laidMetH Tryd.prog theList w) ∧ sizedMet enc Tryd.prog Tryd.f6 (OpenSpec.ofChange Rows.opndPanicsSpec) false w args)
      (Rows.opndPanicsSpec.post enc Tryd.prog Tryd.f6 false true false false) := by
  refine returnsInHanded_of_change_and (C := Tryd.checked) (X := fun w _ => laidMetH Tryd.prog theList w) (fun _ _ _ hh h => h.of_heap hh) own started (by kernel_rfl) Tryd.func6
    (ChangeSpec.witness_shaped (enc := enc) (C := Tryd.checked) (os := os) (X := fun w _ => laidMetH Tryd.prog theList w) false (World.laidAll Tryd.prog os theList) #[.int .i64 0, .int .i64 0, .int .i64 0] 8 (World.laidAll_os _ _ _) (World.shaped_of_ZipB (by kernel_rfl) (by kernel_rfl)) (by kernel_rfl) (by kernel_rfl) (by kernel_rfl) (door_met os _)) ?_
  intro W base args ds gs before hval0 hW _ hsz0 hL _
  have hsz : (DataW.weightsEach Tryd.prog (Tryd.f6.params.toList ++ Rows.opndPanicsSpec.plain.varTypes Tryd.prog) (ds ++ gs)).all (· ≤ reachBytes) = true := hsz0
  clear hsz0
  have hval : ∀ (j : Nat) t v, Tryd.f6.params[j]? = some t → args[j]? = some v → Value.okWide Tryd.prog W .any base t v := hval0
  have hW' := hW
  obtain ⟨p, q, hA0, hV, rfl, hfz, hnd⟩ := hW
  have hA : DataW.TrodAll enc Tryd.prog W 0 (fun _ => true) true Tryd.f6.params.toList args.toList ds p := hA0
  rw [Tryd.params6] at hA hval hsz
  obtain ⟨v0, vs0, d0, ds0, p0, q0, hargs, rfl, rfl, h0, r0⟩ := trodAll_cons hA
  obtain ⟨v1, vs1, d1, ds1, p1, q1, rfl, rfl, rfl, h1, r1⟩ := trodAll_cons r0
  obtain ⟨v2, vs2, d2, ds2, p2, q2, rfl, rfl, rfl, h2, r2⟩ := trodAll_cons r1
  obtain ⟨rfl, rfl, rfl⟩ := trodAll_nil r2
  obtain rfl : args = #[v0, v1, v2] := by cases args; simp_all
  obtain ⟨rfl, rfl⟩ := trodVars_none hV
  obtain ⟨a0, rfl, rfl, rfl, w0⟩ := open_int Tryd.underlying3 (hval 0 3 v0 rfl rfl) h0
  obtain ⟨a1, rfl, rfl, rfl, w1⟩ := open_int Tryd.underlying3 (hval 1 3 v1 rfl rfl) h1
  obtain ⟨a2, rfl, rfl, rfl, w2⟩ := open_int Tryd.underlying2 (hval 2 2 v2 rfl rfl) h2
  clear hA0 hval0
  simp only [List.append_nil] at hW'
  refine (walk a0 w0 a1 w1 a2 w2 W (Good.of_laid hL)).mono fun e W' ⟨he, hnx⟩ => ?_
  subst he
  refine ⟨_, rfl, _, _, _, [], [], [], hW', ?_, ?_, rfl, Below.frame hnx _, fun h => by cases h⟩
  · exact (trodAll_cons_mk (shut_bool Tryd.underlying4 _) trodAll_mk0)
  · exact (trodAll_cons_mk (shut_int Tryd.underlying3 w0) (trodAll_cons_mk (shut_int Tryd.underlying3 w1) (trodAll_cons_mk (shut_int Tryd.underlying2 w2) trodAll_mk0)))

theorem over : Rows.opndPanicsRow.holds Tryd.pinned (OpenSpec.ofChange Rows.opndPanicsSpec) :=
  OpenClaim.holds_of_wide 6 Tryd.f6 rfl rfl rfl rfl rfl rfl rfl ⟨rfl, rfl, rfl, rfl, rfl⟩ rfl rfl rfl rfl rfl (by kernel_rfl) Tryd.func6 (by kernel_rfl)
    (of_decide_eq_true (by kernel_rfl)) (by unfold Func.isWrapper; first | (rw [if_pos (by decide +kernel)]; kernel_rfl) | (rw [if_neg (by decide +kernel)]; exact ⟨rfl, rfl⟩))
    (fun os started H enc _ => lifted os started H enc)

end Go.Proofs.YtcajbhokebmmdaaDoor.opndPanics

namespace Go.Proofs.YtcajbhokebmmdaaDoor
open Go
/-- The statement: the row, with its listed variables tied to the program's text. -/
theorem opndPanics_holds : Rows.OpndPanicsCardSaid :=
  Claim7.holds_tied_plain_at .later [] [.data] true Rows.opndPanicsCard.stood.harness true
    opndPanics.over (fun _ h => by cases h) (by kernel_rfl) (fun _ h => by cases h) opndPanics_row_tie rfl ⟨rfl, rfl⟩ (by kernel_rfl) rfl
    (fun f fn hf hfn => by
      obtain rfl : f = 6 := Option.some.inj ((show Tryd.prog.funcNamed Rows.opndPanicsRow.func = some 6 by kernel_rfl).symm.trans hf) |>.symm
      obtain rfl : fn = Tryd.f6 := (Option.some.inj (Tryd.func6.symm.trans hfn)).symm
      exact ⟨by kernel_rfl, fun j t ht => by
        rw [Tryd.params6] at ht
        have hm : t ∈ [3, 3, 2] := by simpa using Array.mem_of_getElem? ht
        have hall : ([3, 3, 2].all fun u => !Tryd.prog.wantsStandIn u) = true := by kernel_rfl
        exact (show Tryd.prog.wantsStandIn t = false by simpa using List.all_eq_true.1 hall t hm)⟩)
    (by kernel_rfl)
#print axioms opndPanics_holds
end Go.Proofs.YtcajbhokebmmdaaDoor
