/-
  Proved: for all numbers NamesBack returns true: a word that is told is read as what it was told of, is a word of the language and no name, and no two registers have one word; the arguments read as before. The listed package variables stand as the program's text lays them (tied). Conditions: none besides.
-/
import Derived.Test.YtcfflgdklalcpaaDoorRows
import Derived.Test.YtcfflgdklalcpaaDoorCards
import Derived.Test.YtcfflgdklalcpaaDoorTie
import Derived.Test.YtcfflgdklalcpaaDoorLaid
import Derived.Test.YtcfflgdklalcpaaDoorAlive
import Derived.WalkKit
import Derived.ProofKit
import Derived.OpenShut
import Derived.SizedLaws
import Derived.ShutString
import Derived.Stop.Joined
import Derived.SevenTiedAt
namespace Go.Proofs.YtcfflgdklalcpaaDoor.namesBack
open Go.ChangeShapes Go.WideShapes Go.ChangeAt Go.RowKit
open Go.ChangeMaps (open_string shut_string)
set_option linter.unusedVariables false

theorem own : ownKnob Tryd.prog.godebug = none := by kernel_rfl

theorem back_reg : ∀ n : Fin 8, regF (textAt regsT (n.val : Int)) = ((n.val : Int), true) ∧ wordF (textAt regsT (n.val : Int)) = true ∧ rightF (textAt regsT (n.val : Int)) = false ∧ (textAt regsT (n.val : Int)).size ≤ 1000 := by decide +kernel
theorem back_two : ∀ n m : Fin 8, ((textAt regsT (m.val : Int)).data.toList == (textAt regsT (n.val : Int)).data.toList) = ((n.val : Int) == (m.val : Int)) := by decide +kernel
theorem back_op : ∀ n : Fin 14, (1 + (n.val : Int) == 11) = false → opF (opTextF (1 + (n.val : Int)) 0) = (1 + (n.val : Int), 0, true) ∧ wordF (opTextF (1 + (n.val : Int)) 0) = true ∧ rightF (opTextF (1 + (n.val : Int)) 0) = false ∧ (opTextF (1 + (n.val : Int)) 0).size ≤ 1000 := by decide +kernel
theorem back_jump : ∀ n : Fin 10, opF (opTextF 11 (1 + (n.val : Int))) = (11, 1 + (n.val : Int), true) ∧ wordF (opTextF 11 (1 + (n.val : Int))) = true ∧ rightF (opTextF 11 (1 + (n.val : Int))) = false ∧ (opTextF 11 (1 + (n.val : Int))).size ≤ 1000 := by decide +kernel

theorem to_fin (a : Int) (m : Nat) (hm : 0 < m) : ∃ n : Fin m, pick a (m : Int) = (n.val : Int) := by
  have b1 := Int.emod_nonneg a (show (m : Int) ≠ 0 by omega)
  have b2 := Int.emod_lt_of_pos a (show (0 : Int) < (m : Int) by omega)
  exact ⟨⟨(pick a m).toNat, by unfold pick; omega⟩, by unfold pick; simp; omega⟩

set_option maxRecDepth 1000000 in
set_option maxHeartbeats 1000000 in
theorem walk (a0 : Int) (w0 : (Lit.int .i64 a0).wf = true) (a1 : Int) (w1 : (Lit.int .i64 a1).wf = true) (w : World) (g : Good w) :
    Calls Tryd.prog 5 #[.int .i64 a0, .int .i64 a1] w fun e w' => e = .returned (.bool true) ∧ Later w w' := by
  have go : ∀ {w'}, Later w w' → Good w' := fun h => g.later h
  have d0 := bounds_i64 w0
  have d1 := bounds_i64 w1
  have p1 := fun w' => pick_any a0 8 (by omega) (by omega) w'
  have p2 := fun w' => pick_any a1 8 (by omega) (by omega) w'
  have p3 := fun w' => pick_any a0 14 (by omega) (by omega) w'
  have p4 := fun w' => pick_any a1 10 (by omega) (by omega) w'
  obtain ⟨i, hi⟩ := to_fin a0 8 (by omega)
  obtain ⟨k, hk⟩ := to_fin a1 8 (by omega)
  obtain ⟨o, ho⟩ := to_fin a0 14 (by omega)
  obtain ⟨c, hc⟩ := to_fin a1 10 (by omega)
  rw [show pick a0 8 = pick a0 ((8 : Nat) : Int) from rfl, hi] at p1
  rw [show pick a1 8 = pick a1 ((8 : Nat) : Int) from rfl, hk] at p2
  rw [show pick a0 14 = pick a0 ((14 : Nat) : Int) from rfl, ho] at p3
  rw [show pick a1 10 = pick a1 ((10 : Nat) : Int) from rfl, hc] at p4
  clear hi hk ho hc w0 w1 d0 d1
  obtain ⟨r1, r2, r3, r4⟩ := back_reg i
  have r5 := back_two i k
  have q18 := fun w' (g' : Good w') => regText_any (i.val : Int) w' g'.2.1
  have q18' := fun w' (g' : Good w') => regText_any (k.val : Int) w' g'.2.1
  generalize textAt regsT (i.val : Int) = S at *
  generalize textAt regsT (k.val : Int) = S' at *
  have q9 := fun w' (g' : Good w') => reg_any S w' g'.2.1
  have q13 := fun w' (g' : Good w') => word_any S w' g'.2.1 g'.2.2.1 g'.2.2.2
  have q15 := fun w' (g' : Good w') => right_any S r4 w' g'
  rw [r1] at q9
  rw [r2] at q13
  rw [r3] at q15
  rw [← ByteArray.toList_eq, ← ByteArray.toList_eq] at r5
  have hi8 : i.val < 8 := i.isLt
  have hk8 : k.val < 8 := k.isLt
  generalize i.val = i at *
  generalize k.val = k at *
  obtain ⟨q, hq⟩ : ∃ q, ((i : Int) == (k : Int)) = q := ⟨_, rfl⟩
  rw [hq] at r5
  have L0 := Later.refl w
  clear r1 r2 r3 r4
  cases h11 : (1 + (o.val : Int) == 11) with
  | false =>
    obtain ⟨s1, s2, s3, s4⟩ := back_op o h11
    have ho := o.isLt
    generalize o.val = o at *
    obtain ⟨O, hO⟩ : ∃ O, 1 + (o : Int) = O := ⟨_, rfl⟩
    rw [hO] at h11 s1 s2 s3 s4
    have hO1 : 1 ≤ O := by omega
    have hO2 : O ≤ 14 := by omega
    have q20 := fun w' (g' : Good w') => opText_any O 0 w' g'.2.2.1 g'.2.2.2
    generalize opTextF O 0 = U at *
    have q11 := fun w' (g' : Good w') => op_any U w' g'.2.2.1 g'.2.2.2
    have u13 := fun w' (g' : Good w') => word_any U w' g'.2.1 g'.2.2.1 g'.2.2.2
    have u15 := fun w' (g' : Good w') => right_any U s4 w' g'
    rw [s1] at q11
    rw [s2] at u13
    rw [s3] at u15
    clear s1 s2 s3 s4 p4 c
    go_enter Tryd.func5, Tryd.ntmps5
    go_wp2_with (first
      | (go_at_call 22; apply Calls.mono; (focus (with_reducible (first | exact p1 _ | exact p2 _ | exact p3 _))); rintro e w' ⟨rfl, hl⟩; have hl' := Later.trans ‹Later w _› hl)
      | (go_at_call 18; apply Calls.mono; (focus (with_reducible (first | exact q18 _ (go ‹Later w _›) | exact q18' _ (go ‹Later w _›)))); rintro e w' ⟨rfl, hl⟩; have hl' := Later.trans ‹Later w _› hl)
      | (go_at_call 9; refine (q9 _ (go ‹Later w _›)).mono ?_; rintro e w' ⟨rfl, hl⟩; have hl' := Later.trans ‹Later w _› hl)
      | (go_at_call 13; apply Calls.mono; (focus (with_reducible (first | exact q13 _ (go ‹Later w _›) | exact u13 _ (go ‹Later w _›)))); rintro e w' ⟨rfl, hl⟩; have hl' := Later.trans ‹Later w _› hl)
      | (go_at_call 15; apply Calls.mono; (focus (with_reducible (first | exact q15 _ (go ‹Later w _›) | exact u15 _ (go ‹Later w _›)))); rintro e w' ⟨rfl, hl⟩; have hl' := Later.trans ‹Later w _› hl)
      | (go_at_call 20; refine (q20 _ (go ‹Later w _›)).mono ?_; rintro e w' ⟨rfl, hl⟩; have hl' := Later.trans ‹Later w _› hl)
      | (go_at_call 11; refine (q11 _ (go ‹Later w _›)).mono ?_; rintro e w' ⟨rfl, hl⟩; have hl' := Later.trans ‹Later w _› hl)
      | (go_at_call 17; refine (alive_any _ (go ‹Later w _›)).mono ?_; rintro e w' ⟨rfl, hl⟩; have hl' := Later.trans ‹Later w _› hl))
    go_ret
    exact ⟨rfl, ‹Later w _›⟩
  | true =>
    obtain ⟨s1, s2, s3, s4⟩ := back_jump c
    have hO : 1 + (o.val : Int) = 11 := by simpa using h11
    have ho := o.isLt
    have hc := c.isLt
    generalize o.val = o at *
    generalize c.val = c at *
    obtain ⟨C, hC⟩ : ∃ C, 1 + (c : Int) = C := ⟨_, rfl⟩
    rw [hC] at s1 s2 s3 s4
    have hC1 : 1 ≤ C := by omega
    have hC2 : C ≤ 10 := by omega
    have q20 := fun w' (g' : Good w') => opText_any 11 C w' g'.2.2.1 g'.2.2.2
    generalize opTextF 11 C = U at *
    have q11 := fun w' (g' : Good w') => op_any U w' g'.2.2.1 g'.2.2.2
    have u13 := fun w' (g' : Good w') => word_any U w' g'.2.1 g'.2.2.1 g'.2.2.2
    have u15 := fun w' (g' : Good w') => right_any U s4 w' g'
    rw [s1] at q11
    rw [s2] at u13
    rw [s3] at u15
    clear s1 s2 s3 s4
    go_enter Tryd.func5, Tryd.ntmps5
    go_wp2_with (first
      | (go_at_call 22; apply Calls.mono; (focus (with_reducible (first | exact p1 _ | exact p2 _ | exact p3 _ | exact p4 _))); rintro e w' ⟨rfl, hl⟩; have hl' := Later.trans ‹Later w _› hl)
      | (go_at_call 18; apply Calls.mono; (focus (with_reducible (first | exact q18 _ (go ‹Later w _›) | exact q18' _ (go ‹Later w _›)))); rintro e w' ⟨rfl, hl⟩; have hl' := Later.trans ‹Later w _› hl)
      | (go_at_call 9; refine (q9 _ (go ‹Later w _›)).mono ?_; rintro e w' ⟨rfl, hl⟩; have hl' := Later.trans ‹Later w _› hl)
      | (go_at_call 13; apply Calls.mono; (focus (with_reducible (first | exact q13 _ (go ‹Later w _›) | exact u13 _ (go ‹Later w _›)))); rintro e w' ⟨rfl, hl⟩; have hl' := Later.trans ‹Later w _› hl)
      | (go_at_call 15; apply Calls.mono; (focus (with_reducible (first | exact q15 _ (go ‹Later w _›) | exact u15 _ (go ‹Later w _›)))); rintro e w' ⟨rfl, hl⟩; have hl' := Later.trans ‹Later w _› hl)
      | (go_at_call 20; refine (q20 _ (go ‹Later w _›)).mono ?_; rintro e w' ⟨rfl, hl⟩; have hl' := Later.trans ‹Later w _› hl)
      | (go_at_call 11; refine (q11 _ (go ‹Later w _›)).mono ?_; rintro e w' ⟨rfl, hl⟩; have hl' := Later.trans ‹Later w _› hl)
      | (go_at_call 17; refine (alive_any _ (go ‹Later w _›)).mono ?_; rintro e w' ⟨rfl, hl⟩; have hl' := Later.trans ‹Later w _› hl))
    go_ret
    exact ⟨rfl, ‹Later w _›⟩

set_option maxRecDepth 100000 in
theorem lifted (os : Os) (started : os.Started) (H : Type) (enc : TypeId × Value → H) :
    ReturnsInHanded {} Tryd.checked os 5 .any (fun w args => (Rows.namesBackSpec.pre enc Tryd.prog Tryd.f5 [] false w args ∧ laidMetH Tryd.prog theList w) ∧ sizedMet enc Tryd.prog Tryd.f5 (OpenSpec.ofChange Rows.namesBackSpec) false w args)
      (Rows.namesBackSpec.post enc Tryd.prog Tryd.f5 false true false false) := by
  refine returnsInHanded_of_change_and (C := Tryd.checked) (X := fun w _ => laidMetH Tryd.prog theList w) (fun _ _ _ hh h => h.of_heap hh) own started (by kernel_rfl) Tryd.func5
    (ChangeSpec.witness_shaped (enc := enc) (C := Tryd.checked) (os := os) (X := fun w _ => laidMetH Tryd.prog theList w) false (World.laidAll Tryd.prog os theList) #[.int .i64 0, .int .i64 0] 8 (World.laidAll_os _ _ _) (World.shaped_of_ZipB (by kernel_rfl) (by kernel_rfl)) (by kernel_rfl) (by kernel_rfl) (by kernel_rfl) (door_met os _)) ?_
  intro W base args ds gs before hval0 hW _ hsz0 hL _
  have hsz : (DataW.weightsEach Tryd.prog (Tryd.f5.params.toList ++ Rows.namesBackSpec.plain.varTypes Tryd.prog) (ds ++ gs)).all (· ≤ reachBytes) = true := hsz0
  clear hsz0
  have hval : ∀ (j : Nat) t v, Tryd.f5.params[j]? = some t → args[j]? = some v → Value.okWide Tryd.prog W .any base t v := hval0
  have hW' := hW
  obtain ⟨p, q, hA0, hV, rfl, hfz, hnd⟩ := hW
  have hA : DataW.TrodAll enc Tryd.prog W 0 (fun _ => true) true Tryd.f5.params.toList args.toList ds p := hA0
  rw [Tryd.params5] at hA hval hsz
  obtain ⟨v0, vs0, d0, ds0, p0, q0, hargs, rfl, rfl, h0, r0⟩ := trodAll_cons hA
  obtain ⟨v1, vs1, d1, ds1, p1, q1, rfl, rfl, rfl, h1, r1⟩ := trodAll_cons r0
  obtain ⟨rfl, rfl, rfl⟩ := trodAll_nil r1
  obtain rfl : args = #[v0, v1] := by cases args; simp_all
  obtain ⟨rfl, rfl⟩ := trodVars_none hV
  obtain ⟨a0, rfl, rfl, rfl, w0⟩ := open_int Tryd.underlying3 (hval 0 3 v0 rfl rfl) h0
  obtain ⟨a1, rfl, rfl, rfl, w1⟩ := open_int Tryd.underlying3 (hval 1 3 v1 rfl rfl) h1
  clear hA0 hval0
  simp only [List.append_nil] at hW'
  refine (walk a0 w0 a1 w1 W (Good.of_laid hL)).mono fun e W' ⟨he, hnx⟩ => ?_
  subst he
  refine ⟨_, rfl, _, _, _, [], [], [], hW', ?_, ?_, rfl, Below.frame hnx _, fun h => by cases h⟩
  · exact (trodAll_cons_mk (shut_bool Tryd.underlying4 _) trodAll_mk0)
  · exact (trodAll_cons_mk (shut_int Tryd.underlying3 w0) (trodAll_cons_mk (shut_int Tryd.underlying3 w1) trodAll_mk0))

theorem over : Rows.namesBackRow.holds Tryd.pinned (OpenSpec.ofChange Rows.namesBackSpec) :=
  OpenClaim.holds_of_wide 5 Tryd.f5 rfl rfl rfl rfl rfl rfl rfl ⟨rfl, rfl, rfl, rfl, rfl⟩ rfl rfl rfl rfl rfl (by kernel_rfl) Tryd.func5 (by kernel_rfl)
    (of_decide_eq_true (by kernel_rfl)) (by unfold Func.isWrapper; first | (rw [if_pos (by decide +kernel)]; kernel_rfl) | (rw [if_neg (by decide +kernel)]; exact ⟨rfl, rfl⟩))
    (fun os started H enc _ => lifted os started H enc)

end Go.Proofs.YtcfflgdklalcpaaDoor.namesBack

namespace Go.Proofs.YtcfflgdklalcpaaDoor
open Go
/-- The statement: the row, with its listed variables tied to the program's text. -/
theorem namesBack_holds : Rows.NamesBackCardSaid :=
  Claim7.holds_tied_plain_at .later [] [.data, .data, .data, .data, .pinned] true Rows.namesBackCard.stood.harness false
    namesBack.over (fun _ h => by cases h) (by kernel_rfl) (fun _ h => by cases h) namesBack_row_tie rfl ⟨rfl, rfl⟩ (by kernel_rfl) rfl
    (fun f fn hf hfn => by
      obtain rfl : f = 5 := Option.some.inj ((show Tryd.prog.funcNamed Rows.namesBackRow.func = some 5 by kernel_rfl).symm.trans hf) |>.symm
      obtain rfl : fn = Tryd.f5 := (Option.some.inj (Tryd.func5.symm.trans hfn)).symm
      exact ⟨by kernel_rfl, fun j t ht => by
        rw [Tryd.params5] at ht
        have hm : t ∈ [3, 3] := by simpa using Array.mem_of_getElem? ht
        have hall : ([3, 3].all fun u => !Tryd.prog.wantsStandIn u) = true := by kernel_rfl
        exact (show Tryd.prog.wantsStandIn t = false by simpa using List.all_eq_true.1 hall t hm)⟩)
    (by kernel_rfl)
#print axioms namesBack_holds
end Go.Proofs.YtcfflgdklalcpaaDoor
