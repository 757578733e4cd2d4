/-
  Proved: for every operand OpndParts returns true: an operand that may be is its part's again; its part tells its number, or its symbol, if it is of that kind, and nothing else; the argument reads as before. The listed package variable stands as the program's text lays it (tied). Conditions: none besides.
-/
import Derived.Test.YtcajbhokebmmdaaDoorRows
import Derived.Test.YtcajbhokebmmdaaDoorCards
import Derived.Test.YtcajbhokebmmdaaDoorTie
import Derived.Test.YtcajbhokebmmdaaDoorRegsLaid
import Derived.Test.YtcajbhokebmmdaaDoorOpndAlive
import Derived.Lib.SmallJoins
import Derived.WalkKit
import Derived.ProofKit
import Derived.OpenShut
import Derived.SizedLaws
import Derived.ShutString
import Derived.Stop.Joined
import Derived.SevenTiedAt
namespace Go.Proofs.YtcajbhokebmmdaaDoor.opndParts
open Go.ChangeShapes Go.WideShapes Go.ChangeAt Go.RowKit Go.Joins
open Go.ChangeMaps (open_string shut_string)
set_option linter.unusedVariables false
set_option linter.unusedSimpArgs false

theorem own : ownKnob Tryd.prog.godebug = none := by kernel_rfl
theorem cells0 : Tryd.prog.cellsOf 23 = 4 := by kernel_rfl

set_option maxRecDepth 1000000 in
set_option maxHeartbeats 2000000 in
theorem walk (k r s n : Int) (w : World) (g : Good w) :
    Calls Tryd.prog 4 #[.agg #[.int .i64 k, .int .i64 r, .int .i64 s, .int .i64 n]] w fun e w' => e = .returned (.bool true) ∧ Later w w' := by
  have L := Later.alloc (Later.refl w) (.cells #[.int .i64 k, .int .i64 r, .int .i64 s, .int .i64 n] 23)
  have hb := at_new w (.cells #[.int .i64 k, .int .i64 r, .int .i64 s, .int .i64 n] 23)
  have HG : Hid (Good w) := g
  have ca : ∀ w', Good w' → Calls Tryd.prog 14 #[] w' fun e w'' => e = .returned (.bool true) ∧ Later w' w'' := fun w' (hT : Good w') => alive_any w' hT
  have cr := fun w' => refOpdRight_any ⟨k, r, s, n⟩ w'
  cases ho : opdRightF ⟨k, r, s, n⟩ with
  | false =>
    have c1 := of_no ⟨k, r, s, n⟩ ho _ (g.later L)
    rw [ho] at cr
    unfold Opd.val at c1 cr
    clear g ho
    go_enter Tryd.func4, Tryd.ntmps4
    go_wp2_with (first
      | (go_at_call 9; apply Calls.mono; (focus (with_reducible (exact c1))); rintro e w1 ⟨rfl, hl1⟩; obtain ⟨d0, d1, d2, d3, -, -, -, -⟩ := box4_facts (heap_later hl1 hb))
      | (go_at_call 11; apply Calls.mono; (focus (with_reducible (exact cr _))); rintro e w2 ⟨rfl, hl2⟩; have l2 := Later.trans L (Later.trans hl1 hl2))
      | (go_at_call 14; apply Calls.mono; (focus (with_reducible (exact ca _ (HG.out.later l2)))); rintro e w3 ⟨rfl, hl3⟩))
    go_ret
    exact ⟨rfl, l2.trans hl3⟩
  | true =>
    have c1 := of_yes ⟨k, r, s, n⟩ ho _ (g.later L)
    have hk := kinds_of_right ho
    have c2 := fun w' => num_part ⟨k, r, s, n⟩ hk w'
    have c3 := fun w' => memory_part ⟨k, r, s, n⟩ hk w'
    have c4 := fun w' => refMemory_any ⟨k, r, s, n⟩ w'
    have c5 : ∀ w', Good w' → Calls Tryd.prog 18 #[partV ⟨k, r, s, n⟩] w' fun e w'' => e = .returned (backF ⟨k, r, s, n⟩).val ∧ Later w' w'' := fun w' (hT : Good w') => back_part ⟨k, r, s, n⟩ hk w' hT
    have hbk : backF ⟨k, r, s, n⟩ = ⟨k, r, s, n⟩ := by
      unfold backF
      rw [spread_right ho, if_pos ho]
    rw [hbk] at c5
    unfold Opd.val at c1 c4 c5
    generalize partV ⟨k, r, s, n⟩ = P at *
    have hm : memF ⟨k, r, s, n⟩ = decide (k = 3 ∨ k = 4) := rfl
    dsimp only at hk c2 c3
    clear g ho hbk cr
    rcases hk with rfl | rfl | rfl | rfl
    all_goals simp only [hm, reduceIte, Int.reduceEq, decide_true, decide_false, or_true, or_false, true_or, false_or, Bool.false_eq_true] at c2 c3 c4
    all_goals clear hm
    all_goals as_aux_lemma =>
      go_enter Tryd.func4, Tryd.ntmps4
      go_upto_region 10 with (first
        | (go_at_call 9; apply Calls.mono; (focus (with_reducible (exact c1))); rintro e w1 ⟨rfl, hl1⟩; obtain ⟨d0, d1, d2, d3, -, -, -, -⟩ := box4_facts (heap_later hl1 hb))
        | (go_at_call 15; apply Calls.mono; (focus (with_reducible (exact c2 _))); rintro e w2 ⟨rfl, hl2⟩; have l2 := Later.trans hl1 hl2)
        | (go_at_call 16; apply Calls.mono; (focus (with_reducible (exact c3 _))); rintro e w3 ⟨rfl, hl3⟩; have l3 := Later.trans l2 hl3; obtain ⟨e0, e1, e2, e3, -, -, -, -⟩ := box4_facts (heap_later l3 hb))
        | (go_at_call 17; apply Calls.mono; (focus (with_reducible (exact c4 _))); rintro e w4 ⟨rfl, hl4⟩; have l4 := Later.trans l3 hl4; obtain ⟨f0, f1, f2, f3, -, -, -, -⟩ := box4_facts (heap_later l4 hb)))
      have G4 : Hid (Good w4) := HG.out.later (L.trans l4)
      have hb4 := heap_later l4 hb
      have L4 := L.trans l4
      clear d0 d1 d2 d3 e0 e1 e2 e3 hl1 hl2 l2 hl3 l3 hl4 l4 c1 c2 c3 c4
      go_region_with (first
        | (go_at_call 18; apply Calls.mono; (focus (with_reducible (exact c5 _ (by first | exact G4.out | exact G4.out.later (Later.drew (Later.refl _)))))); rintro e w5 ⟨rfl, hl5⟩; have l5 : Later w4 w5 := (by first | exact hl5 | exact Later.trans (Later.drew (Later.refl _)) hl5); obtain ⟨q0, q1, q2, q3, -, -, -, -⟩ := box4_facts (heap_later l5 hb4))
        | (go_at_call 14; apply Calls.mono; (focus (with_reducible (exact ca _ (by first | exact G4.out.later l5 | exact G4.out.later (Later.drew l5))))); rintro e w6 ⟨rfl, hl6⟩; have l6 : Later w4 w6 := (by first | exact Later.trans l5 hl6 | exact Later.trans (Later.drew l5) hl6)))
      all_goals go_wp2
      all_goals go_ret
      all_goals exact ⟨rfl, L4.trans l6⟩

set_option maxRecDepth 100000 in
theorem lifted (os : Os) (started : os.Started) (H : Type) (enc : TypeId × Value → H) :
    ReturnsInHanded {} Tryd.checked os 4 .any (fun w args => (Rows.opndPartsSpec.pre enc Tryd.prog Tryd.f4 [] false w args ∧ laidMetH Tryd.prog theList w) ∧ sizedMet enc Tryd.prog Tryd.f4 (OpenSpec.ofChange Rows.opndPartsSpec) false w args)
      (Rows.opndPartsSpec.post enc Tryd.prog Tryd.f4 false true false false) := by
  refine returnsInHanded_of_change_and (C := Tryd.checked) (X := fun w _ => laidMetH Tryd.prog theList w) (fun _ _ _ hh h => h.of_heap hh) own started (by kernel_rfl) Tryd.func4
    (ChangeSpec.witness_shaped (enc := enc) (C := Tryd.checked) (os := os) (X := fun w _ => laidMetH Tryd.prog theList w) false (World.laidAll Tryd.prog os theList) #[.agg #[.int .i64 0, .int .i64 0, .int .i64 0, .int .i64 0]] 8 (World.laidAll_os _ _ _) (World.shaped_of_ZipB (by kernel_rfl) (by kernel_rfl)) (by kernel_rfl) (by kernel_rfl) (by kernel_rfl) (door_met os _)) ?_
  intro W base args ds gs before hval0 hW _ hsz0 hL _
  have hsz : (DataW.weightsEach Tryd.prog (Tryd.f4.params.toList ++ Rows.opndPartsSpec.plain.varTypes Tryd.prog) (ds ++ gs)).all (· ≤ reachBytes) = true := hsz0
  clear hsz0
  have hval : ∀ (j : Nat) t v, Tryd.f4.params[j]? = some t → args[j]? = some v → Value.okWide Tryd.prog W .any base t v := hval0
  have hW' := hW
  obtain ⟨p, q, hA0, hV, rfl, hfz, hnd⟩ := hW
  have hA : DataW.TrodAll enc Tryd.prog W 0 (fun _ => true) true Tryd.f4.params.toList args.toList ds p := hA0
  rw [Tryd.params4] at hA hval hsz
  obtain ⟨v0, vs0, d0, ds0, p0, q0, hargs, rfl, rfl, h0, r0⟩ := trodAll_cons hA
  obtain ⟨rfl, rfl, rfl⟩ := trodAll_nil r0
  obtain rfl : args = #[v0] := by cases args; simp_all
  obtain ⟨rfl, rfl⟩ := trodVars_none hV
  obtain ⟨c00, c01, c02, c03, y00, y01, y02, y03, m0, rfl, rfl, rfl, hy00, hy01, hy02, hy03⟩ := open_agg4 Tryd.underlying23 (by kernel_rfl) cells0 (hval 0 23 v0 rfl rfl) h0
  obtain ⟨a00, e00, rfl, w00⟩ := DataW.trod_int Tryd.underlying3 hy00
  obtain ⟨a01, e01, rfl, w01⟩ := DataW.trod_int Tryd.underlying3 hy01
  obtain ⟨a02, e02, rfl, w02⟩ := DataW.trod_int Tryd.underlying3 hy02
  obtain ⟨a03, e03, rfl, w03⟩ := DataW.trod_int Tryd.underlying2 hy03
  simp at e00 e01 e02 e03
  subst e00 e01 e02 e03
  clear hA0 hval0
  simp only [List.append_nil] at hW'
  refine (walk a00 a01 a02 a03 W (Good.of_laid hL)).mono fun e W' ⟨he, hnx⟩ => ?_
  subst he
  refine ⟨_, rfl, _, _, _, [], [], [], hW', ?_, ?_, rfl, Below.frame hnx _, fun h => by cases h⟩
  · exact (trodAll_cons_mk (shut_bool Tryd.underlying4 _) trodAll_mk0)
  · exact (trodAll_cons_mk (shut_agg4 (y0 := (.lit (.int .i64 a00), [])) (y1 := (.lit (.int .i64 a01), [])) (y2 := (.lit (.int .i64 a02), [])) (y3 := (.lit (.int .i64 a03), [])) Tryd.underlying23 (by kernel_rfl) cells0 ⟨1, by simp [DataW.trod, Tryd.underlying3, w00]⟩ ⟨1, by simp [DataW.trod, Tryd.underlying3, w01]⟩ ⟨1, by simp [DataW.trod, Tryd.underlying3, w02]⟩ ⟨1, by simp [DataW.trod, Tryd.underlying2, w03]⟩) trodAll_mk0)

theorem over : Rows.opndPartsRow.holds Tryd.pinned (OpenSpec.ofChange Rows.opndPartsSpec) :=
  OpenClaim.holds_of_wide 4 Tryd.f4 rfl rfl rfl rfl rfl rfl rfl ⟨rfl, rfl, rfl, rfl, rfl⟩ rfl rfl rfl rfl rfl (by kernel_rfl) Tryd.func4 (by kernel_rfl)
    (of_decide_eq_true (by kernel_rfl)) (by unfold Func.isWrapper; first | (rw [if_pos (by decide +kernel)]; kernel_rfl) | (rw [if_neg (by decide +kernel)]; exact ⟨rfl, rfl⟩))
    (fun os started H enc _ => lifted os started H enc)

end Go.Proofs.YtcajbhokebmmdaaDoor.opndParts

namespace Go.Proofs.YtcajbhokebmmdaaDoor
open Go
/-- The statement: the row, with its listed variables tied to the program's text. -/
theorem opndParts_holds : Rows.OpndPartsCardSaid :=
  Claim7.holds_tied_plain_at .later [] [.data] true Rows.opndPartsCard.stood.harness true
    opndParts.over (fun _ h => by cases h) (by kernel_rfl) (fun _ h => by cases h) opndParts_row_tie rfl ⟨rfl, rfl⟩ (by kernel_rfl) rfl
    (fun f fn hf hfn => by
      obtain rfl : f = 4 := Option.some.inj ((show Tryd.prog.funcNamed Rows.opndPartsRow.func = some 4 by kernel_rfl).symm.trans hf) |>.symm
      obtain rfl : fn = Tryd.f4 := (Option.some.inj (Tryd.func4.symm.trans hfn)).symm
      exact ⟨by kernel_rfl, fun j t ht => by
        rw [Tryd.params4] at ht
        have hm : t ∈ [23] := by simpa using Array.mem_of_getElem? ht
        have hall : ([23].all fun u => !Tryd.prog.wantsStandIn u) = true := by kernel_rfl
        exact (show Tryd.prog.wantsStandIn t = false by simpa using List.all_eq_true.1 hall t hm)⟩)
    (by kernel_rfl)
#print axioms opndParts_holds
end Go.Proofs.YtcajbhokebmmdaaDoor
