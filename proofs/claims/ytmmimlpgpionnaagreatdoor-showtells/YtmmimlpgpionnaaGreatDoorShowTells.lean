/-
  That palinglaw9.ShowTells returns true for every program. Conditions: as the card names them.
-/
import Derived.Test.YtmmimlpgpionnaaGreatDoorRows
import Derived.Test.YtmmimlpgpionnaaGreatDoorCards
import Derived.Test.YtmmimlpgpionnaaGreatDoorTie
import Derived.Test.YtmmimlpgpionnaaGreatDoorShowLaid
import Derived.Test.YtmmimlpgpionnaaGreatDoorJh
import Derived.Test.YtmmimlpgpionnaaGreatDoorJi
import Derived.Test.YtmmimlpgpionnaaGreatDoorRefShow
import Derived.Test.YtmmimlpgpionnaaGreatDoorShowAlive
import Derived.Test.YtmmimlpgpionnaaGreatDoorShowSize
import Derived.Test.YtmmimlpgpionnaaGreatDoorJl
import Derived.WalkKit
import Derived.ProofKit
import Derived.OpenShut
import Derived.SizedLaws
import Derived.ShutString
import Derived.Carry
import Derived.Stop.Joined
import Derived.SevenTiedAt
namespace Go.Proofs.YtmmimlpgpionnaaGreatDoor.showTells
open Go.ChangeShapes Go.WideShapes Go.ChangeAt Go.RowKit
open Go.ChangeMaps (open_string shut_string)
set_option linter.unusedVariables false
set_option linter.unusedSimpArgs false

theorem own : ownKnob Tryz.prog.godebug = none := by kernel_rfl
theorem laidOut : laidOutB Tryz.prog = true := by kernel_rfl

set_option maxRecDepth 1000000 in
set_option maxHeartbeats 4000000 in
theorem walk (w : World) (g : Good w) (u v : Value) (S : Syms) (P : List Thr) (is : SymRow w u S) (it : ThrRow w v P) :
    Calls Tryz.prog 3 #[.agg #[u, v]] w fun e w' => e = .returned (.bool true) ∧ Later w w' := by
  have hf := fun (h : greatPF S P = false) => fine_prog h
  have hlen := fun (h : greatPF S P = false) => progL_length (small_prog is it h)
  obtain ⟨p, cap, rfl, -, -⟩ := is.slice
  obtain ⟨p', cap', rfl, -, -⟩ := RowIn.slice it
  have cG := fun w' h h' => greatProg_any (.slice p S.length cap) (.slice p' P.length cap') S P w' h h'
  have cP := fun (f : FineP S P) hl w' h h' h'' => showProg_any (.slice p S.length cap) (.slice p' P.length cap') S P w' h h' h'' f hl
  have cR := fun (f : FineP S P) hl w' h h' => refShow_any (.slice p S.length cap) (.slice p' P.length cap') S P w' h h' f hl
  have cA := fun w' h => showAlive_any w' h
  have LL := Later.alloc (Later.refl w) (.cells #[.slice p S.length cap, .slice p' P.length cap'] 25)
  obtain ⟨hB0, hB1, -⟩ := box2_facts (at_new w (.cells #[.slice p S.length cap, .slice p' P.length cap'] 25))
  generalize greatPF S P = gt at *
  go_enter Tryz.func3, Tryz.ntmps3
  go_upto_region 1 with (fail)
  generalize w.alloc (.cells #[.slice p S.length cap, .slice p' P.length cap'] 25) = W at *
  have ne : Nonempty (After W) := ⟨⟨W, Later.refl W⟩⟩
  have m0 := fun p : After W => cell_after hB0 p
  have m1 := fun p : After W => cell_after hB1 p
  have ss : ∀ z : After W, SymRow z.world (.slice p S.length cap) S := fun z => is.kept (LL.trans z.later).kept
  have tt : ∀ z : After W, ThrRow z.world (.slice p' P.length cap') P := fun z => it.kept (LL.trans z.later).kept
  have gg : ∀ z : After W, ShowGood z.world := fun z => ShowGood.later g (LL.trans z.later)
  clear is it g hB0 hB1
  cases gt with
  | true =>
    clear cP cR hf hlen
    refine wp_region_later (by kernel_rfl) (by kernel_rfl) ?_
    repeat (first | go_big_quiet_step ((first | (go_at_call 6; with_reducible (exact Calls.after_of (cG _ (ss _) (tt _)))) | (go_at_call 7; with_reducible (exact Calls.after_of (cA _ (gg _)))))) | quiet_step ((first | (go_at_call 6; with_reducible (exact Calls.after_of (cG _ (ss _) (tt _)))) | (go_at_call 7; with_reducible (exact Calls.after_of (cA _ (gg _)))))))
    refine wpQuiet_nil ?_
    intro _ hw'
    obtain ⟨z, hw''⟩ := hw'
    subst hw''
    clear m0 m1 ss tt gg
    go_wp2
    go_ret
    exact ⟨rfl, LL.trans z.later⟩
  | false =>
    have cP1 := cP (hf rfl) (hlen rfl)
    have cR1 := cR (hf rfl) (hlen rfl)
    clear cP cR hf hlen
    generalize (⟨(progL S P).toArray⟩ : ByteArray) = X at *
    have hX : (X.toList == X.toList) = true := by simp
    refine wp_region_later (by kernel_rfl) (by kernel_rfl) ?_
    repeat (first | go_big_quiet_step ((first | (go_at_call 6; with_reducible (exact Calls.after_of (cG _ (ss _) (tt _)))) | (go_at_call 8; with_reducible (exact Calls.after_of (cP1 _ (gg _) (ss _) (tt _)))) | (go_at_call 9; with_reducible (exact Calls.after_of (cR1 _ (ss _) (tt _)))) | (go_at_call 7; with_reducible (exact Calls.after_of (cA _ (gg _)))))) | quiet_step ((first | (go_at_call 6; with_reducible (exact Calls.after_of (cG _ (ss _) (tt _)))) | (go_at_call 8; with_reducible (exact Calls.after_of (cP1 _ (gg _) (ss _) (tt _)))) | (go_at_call 9; with_reducible (exact Calls.after_of (cR1 _ (ss _) (tt _)))) | (go_at_call 7; with_reducible (exact Calls.after_of (cA _ (gg _)))))))
    refine wpQuiet_nil ?_
    intro _ hw'
    obtain ⟨z, hw''⟩ := hw'
    subst hw''
    clear m0 m1 ss tt gg
    go_wp2
    go_ret
    exact ⟨rfl, LL.trans z.later⟩

set_option maxRecDepth 100000 in
theorem lifted (os : Os) (started : os.Started) (H : Type) (enc : TypeId × Value → H) :
    ReturnsInHanded {} Tryz.checked os 3 .any (fun w args => (Rows.showTellsSpec.pre enc Tryz.prog Tryz.f3 [] false w args ∧ laidMetH Tryz.prog theList w) ∧ sizedMet enc Tryz.prog Tryz.f3 (OpenSpec.ofChange Rows.showTellsSpec) false w args)
      (Rows.showTellsSpec.post enc Tryz.prog Tryz.f3 false true false false) := by
  refine returnsInHanded_of_change_and (C := Tryz.checked) (X := fun w _ => laidMetH Tryz.prog theList w) (fun _ _ _ hh h => h.of_heap hh) own started (by kernel_rfl) Tryz.func3
    (ChangeSpec.witness_shaped (enc := enc) (C := Tryz.checked) (os := os) (X := fun w _ => laidMetH Tryz.prog theList w) false (World.laidAll Tryz.prog os theList) #[.agg #[.slice none 0 0, .slice none 0 0]] 8 (World.laidAll_os _ _ _) (World.shaped_of_ZipB (by kernel_rfl) (by kernel_rfl)) (by kernel_rfl) (by kernel_rfl) (by kernel_rfl) (door_met os _)) ?_
  intro W base args ds gs before hval0 hW _ hsz0 hL _
  have hsz : (DataW.weightsEach Tryz.prog (Tryz.f3.params.toList ++ Rows.showTellsSpec.plain.varTypes Tryz.prog) (ds ++ gs)).all (· ≤ reachBytes) = true := hsz0
  clear hsz0
  have hval : ∀ (j : Nat) t v, Tryz.f3.params[j]? = some t → args[j]? = some v → Value.okWide Tryz.prog W .any base t v := hval0
  have hW' := hW
  obtain ⟨p, q, hA0, hV, rfl, hfz, hnd⟩ := hW
  have hA : DataW.TrodAll enc Tryz.prog W 0 (fun _ => true) true Tryz.f3.params.toList args.toList ds p := hA0
  rw [Tryz.params3] at hA hval hsz
  obtain ⟨v0, vs0, d0, ds0, p0, q0, hargs, rfl, rfl, h0, r0⟩ := trodAll_cons hA
  obtain ⟨rfl, rfl, rfl⟩ := trodAll_nil r0
  obtain rfl : args = #[v0] := by cases args; simp_all
  obtain ⟨rfl, rfl⟩ := trodVars_none hV
  simp only [List.append_nil] at hW'
  have h0k := h0
  have hlt0 : ∀ x ∈ p0, x.block < W.heap.size := fun x hx => by simpa using hW'.lt x (by simp [hx])
  obtain ⟨u0, t0, S0, P0, rfl, is0, it0⟩ := open_prog (hval 0 25 v0 rfl rfl) h0
  clear hA0 hval0
  refine (walk W (Good.of_laid hL) u0 t0 S0 P0 is0 it0).mono fun e W' ⟨he, hnx⟩ => ?_
  subst he
  refine ⟨_, rfl, _, _, _, [], (p0 ++ []), [], hW', ?_, ?_, rfl, Below.frame hnx _, fun h => by cases h⟩
  · exact (trodAll_cons_mk (shut_bool Tryz.underlying4 _) trodAll_mk0)
  · exact (trodAll_cons_mk (Below.trod laidOut (by kernel_rfl) (of_decide_eq_true (by kernel_rfl)) h0k hnx hlt0) trodAll_mk0)

theorem over : Rows.showTellsRow.holds Tryz.pinned (OpenSpec.ofChange Rows.showTellsSpec) :=
  OpenClaim.holds_of_wide 3 Tryz.f3 rfl rfl rfl rfl rfl rfl rfl ⟨rfl, rfl, rfl, rfl, rfl⟩ rfl rfl rfl rfl rfl (by kernel_rfl) Tryz.func3 (by kernel_rfl)
    (of_decide_eq_true (by kernel_rfl)) (by unfold Func.isWrapper; first | (rw [if_pos (by decide +kernel)]; kernel_rfl) | (rw [if_neg (by decide +kernel)]; exact ⟨rfl, rfl⟩))
    (fun os started H enc _ => lifted os started H enc)

end Go.Proofs.YtmmimlpgpionnaaGreatDoor.showTells

namespace Go.Proofs.YtmmimlpgpionnaaGreatDoor
open Go
/-- The statement: the row, with its listed variables tied to the program's text. -/
theorem showTells_holds : Rows.ShowTellsCardSaid :=
  Claim7.holds_tied_plain_at .later [] [.data, .data, .data, .data, .data, .data, .data, .pinned] true Rows.showTellsCard.stood.harness true
    showTells.over (fun _ h => by cases h) (by kernel_rfl) (fun _ h => by cases h) showTells_row_tie rfl ⟨rfl, rfl⟩ (by kernel_rfl) rfl
    (fun f fn hf hfn => by
      obtain rfl : f = 3 := Option.some.inj ((show Tryz.prog.funcNamed Rows.showTellsRow.func = some 3 by kernel_rfl).symm.trans hf) |>.symm
      obtain rfl : fn = Tryz.f3 := (Option.some.inj (Tryz.func3.symm.trans hfn)).symm
      exact ⟨by kernel_rfl, fun j t ht => by
        rw [Tryz.params3] at ht
        have hm : t ∈ [25] := by simpa using Array.mem_of_getElem? ht
        have hall : ([25].all fun u => !Tryz.prog.wantsStandIn u) = true := by kernel_rfl
        exact (show Tryz.prog.wantsStandIn t = false by simpa using List.all_eq_true.1 hall t hm)⟩)
    (by kernel_rfl)
#print axioms showTells_holds
end Go.Proofs.YtmmimlpgpionnaaGreatDoor
