/-
  That palinglaw9.ShowMade returns true for every list of acts. Conditions: as the card names them.
-/
import Derived.Test.YtmmimlpgpionnaaGreatDoorRows
import Derived.Test.YtmmimlpgpionnaaGreatDoorCards
import Derived.Test.YtmmimlpgpionnaaGreatDoorTie
import Derived.Test.YtmmimlpgpionnaaGreatDoorShowLaid
import Derived.Test.YtmmimlpgpionnaaGreatDoorJh
import Derived.Test.YtmmimlpgpionnaaGreatDoorOpensActs
import Derived.Test.YtmmimlpgpionnaaGreatDoorRefShow
import Derived.Test.YtmmimlpgpionnaaGreatDoorShowAlive
import Derived.Test.YtmmimlpgpionnaaGreatDoorShowSize
import Derived.Test.YtmmimlpgpionnaaGreatDoorBookProg
import Derived.Test.YtmmimlpgpionnaaGreatDoorMadeRow
import Derived.WalkKit
import Derived.ProofKit
import Derived.OpenShut
import Derived.SizedLaws
import Derived.ShutString
import Derived.Carry
import Derived.Stop.Joined
import Derived.SevenTiedAt
namespace Go.Proofs.YtmmimlpgpionnaaGreatDoor.showMade
open Go.ChangeShapes Go.WideShapes Go.ChangeAt Go.RowKit
open Go.ChangeMaps (open_string shut_string)
set_option linter.unusedVariables false
set_option linter.unusedSimpArgs false

theorem own : ownKnob Tryz.prog.godebug = none := by kernel_rfl
theorem laidOut : laidOutB Tryz.prog = true := by kernel_rfl

set_option maxRecDepth 1000000 in
set_option maxHeartbeats 4000000 in
theorem walk (w : World) (g : Good w) (v : Value) (l : List (List Act5)) (ia : ActsRow w v l) :
    Calls Tryz.prog 4 #[v] w fun e w' => e = .returned (.bool true) ∧ Later w w' := by
  have cB := bookProg_any v l 3 8 (by omega) (by omega) w ia
  rw [show ((3 : Nat) : Int) = 3 from rfl, show ((8 : Nat) : Int) = 8 from rfl] at cB
  have cA := fun w' h => showAlive_any w' h
  have HG : Hid (Good w) := g
  clear ia g
  go_enter Tryz.func4, Tryz.ntmps4
  go_upto_region 2 with (go_at_call 10; apply Calls.mono; (focus (with_reducible (exact cB))); rintro e w1 ⟨tv, vs, P, rfl, hl1, hx, hw1, hm⟩; obtain ⟨q0, q1, rfl⟩ := owns_slice hw1)
  have htl : min l.length 3 ≤ l.length := Nat.min_le_left _ _
  have ht3 : min l.length 3 ≤ 3 := Nat.min_le_right _ _
  have hf := (made_valid (b := w.heap.size) (by omega) (by omega) htl hm).2
  have hlen := progL_length (made_small (b := w.heap.size) (by omega) (by omega) htl hm)
  have LB := Later.alloc hl1 (.cells #[.slice (some ⟨w.heap.size + 1 + 1 + 1, 0, none⟩) 3 3, .slice q0 (min l.length 3) q1] 25)
  have LC := Later.alloc (Later.refl w1) (.cells #[.slice (some ⟨w.heap.size + 1 + 1 + 1, 0, none⟩) 3 3, .slice q0 (min l.length 3) q1] 25)
  have HB := at_new w1 (.cells #[.slice (some ⟨w.heap.size + 1 + 1 + 1, 0, none⟩) 3 3, .slice q0 (min l.length 3) q1] 25)
  have is := SymRow.kept hx.row LC.kept
  have it := ThrRow.kept (made_row htl hw1 hm) LC.kept
  generalize xyz w.heap.size = S at *
  have cP1 := fun w' h h' h'' => showProg_any (.slice (some ⟨w.heap.size + 1 + 1 + 1, 0, none⟩) 3 3) (.slice q0 (min l.length 3) q1) S P w' h h' h'' hf hlen
  have cR1 := fun w' h h' => refShow_any (.slice (some ⟨w.heap.size + 1 + 1 + 1, 0, none⟩) 3 3) (.slice q0 (min l.length 3) q1) S P w' h h' hf hlen
  generalize w1.alloc (.cells #[.slice (some ⟨w.heap.size + 1 + 1 + 1, 0, none⟩) 3 3, .slice q0 (min l.length 3) q1] 25) = W at *
  obtain ⟨b0, b1, -⟩ := box2_facts HB
  have ne : Nonempty (After W) := ⟨⟨W, Later.refl W⟩⟩
  have m0 := fun p : After W => cell_after b0 p
  have m1 := fun p : After W => cell_after b1 p
  have ss : ∀ z : After W, SymRow z.world (.slice (some ⟨w.heap.size + 1 + 1 + 1, 0, none⟩) 3 3) S := fun z => is.kept z.later.kept
  have tt : ∀ z : After W, ThrRow z.world (.slice q0 (min l.length 3) q1) P := fun z => it.kept z.later.kept
  have gg : ∀ z : After W, ShowGood z.world := fun z => HG.out.later (LB.trans z.later)
  generalize (⟨(progL S P).toArray⟩ : ByteArray) = X at *
  have hX : (X.toList == X.toList) = true := by simp
  clear is it b0 b1 HB LC hl1 hx hw1 hm hf hlen cB
  generalize min l.length 3 = mt at *
  generalize w.heap.size + 1 + 1 + 1 = sb at *
  refine wp_region_later (by kernel_rfl) (by kernel_rfl) ?_
  repeat (first | go_big_quiet_step ((first | (go_at_call 8; with_reducible (exact Calls.after_of (cP1 _ (gg _) (ss _) (tt _)))) | (go_at_call 9; with_reducible (exact Calls.after_of (cR1 _ (ss _) (tt _)))) | (go_at_call 7; with_reducible (exact Calls.after_of (cA _ (gg _)))))) | quiet_step ((first | (go_at_call 8; with_reducible (exact Calls.after_of (cP1 _ (gg _) (ss _) (tt _)))) | (go_at_call 9; with_reducible (exact Calls.after_of (cR1 _ (ss _) (tt _)))) | (go_at_call 7; with_reducible (exact Calls.after_of (cA _ (gg _)))))))
  refine wpQuiet_nil ?_
  intro _ hw'
  obtain ⟨z, hw''⟩ := hw'
  subst hw''
  clear m0 m1 ss tt gg
  go_wp2
  go_ret
  exact ⟨rfl, LB.trans z.later⟩

set_option maxRecDepth 100000 in
theorem lifted (os : Os) (started : os.Started) (H : Type) (enc : TypeId × Value → H) :
    ReturnsInHanded {} Tryz.checked os 4 .any (fun w args => (Rows.showMadeSpec.pre enc Tryz.prog Tryz.f4 [] false w args ∧ laidMetH Tryz.prog theList w) ∧ sizedMet enc Tryz.prog Tryz.f4 (OpenSpec.ofChange Rows.showMadeSpec) false w args)
      (Rows.showMadeSpec.post enc Tryz.prog Tryz.f4 false true false false) := by
  refine returnsInHanded_of_change_and (C := Tryz.checked) (X := fun w _ => laidMetH Tryz.prog theList w) (fun _ _ _ hh h => h.of_heap hh) own started (by kernel_rfl) Tryz.func4
    (ChangeSpec.witness_shaped (enc := enc) (C := Tryz.checked) (os := os) (X := fun w _ => laidMetH Tryz.prog theList w) false (World.laidAll Tryz.prog os theList) #[.slice none 0 0] 8 (World.laidAll_os _ _ _) (World.shaped_of_ZipB (by kernel_rfl) (by kernel_rfl)) (by kernel_rfl) (by kernel_rfl) (by kernel_rfl) (door_met os _)) ?_
  intro W base args ds gs before hval0 hW _ hsz0 hL _
  have hsz : (DataW.weightsEach Tryz.prog (Tryz.f4.params.toList ++ Rows.showMadeSpec.plain.varTypes Tryz.prog) (ds ++ gs)).all (· ≤ reachBytes) = true := hsz0
  clear hsz0
  have hval : ∀ (j : Nat) t v, Tryz.f4.params[j]? = some t → args[j]? = some v → Value.okWide Tryz.prog W .any base t v := hval0
  have hW' := hW
  obtain ⟨p, q, hA0, hV, rfl, hfz, hnd⟩ := hW
  have hA : DataW.TrodAll enc Tryz.prog W 0 (fun _ => true) true Tryz.f4.params.toList args.toList ds p := hA0
  rw [Tryz.params4] at hA hval hsz
  obtain ⟨v0, vs0, d0, ds0, p0, q0, hargs, rfl, rfl, h0, r0⟩ := trodAll_cons hA
  obtain ⟨rfl, rfl, rfl⟩ := trodAll_nil r0
  obtain rfl : args = #[v0] := by cases args; simp_all
  obtain ⟨rfl, rfl⟩ := trodVars_none hV
  simp only [List.append_nil] at hW'
  have h0k := h0
  have hlt0 : ∀ x ∈ p0, x.block < W.heap.size := fun x hx => by simpa using hW'.lt x (by simp [hx])
  obtain ⟨l0, ia0⟩ := open_acts (hval 0 29 v0 rfl rfl) h0
  clear hA0 hval0
  refine (walk W (Good.of_laid hL) _ l0 ia0).mono fun e W' ⟨he, hnx⟩ => ?_
  subst he
  refine ⟨_, rfl, _, _, _, [], (p0 ++ []), [], hW', ?_, ?_, rfl, Below.frame hnx _, fun h => by cases h⟩
  · exact (trodAll_cons_mk (shut_bool Tryz.underlying4 _) trodAll_mk0)
  · exact (trodAll_cons_mk (Below.trod laidOut (by kernel_rfl) (of_decide_eq_true (by kernel_rfl)) h0k hnx hlt0) trodAll_mk0)

theorem over : Rows.showMadeRow.holds Tryz.pinned (OpenSpec.ofChange Rows.showMadeSpec) :=
  OpenClaim.holds_of_wide 4 Tryz.f4 rfl rfl rfl rfl rfl rfl rfl ⟨rfl, rfl, rfl, rfl, rfl⟩ rfl rfl rfl rfl rfl (by kernel_rfl) Tryz.func4 (by kernel_rfl)
    (of_decide_eq_true (by kernel_rfl)) (by unfold Func.isWrapper; first | (rw [if_pos (by decide +kernel)]; kernel_rfl) | (rw [if_neg (by decide +kernel)]; exact ⟨rfl, rfl⟩))
    (fun os started H enc _ => lifted os started H enc)

end Go.Proofs.YtmmimlpgpionnaaGreatDoor.showMade

namespace Go.Proofs.YtmmimlpgpionnaaGreatDoor
open Go
/-- The statement: the row, with its listed variables tied to the program's text. -/
theorem showMade_holds : Rows.ShowMadeCardSaid :=
  Claim7.holds_tied_plain_at .later [] [.data, .data, .data, .data, .data, .data, .data, .pinned] true Rows.showMadeCard.stood.harness true
    showMade.over (fun _ h => by cases h) (by kernel_rfl) (fun _ h => by cases h) showMade_row_tie rfl ⟨rfl, rfl⟩ (by kernel_rfl) rfl
    (fun f fn hf hfn => by
      obtain rfl : f = 4 := Option.some.inj ((show Tryz.prog.funcNamed Rows.showMadeRow.func = some 4 by kernel_rfl).symm.trans hf) |>.symm
      obtain rfl : fn = Tryz.f4 := (Option.some.inj (Tryz.func4.symm.trans hfn)).symm
      exact ⟨by kernel_rfl, fun j t ht => by
        rw [Tryz.params4] at ht
        have hm : t ∈ [29] := by simpa using Array.mem_of_getElem? ht
        have hall : ([29].all fun u => !Tryz.prog.wantsStandIn u) = true := by kernel_rfl
        exact (show Tryz.prog.wantsStandIn t = false by simpa using List.all_eq_true.1 hall t hm)⟩)
    (by kernel_rfl)
#print axioms showMade_holds
end Go.Proofs.YtmmimlpgpionnaaGreatDoor
