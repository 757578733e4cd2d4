/-
  Proved: for every text NamesTell returns true: whether its first 80 bytes are a word, a name, a register, what an instruction does, is what the document says; the argument reads as before. The listed package variables stand as the program's text lays them (tied). Conditions: none besides.
-/
import Derived.Test.YtcfflgdklalcpaaDoorRows
import Derived.Test.YtcfflgdklalcpaaDoorCards
import Derived.Test.YtcfflgdklalcpaaDoorTie
import Derived.Test.YtcfflgdklalcpaaDoorLaid
import Derived.Test.YtcfflgdklalcpaaDoorAlive
import Derived.Test.YtcfflgdklalcpaaDoorRefRight
import Derived.WalkKit
import Derived.ProofKit
import Derived.OpenShut
import Derived.SizedLaws
import Derived.ShutString
import Derived.Stop.Joined
import Derived.SevenTiedAt
namespace Go.Proofs.YtcfflgdklalcpaaDoor.namesTell
open Go.ChangeShapes Go.WideShapes Go.ChangeAt Go.RowKit
open Go.ChangeMaps (open_string shut_string)
set_option linter.unusedVariables false

theorem own : ownKnob Tryd.prog.godebug = none := by kernel_rfl

set_option maxRecDepth 1000000 in
set_option maxHeartbeats 1000000 in
theorem walk (a0 : ByteArray) (z0 : a0.size ≤ 140737488355328) (w : World) (g : Good w) :
    Calls Tryd.prog 3 #[.string a0] w fun e w' => e = .returned (.bool true) ∧ Later w w' := by
  have go : ∀ {w'}, Later w w' → Good w' := fun h => g.later h
  have c8 := fun w' => short80_any a0 z0 w'
  have hS := short_size 80 a0
  generalize short 80 a0 = S at *
  have c9 := fun w' (g' : Good w') => reg_any S w' g'.2.1
  have c10 := fun w' => refReg_any S w'
  have c11 := fun w' (g' : Good w') => op_any S w' g'.2.2.1 g'.2.2.2
  have c12 := fun w' => refOp_any S w'
  have c13 := fun w' (g' : Good w') => word_any S w' g'.2.1 g'.2.2.1 g'.2.2.2
  have c14 := fun w' => refWord_any S w'
  have c15 := fun w' (g' : Good w') => right_any S (by omega) w' g'
  have c16 := fun w' => refRight_any S (by omega) w'
  generalize regF S = R at *
  generalize opF S = O at *
  generalize wordF S = x at *
  generalize rightF S = y at *
  obtain ⟨r, k⟩ := R
  obtain ⟨o, c, m⟩ := O
  go_enter Tryd.func3, Tryd.ntmps3
  go_wp2_with (first
    | (go_at_call 8; refine (c8 _).mono ?_; rintro e w1 ⟨rfl, hl1⟩)
    | (go_at_call 9; refine (c9 _ (go hl1)).mono ?_; rintro e w2 ⟨rfl, hl2⟩; have L2 := Later.trans hl1 hl2)
    | (go_at_call 10; refine (c10 _).mono ?_; rintro e w3 ⟨rfl, hl3⟩; have L3 := Later.trans L2 hl3)
    | (go_at_call 11; refine (c11 _ (go L3)).mono ?_; rintro e w4 ⟨rfl, hl4⟩; have L4 := Later.trans L3 hl4)
    | (go_at_call 12; refine (c12 _).mono ?_; rintro e w5 ⟨rfl, hl5⟩; have L5 := Later.trans L4 hl5)
    | (go_at_call 13; refine (c13 _ (go L5)).mono ?_; rintro e w6 ⟨rfl, hl6⟩; have L6 := Later.trans L5 hl6)
    | (go_at_call 14; refine (c14 _).mono ?_; rintro e w7 ⟨rfl, hl7⟩; have L7 := Later.trans L6 hl7)
    | (go_at_call 15; refine (c15 _ (go L7)).mono ?_; rintro e w8 ⟨rfl, hl8⟩; have L8 := Later.trans L7 hl8)
    | (go_at_call 16; refine (c16 _).mono ?_; rintro e w9 ⟨rfl, hl9⟩; have L9 := Later.trans L8 hl9)
    | (go_at_call 17; refine (alive_any _ (go L9)).mono ?_; rintro e w10 ⟨rfl, hl10⟩; have L10 := Later.trans L9 hl10))
  go_ret
  exact ⟨rfl, L10⟩

set_option maxRecDepth 100000 in
theorem lifted (os : Os) (started : os.Started) (H : Type) (enc : TypeId × Value → H) :
    ReturnsInHanded {} Tryd.checked os 3 .any (fun w args => (Rows.namesTellSpec.pre enc Tryd.prog Tryd.f3 [] false w args ∧ laidMetH Tryd.prog theList w) ∧ sizedMet enc Tryd.prog Tryd.f3 (OpenSpec.ofChange Rows.namesTellSpec) false w args)
      (Rows.namesTellSpec.post enc Tryd.prog Tryd.f3 false true false false) := by
  refine returnsInHanded_of_change_and (C := Tryd.checked) (X := fun w _ => laidMetH Tryd.prog theList w) (fun _ _ _ hh h => h.of_heap hh) own started (by kernel_rfl) Tryd.func3
    (ChangeSpec.witness_shaped (enc := enc) (C := Tryd.checked) (os := os) (X := fun w _ => laidMetH Tryd.prog theList w) false (World.laidAll Tryd.prog os theList) #[.string ⟨#[]⟩] 8 (World.laidAll_os _ _ _) (World.shaped_of_ZipB (by kernel_rfl) (by kernel_rfl)) (by kernel_rfl) (by kernel_rfl) (by kernel_rfl) (door_met os _)) ?_
  intro W base args ds gs before hval0 hW _ hsz0 hL _
  have hsz : (DataW.weightsEach Tryd.prog (Tryd.f3.params.toList ++ Rows.namesTellSpec.plain.varTypes Tryd.prog) (ds ++ gs)).all (· ≤ reachBytes) = true := hsz0
  clear hsz0
  have hval : ∀ (j : Nat) t v, Tryd.f3.params[j]? = some t → args[j]? = some v → Value.okWide Tryd.prog W .any base t v := hval0
  have hW' := hW
  obtain ⟨p, q, hA0, hV, rfl, hfz, hnd⟩ := hW
  have hA : DataW.TrodAll enc Tryd.prog W 0 (fun _ => true) true Tryd.f3.params.toList args.toList ds p := hA0
  rw [Tryd.params3] at hA hval hsz
  obtain ⟨v0, vs0, d0, ds0, p0, q0, hargs, rfl, rfl, h0, r0⟩ := trodAll_cons hA
  obtain ⟨rfl, rfl, rfl⟩ := trodAll_nil r0
  obtain rfl : args = #[v0] := by cases args; simp_all
  obtain ⟨rfl, rfl⟩ := trodVars_none hV
  obtain ⟨a0, rfl, rfl, rfl, w0⟩ := open_string Tryd.underlying9 (hval 0 9 v0 rfl rfl) h0
  have z0 : a0.size ≤ 140737488355328 := by
    have h1 := sized_string hsz (j := 0) (t := 9) rfl rfl
    have h2 := reachBytes_lt
    have e1 : a0.size = a0.data.size := rfl
    have e2 : a0.data.toList.length = a0.data.size := Array.length_toList
    have e3 : (2 : Nat) ^ 47 = 140737488355328 := by decide
    omega
  clear hA0 hval0
  simp only [List.append_nil] at hW'
  refine (walk a0 z0 W (Good.of_laid hL)).mono fun e W' ⟨he, hnx⟩ => ?_
  subst he
  refine ⟨_, rfl, _, _, _, [], [], [], hW', ?_, ?_, rfl, Below.frame hnx _, fun h => by cases h⟩
  · exact (trodAll_cons_mk (shut_bool Tryd.underlying4 _) trodAll_mk0)
  · exact (trodAll_cons_mk (shut_string Tryd.underlying9 w0) trodAll_mk0)

theorem over : Rows.namesTellRow.holds Tryd.pinned (OpenSpec.ofChange Rows.namesTellSpec) :=
  OpenClaim.holds_of_wide 3 Tryd.f3 rfl rfl rfl rfl rfl rfl rfl ⟨rfl, rfl, rfl, rfl, rfl⟩ rfl rfl rfl rfl rfl (by kernel_rfl) Tryd.func3 (by kernel_rfl)
    (of_decide_eq_true (by kernel_rfl)) (by unfold Func.isWrapper; first | (rw [if_pos (by decide +kernel)]; kernel_rfl) | (rw [if_neg (by decide +kernel)]; exact ⟨rfl, rfl⟩))
    (fun os started H enc _ => lifted os started H enc)

end Go.Proofs.YtcfflgdklalcpaaDoor.namesTell

namespace Go.Proofs.YtcfflgdklalcpaaDoor
open Go
/-- The statement: the row, with its listed variables tied to the program's text. -/
theorem namesTell_holds : Rows.NamesTellCardSaid :=
  Claim7.holds_tied_plain_at .later [] [.data, .data, .data, .data, .pinned] true Rows.namesTellCard.stood.harness false
    namesTell.over (fun _ h => by cases h) (by kernel_rfl) (fun _ h => by cases h) namesTell_row_tie rfl ⟨rfl, rfl⟩ (by kernel_rfl) rfl
    (fun f fn hf hfn => by
      obtain rfl : f = 3 := Option.some.inj ((show Tryd.prog.funcNamed Rows.namesTellRow.func = some 3 by kernel_rfl).symm.trans hf) |>.symm
      obtain rfl : fn = Tryd.f3 := (Option.some.inj (Tryd.func3.symm.trans hfn)).symm
      exact ⟨by kernel_rfl, fun j t ht => by
        rw [Tryd.params3] at ht
        have hm : t ∈ [9] := by simpa using Array.mem_of_getElem? ht
        have hall : ([9].all fun u => !Tryd.prog.wantsStandIn u) = true := by kernel_rfl
        exact (show Tryd.prog.wantsStandIn t = false by simpa using List.all_eq_true.1 hall t hm)⟩)
    (by kernel_rfl)
#print axioms namesTell_holds
end Go.Proofs.YtcfflgdklalcpaaDoor
