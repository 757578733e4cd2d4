/-
  Proved: for every number of 64 bits and every pick NumBent returns true: with a 0, a sign or a blank ahead, with a blank behind, or one beyond either end, a number's text is read no more; with a minus ahead of one above 0 it is read as the number turned; both arguments read as before. The listed package variables stand as the program's text lays them (tied). Conditions: none besides.
-/
import Derived.Test.YtidlapopnigcjaaDoorRows
import Derived.Test.YtidlapopnigcjaaDoorCards
import Derived.Test.YtidlapopnigcjaaDoorTie
import Derived.Test.YtidlapopnigcjaaDoorLaid
import Derived.Test.YtidlapopnigcjaaDoorShort
import Derived.WalkKit
import Derived.ProofKit
import Derived.OpenShut
import Derived.SizedLaws
import Derived.ShutString
import Derived.Stop.Joined
import Derived.SevenTiedAt
namespace Go.Proofs.YtidlapopnigcjaaDoor.numBent
open Go.ChangeShapes Go.WideShapes Go.ChangeAt Go.RowKit
open Go.ChangeMaps (open_string shut_string)
set_option linter.unusedVariables false

theorem own : ownKnob Tryd.prog.godebug = none := by kernel_rfl


theorem cat_list (b : UInt8) (n : Int) : ((⟨#[b]⟩ : ByteArray) ++ txt n).data.toList = b :: Lib.itoa n := by
  rw [ByteArray.data_append, Array.toList_append, txt_list]
  rfl
theorem cat_back (n : Int) (b : UInt8) : (txt n ++ (⟨#[b]⟩ : ByteArray)).data.toList = Lib.itoa n ++ [b] := by
  rw [ByteArray.data_append, Array.toList_append, txt_list]
theorem cat_size (b : UInt8) (n : Int) : ((⟨#[b]⟩ : ByteArray) ++ txt n).size = 1 + (txt n).size := ByteArray.size_append
theorem back_size (n : Int) (b : UInt8) : (txt n ++ (⟨#[b]⟩ : ByteArray)).size = (txt n).size + 1 := ByteArray.size_append

theorem over_top : okOf [57, 50, 50, 51, 51, 55, 50, 48, 51, 54, 56, 53, 52, 55, 55, 53, 56, 48, 56] = false := by decide +kernel
theorem under_low : okOf [45, 57, 50, 50, 51, 51, 55, 50, 48, 51, 54, 56, 53, 52, 55, 55, 53, 56, 48, 57] = false := by decide +kernel

set_option maxHeartbeats 2000000 in
theorem walk0 (a0 : Int) (h0 : -9223372036854775808 ≤ a0) (h1 : a0 ≤ 9223372036854775807) (a1 : Int) (hp : ∀ w', Calls Tryd.prog 14 #[.int .i64 a1, .int .i64 4] w' fun e w'' => e = .returned (.int .i64 0) ∧ w'' = w') (w : World) (g : Good w) :
    Calls Tryd.prog 6 #[.int .i64 a0, .int .i64 a1] w fun e w' => e = .returned (.bool true) ∧ Later w w' := by
  have go : ∀ {w'}, Later w w' → Good w' := fun h => g.later h
  have l0 : Later w w := Later.refl w
  have tx := fun w' g' => text_any a0 h0 h1 w' g'
  have z := txt_size a0 h0 h1
  have r1 := fun w' g' => read_no ((⟨#[48]⟩ : ByteArray) ++ txt a0) (by rw [cat_size]; omega) (by rw [cat_list]; exact bent_zero a0) w' g'
  have r2 := fun w' g' => read_no (txt a0 ++ (⟨#[32]⟩ : ByteArray)) (by rw [back_size]; omega) (by rw [cat_back]; exact bent_byte _ 32 (by simp) (Or.inr rfl)) w' g'
  have r3 := fun w' g' => read_no ⟨#[57, 50, 50, 51, 51, 55, 50, 48, 51, 54, 56, 53, 52, 55, 55, 53, 56, 48, 56]⟩ (by decide) over_top w' g'
  have r4 := fun w' g' => read_no ⟨#[45, 57, 50, 50, 51, 51, 55, 50, 48, 51, 54, 56, 53, 52, 55, 55, 53, 56, 48, 57]⟩ (by decide) under_low w' g'
  go_enter Tryd.func6, Tryd.ntmps6
  go_wp2_with (first | (go_at_call 11; refine (tx _ (go ‹_›)).mono ?_; rintro e w' ⟨rfl, hl⟩; have hl' := Later.trans ‹Later w _› hl) | (go_at_call 14; refine (hp _).mono ?_; rintro e wq ⟨rfl, rfl⟩; have la := Later.alloc ‹Later w _› (.cells #[.string ⟨#[48]⟩, .string ⟨#[43]⟩, .string ⟨#[32]⟩, .string ⟨#[45]⟩] 9)) | (go_at_call 9; apply Calls.mono; (focus (with_reducible (first | exact r1 _ (go ‹_›) | exact r2 _ (go ‹_›) | exact r3 _ (go ‹_›) | exact r4 _ (go ‹_›)))); rintro e w' ⟨rfl, hl⟩; have hl' := Later.trans ‹Later w _› hl) | (go_at_call 13; refine (alive_any _ (go ‹_›)).mono ?_; rintro e w' ⟨rfl, hl⟩; have hl' := Later.trans ‹Later w _› hl))
  go_ret
  exact ⟨rfl, ‹Later w _›⟩

set_option maxHeartbeats 2000000 in
theorem walk1 (a0 : Int) (h0 : -9223372036854775808 ≤ a0) (h1 : a0 ≤ 9223372036854775807) (a1 : Int) (hp : ∀ w', Calls Tryd.prog 14 #[.int .i64 a1, .int .i64 4] w' fun e w'' => e = .returned (.int .i64 1) ∧ w'' = w') (w : World) (g : Good w) :
    Calls Tryd.prog 6 #[.int .i64 a0, .int .i64 a1] w fun e w' => e = .returned (.bool true) ∧ Later w w' := by
  have go : ∀ {w'}, Later w w' → Good w' := fun h => g.later h
  have l0 : Later w w := Later.refl w
  have tx := fun w' g' => text_any a0 h0 h1 w' g'
  have z := txt_size a0 h0 h1
  have r1 := fun w' g' => read_no ((⟨#[43]⟩ : ByteArray) ++ txt a0) (by rw [cat_size]; omega) (by rw [cat_list]; exact bent_byte _ 43 (by simp) (Or.inl rfl)) w' g'
  have r2 := fun w' g' => read_no (txt a0 ++ (⟨#[32]⟩ : ByteArray)) (by rw [back_size]; omega) (by rw [cat_back]; exact bent_byte _ 32 (by simp) (Or.inr rfl)) w' g'
  have r3 := fun w' g' => read_no ⟨#[57, 50, 50, 51, 51, 55, 50, 48, 51, 54, 56, 53, 52, 55, 55, 53, 56, 48, 56]⟩ (by decide) over_top w' g'
  have r4 := fun w' g' => read_no ⟨#[45, 57, 50, 50, 51, 51, 55, 50, 48, 51, 54, 56, 53, 52, 55, 55, 53, 56, 48, 57]⟩ (by decide) under_low w' g'
  go_enter Tryd.func6, Tryd.ntmps6
  go_wp2_with (first | (go_at_call 11; refine (tx _ (go ‹_›)).mono ?_; rintro e w' ⟨rfl, hl⟩; have hl' := Later.trans ‹Later w _› hl) | (go_at_call 14; refine (hp _).mono ?_; rintro e wq ⟨rfl, rfl⟩; have la := Later.alloc ‹Later w _› (.cells #[.string ⟨#[48]⟩, .string ⟨#[43]⟩, .string ⟨#[32]⟩, .string ⟨#[45]⟩] 9)) | (go_at_call 9; apply Calls.mono; (focus (with_reducible (first | exact r1 _ (go ‹_›) | exact r2 _ (go ‹_›) | exact r3 _ (go ‹_›) | exact r4 _ (go ‹_›)))); rintro e w' ⟨rfl, hl⟩; have hl' := Later.trans ‹Later w _› hl) | (go_at_call 13; refine (alive_any _ (go ‹_›)).mono ?_; rintro e w' ⟨rfl, hl⟩; have hl' := Later.trans ‹Later w _› hl))
  go_ret
  exact ⟨rfl, ‹Later w _›⟩

set_option maxHeartbeats 2000000 in
theorem walk2 (a0 : Int) (h0 : -9223372036854775808 ≤ a0) (h1 : a0 ≤ 9223372036854775807) (a1 : Int) (hp : ∀ w', Calls Tryd.prog 14 #[.int .i64 a1, .int .i64 4] w' fun e w'' => e = .returned (.int .i64 2) ∧ w'' = w') (w : World) (g : Good w) :
    Calls Tryd.prog 6 #[.int .i64 a0, .int .i64 a1] w fun e w' => e = .returned (.bool true) ∧ Later w w' := by
  have go : ∀ {w'}, Later w w' → Good w' := fun h => g.later h
  have l0 : Later w w := Later.refl w
  have tx := fun w' g' => text_any a0 h0 h1 w' g'
  have z := txt_size a0 h0 h1
  have r1 := fun w' g' => read_no ((⟨#[32]⟩ : ByteArray) ++ txt a0) (by rw [cat_size]; omega) (by rw [cat_list]; exact bent_byte _ 32 (by simp) (Or.inr rfl)) w' g'
  have r2 := fun w' g' => read_no (txt a0 ++ (⟨#[32]⟩ : ByteArray)) (by rw [back_size]; omega) (by rw [cat_back]; exact bent_byte _ 32 (by simp) (Or.inr rfl)) w' g'
  have r3 := fun w' g' => read_no ⟨#[57, 50, 50, 51, 51, 55, 50, 48, 51, 54, 56, 53, 52, 55, 55, 53, 56, 48, 56]⟩ (by decide) over_top w' g'
  have r4 := fun w' g' => read_no ⟨#[45, 57, 50, 50, 51, 51, 55, 50, 48, 51, 54, 56, 53, 52, 55, 55, 53, 56, 48, 57]⟩ (by decide) under_low w' g'
  go_enter Tryd.func6, Tryd.ntmps6
  go_wp2_with (first | (go_at_call 11; refine (tx _ (go ‹_›)).mono ?_; rintro e w' ⟨rfl, hl⟩; have hl' := Later.trans ‹Later w _› hl) | (go_at_call 14; refine (hp _).mono ?_; rintro e wq ⟨rfl, rfl⟩; have la := Later.alloc ‹Later w _› (.cells #[.string ⟨#[48]⟩, .string ⟨#[43]⟩, .string ⟨#[32]⟩, .string ⟨#[45]⟩] 9)) | (go_at_call 9; apply Calls.mono; (focus (with_reducible (first | exact r1 _ (go ‹_›) | exact r2 _ (go ‹_›) | exact r3 _ (go ‹_›) | exact r4 _ (go ‹_›)))); rintro e w' ⟨rfl, hl⟩; have hl' := Later.trans ‹Later w _› hl) | (go_at_call 13; refine (alive_any _ (go ‹_›)).mono ?_; rintro e w' ⟨rfl, hl⟩; have hl' := Later.trans ‹Later w _› hl))
  go_ret
  exact ⟨rfl, ‹Later w _›⟩

set_option maxHeartbeats 2000000 in
theorem walk3 (a0 : Int) (h0 : -9223372036854775808 ≤ a0) (h1 : a0 ≤ 9223372036854775807) (hs : ¬ 0 < a0) (a1 : Int) (hp : ∀ w', Calls Tryd.prog 14 #[.int .i64 a1, .int .i64 4] w' fun e w'' => e = .returned (.int .i64 3) ∧ w'' = w') (w : World) (g : Good w) :
    Calls Tryd.prog 6 #[.int .i64 a0, .int .i64 a1] w fun e w' => e = .returned (.bool true) ∧ Later w w' := by
  have go : ∀ {w'}, Later w w' → Good w' := fun h => g.later h
  have l0 : Later w w := Later.refl w
  have tx := fun w' g' => text_any a0 h0 h1 w' g'
  have z := txt_size a0 h0 h1
  have r1 := fun w' g' => read_no ((⟨#[45]⟩ : ByteArray) ++ txt a0) (by rw [cat_size]; omega) (by rw [cat_list]; exact bent_minus a0 (by omega)) w' g'
  have r2 := fun w' g' => read_no (txt a0 ++ (⟨#[32]⟩ : ByteArray)) (by rw [back_size]; omega) (by rw [cat_back]; exact bent_byte _ 32 (by simp) (Or.inr rfl)) w' g'
  have r3 := fun w' g' => read_no ⟨#[57, 50, 50, 51, 51, 55, 50, 48, 51, 54, 56, 53, 52, 55, 55, 53, 56, 48, 56]⟩ (by decide) over_top w' g'
  have r4 := fun w' g' => read_no ⟨#[45, 57, 50, 50, 51, 51, 55, 50, 48, 51, 54, 56, 53, 52, 55, 55, 53, 56, 48, 57]⟩ (by decide) under_low w' g'
  go_enter Tryd.func6, Tryd.ntmps6
  go_wp2_with (first | (go_at_call 11; refine (tx _ (go ‹_›)).mono ?_; rintro e w' ⟨rfl, hl⟩; have hl' := Later.trans ‹Later w _› hl) | (go_at_call 14; refine (hp _).mono ?_; rintro e wq ⟨rfl, rfl⟩; have la := Later.alloc ‹Later w _› (.cells #[.string ⟨#[48]⟩, .string ⟨#[43]⟩, .string ⟨#[32]⟩, .string ⟨#[45]⟩] 9)) | (go_at_call 9; apply Calls.mono; (focus (with_reducible (first | exact r1 _ (go ‹_›) | exact r2 _ (go ‹_›) | exact r3 _ (go ‹_›) | exact r4 _ (go ‹_›)))); rintro e w' ⟨rfl, hl⟩; have hl' := Later.trans ‹Later w _› hl) | (go_at_call 13; refine (alive_any _ (go ‹_›)).mono ?_; rintro e w' ⟨rfl, hl⟩; have hl' := Later.trans ‹Later w _› hl))
  go_ret
  exact ⟨rfl, ‹Later w _›⟩

set_option maxHeartbeats 2000000 in
theorem walk4 (a0 : Int) (h0 : -9223372036854775808 ≤ a0) (h1 : a0 ≤ 9223372036854775807) (hs : 0 < a0) (a1 : Int) (hp : ∀ w', Calls Tryd.prog 14 #[.int .i64 a1, .int .i64 4] w' fun e w'' => e = .returned (.int .i64 3) ∧ w'' = w') (w : World) (g : Good w) :
    Calls Tryd.prog 6 #[.int .i64 a0, .int .i64 a1] w fun e w' => e = .returned (.bool true) ∧ Later w w' := by
  have go : ∀ {w'}, Later w w' → Good w' := fun h => g.later h
  have l0 : Later w w := Later.refl w
  have tx := fun w' g' => text_any a0 h0 h1 w' g'
  have z := txt_size a0 h0 h1
  have r1 : ∀ w', Good w' → Calls Tryd.prog 9 #[.string ((⟨#[45]⟩ : ByteArray) ++ txt a0)] w' fun e w'' => e = .returned (.tuple #[.int .i64 (-a0), .bool true]) ∧ Later w' w'' := fun w' g' => by
    have e : ((⟨#[45]⟩ : ByteArray) ++ txt a0) = txt (-a0) := (txt_eq (by rw [cat_list, minus_pos a0 hs])).symm
    rw [e]
    exact read_txt (-a0) (by omega) (by omega) w' g'
  go_enter Tryd.func6, Tryd.ntmps6
  go_wp2_with (first | (go_at_call 11; refine (tx _ (go ‹_›)).mono ?_; rintro e w' ⟨rfl, hl⟩; have hl' := Later.trans ‹Later w _› hl) | (go_at_call 14; refine (hp _).mono ?_; rintro e wq ⟨rfl, rfl⟩; have la := Later.alloc ‹Later w _› (.cells #[.string ⟨#[48]⟩, .string ⟨#[43]⟩, .string ⟨#[32]⟩, .string ⟨#[45]⟩] 9)) | (go_at_call 9; refine (r1 _ (go ‹_›)).mono ?_; rintro e w' ⟨rfl, hl⟩; have hl' := Later.trans ‹Later w _› hl) | (go_at_call 13; refine (alive_any _ (go ‹_›)).mono ?_; rintro e w' ⟨rfl, hl⟩; have hl' := Later.trans ‹Later w _› hl))
  go_ret
  exact ⟨rfl, ‹Later w _›⟩

theorem walk (a0 : Int) (w0 : (Lit.int .i64 a0).wf = true) (a1 : Int) (w1 : (Lit.int .i64 a1).wf = true) (w : World) (g : Good w) :
    Calls Tryd.prog 6 #[.int .i64 a0, .int .i64 a1] w fun e w' => e = .returned (.bool true) ∧ Later w w' := by
  have hb := bounds_i64 w0
  have hp := fun w' => pick_any a1 w'
  rcases pick4_one a1 with h | h | h | h <;> rw [h] at hp
  · exact walk0 a0 hb.1 hb.2 a1 hp w g
  · exact walk1 a0 hb.1 hb.2 a1 hp w g
  · exact walk2 a0 hb.1 hb.2 a1 hp w g
  · by_cases hs : 0 < a0
    · exact walk4 a0 hb.1 hb.2 hs a1 hp w g
    · exact walk3 a0 hb.1 hb.2 hs a1 hp w g

set_option maxRecDepth 100000 in
theorem lifted (os : Os) (started : os.Started) (H : Type) (enc : TypeId × Value → H) :
    ReturnsInHanded {} Tryd.checked os 6 .any (fun w args => (Rows.numBentSpec.pre enc Tryd.prog Tryd.f6 [] false w args ∧ laidMetH Tryd.prog theList w) ∧ sizedMet enc Tryd.prog Tryd.f6 (OpenSpec.ofChange Rows.numBentSpec) false w args)
      (Rows.numBentSpec.post enc Tryd.prog Tryd.f6 false true false false) := by
  refine returnsInHanded_of_change_and (C := Tryd.checked) (X := fun w _ => laidMetH Tryd.prog theList w) (fun _ _ _ hh h => h.of_heap hh) own started (by kernel_rfl) Tryd.func6
    (ChangeSpec.witness_shaped (enc := enc) (C := Tryd.checked) (os := os) (X := fun w _ => laidMetH Tryd.prog theList w) false (World.doorLaid Tryd.prog 400 os) #[.int .i64 0, .int .i64 0] 8 rfl (World.shaped_of_RefB (by kernel_rfl) (by kernel_rfl)) (by kernel_rfl) (by kernel_rfl) (by kernel_rfl) (door_met os _)) ?_
  intro W base args ds gs before hval0 hW _ hsz0 hL _
  have hsz : (DataW.weightsEach Tryd.prog (Tryd.f6.params.toList ++ Rows.numBentSpec.plain.varTypes Tryd.prog) (ds ++ gs)).all (· ≤ reachBytes) = true := hsz0
  clear hsz0
  have hval : ∀ (j : Nat) t v, Tryd.f6.params[j]? = some t → args[j]? = some v → Value.okWide Tryd.prog W .any base t v := hval0
  have hW' := hW
  obtain ⟨p, q, hA0, hV, rfl, hfz, hnd⟩ := hW
  have hA : DataW.TrodAll enc Tryd.prog W 0 (fun _ => true) true Tryd.f6.params.toList args.toList ds p := hA0
  rw [Tryd.params6] at hA hval hsz
  obtain ⟨v0, vs0, d0, ds0, p0, q0, hargs, rfl, rfl, h0, r0⟩ := trodAll_cons hA
  obtain ⟨v1, vs1, d1, ds1, p1, q1, rfl, rfl, rfl, h1, r1⟩ := trodAll_cons r0
  obtain ⟨rfl, rfl, rfl⟩ := trodAll_nil r1
  obtain rfl : args = #[v0, v1] := by cases args; simp_all
  obtain ⟨rfl, rfl⟩ := trodVars_none hV
  obtain ⟨a0, rfl, rfl, rfl, w0⟩ := open_int Tryd.underlying2 (hval 0 2 v0 rfl rfl) h0
  obtain ⟨a1, rfl, rfl, rfl, w1⟩ := open_int Tryd.underlying3 (hval 1 3 v1 rfl rfl) h1
  clear hA0 hval0
  simp only [List.append_nil] at hW'
  refine (walk a0 w0 a1 w1 W (Good.of_laid hL)).mono fun e W' ⟨he, hnx⟩ => ?_
  subst he
  refine ⟨_, rfl, _, _, _, [], [], [], hW', ?_, ?_, rfl, Below.frame hnx _, fun h => by cases h⟩
  · exact (trodAll_cons_mk (shut_bool Tryd.underlying4 _) trodAll_mk0)
  · exact (trodAll_cons_mk (shut_int Tryd.underlying2 w0) (trodAll_cons_mk (shut_int Tryd.underlying3 w1) trodAll_mk0))

theorem over : Rows.numBentRow.holds Tryd.pinned (OpenSpec.ofChange Rows.numBentSpec) :=
  OpenClaim.holds_of_wide 6 Tryd.f6 rfl rfl rfl rfl rfl rfl rfl ⟨rfl, rfl, rfl, rfl, rfl⟩ rfl rfl rfl rfl rfl (by kernel_rfl) Tryd.func6 (by kernel_rfl)
    (of_decide_eq_true (by kernel_rfl)) (by unfold Func.isWrapper; first | (rw [if_pos (by decide +kernel)]; kernel_rfl) | (rw [if_neg (by decide +kernel)]; exact ⟨rfl, rfl⟩))
    (fun os started H enc _ => lifted os started H enc)

end Go.Proofs.YtidlapopnigcjaaDoor.numBent

namespace Go.Proofs.YtidlapopnigcjaaDoor
open Go
/-- The statement: the row, with its listed variables tied to the program's text. -/
theorem numBent_holds : Rows.NumBentCardSaid :=
  Claim7.holds_tied_plain_at .later [] [.data, .data, .data, .sentinel, .sentinel] true Rows.numBentCard.stood.harness true
    numBent.over (fun _ h => by cases h) (by kernel_rfl) (fun _ h => by cases h) numBent_row_tie rfl ⟨rfl, rfl⟩ (by kernel_rfl) rfl
    (fun f fn hf hfn => by
      obtain rfl : f = 6 := Option.some.inj ((show Tryd.prog.funcNamed Rows.numBentRow.func = some 6 by kernel_rfl).symm.trans hf) |>.symm
      obtain rfl : fn = Tryd.f6 := (Option.some.inj (Tryd.func6.symm.trans hfn)).symm
      exact ⟨by kernel_rfl, fun j t ht => by
        rw [Tryd.params6] at ht
        have hm : t ∈ [2, 3] := by simpa using Array.mem_of_getElem? ht
        have hall : ([2, 3].all fun u => !Tryd.prog.wantsStandIn u) = true := by kernel_rfl
        exact (show Tryd.prog.wantsStandIn t = false by simpa using List.all_eq_true.1 hall t hm)⟩)
    (by kernel_rfl)
#print axioms numBent_holds
end Go.Proofs.YtidlapopnigcjaaDoor
