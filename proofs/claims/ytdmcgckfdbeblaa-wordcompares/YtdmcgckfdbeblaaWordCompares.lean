/-
  Proved: for every two numbers of 64 bits WordCompares returns true: behind a Cmp the ten conditions say how the two numbers stand, with signs and without, and Cmp tells its first number; the arguments read as before. Conditions: none.
-/
import Derived.Test.YtdmcgckfdbeblaaOrder
import Derived.Deep.RegionHeld3
import Derived.WalkKit
import Derived.ProofKit
import Derived.OpenShut
namespace Go.Proofs.Ytdmcgckfdbeblaa.wordCompares
open Go.ChangeShapes Go.WideShapes Go.ChangeAt Go.RowKit
set_option linter.unusedVariables false      -- a walk need not use every 'w<i>' (that an integer argument fits its kind)

theorem own : ownKnob Try.prog.godebug = none := by kernel_rfl

theorem holds_next (a b : Int) (k : Nat) (hk : k < 10) (w : World) :
    Calls Try.prog 13 #[.int .i64 (IntKind.i64.wrap ((k : Int) + 1)), .agg #[.bool (isZ (wrap64 (a - b))), .bool (isS (wrap64 (a - b))), .bool (lessU a b), .bool (subO a b (wrap64 (a - b)))]] w fun e w' =>
      e = .returned (.bool (behind a b ((k : Int) + 1))) ∧ Later w w' := by
  have e : IntKind.i64.wrap ((k : Int) + 1) = (k : Int) + 1 := by
    rw [IntKind.wrap_i64]
    omega
  rw [e]
  exact holds_any _ _ _ _ _ w

set_option maxHeartbeats 4000000 in
theorem walk (a0 : Int) (a1 : Int) (w0 : (Lit.int .i64 a0).wf = true) (w1 : (Lit.int .i64 a1).wf = true) (w : World) :
    Calls Try.prog 7 #[.int .i64 a0, .int .i64 a1] w fun e w' => e = .returned (.bool true) ∧ Grown w w' := by
  obtain ⟨h1, h2⟩ := bounds_i64 w0
  obtain ⟨h3, h4⟩ := bounds_i64 w1
  clear w0 w1
  go_enter Try.func7, Try.ntmps7
  go_wp2_with (go_at_call 10; refine (do_cmp _ _ _).mono ?_; rintro e wc ⟨rfl, hl⟩)
  go_loopw [11] (fun i wr => ∃ k : Nat, k ≤ 10 ∧ i = .int .i64 k ∧ Later ((wc.alloc (.cells (flagsA a0 a1) 23)).alloc (.cells (wants a0 a1) 4)) wr) (fun i _ => 10 - (intOf i).toNat)
  case atStart => exact ⟨0, by omega, rfl, Later.refl _⟩
  case round =>
    obtain ⟨k, hk, rfl, hw⟩ := hrel
    by_cases hlt : k < 10
    · have hlt' : (k : Int) < 10 := by omega
      have hge' : (0 : Int) ≤ (k : Int) := by omega
      go_wp2
      go_region_held3 (fun w' => Later ((wc.alloc (.cells (flagsA a0 a1) 23)).alloc (.cells (wants a0 a1) 4)) w' ∧ w'.cell? ⟨wc.heap.size, 0, none⟩ = some (.bool (isZ (wrap64 (a0 - a1)))) ∧ w'.cell? ⟨wc.heap.size, 1, none⟩ = some (.bool (isS (wrap64 (a0 - a1)))) ∧
          w'.cell? ⟨wc.heap.size, 2, none⟩ = some (.bool (lessU a0 a1)) ∧ w'.cell? ⟨wc.heap.size, 3, none⟩ = some (.bool (subO a0 a1 (wrap64 (a0 - a1)))) ∧ w'.cell? ⟨wc.heap.size + 1, k, none⟩ = some (.bool (behind a0 a1 ((k : Int) + 1))))
        ((refine keepC h1 h2 h3 h4 hlt ?_; repeat (first | assumption | exact Later.refl _ | apply Later.drew | apply Later.alloc | (apply Later.trans; rotate_left; assumption))))
        ((go_at_call 13; refine (holds_next a0 a1 k hlt _).mono ?_; rintro e w' ⟨rfl, hl'⟩))
      rename_i hHeld
      obtain ⟨hEnd, -⟩ := hHeld
      go_wp2
      go_roundw
      case rel => exact ⟨k + 1, by omega, by go_num, hEnd⟩
      case measure => simp [intOf]; omega
    · have hge : ¬ (k : Int) < 10 := by omega
      go_wp2_with (go_at_call 12; refine (alive_any _).mono ?_; rintro e w' ⟨rfl, hl'⟩)
      go_ret
      refine ⟨rfl, ?_⟩
      refine (show Later w _ from ?_).grown
      repeat (first | exact Later.refl _ | apply Later.alloc | (apply Later.trans; rotate_left; assumption))

/-! ### THE ROW's STEP: WRITTEN OUT: LEAVE IT -/
set_option maxRecDepth 100000 in
theorem lifted (os : Os) (started : os.Started) (H : Type) (enc : TypeId × Value → H) :
    ReturnsInHanded {} Try.checked os 7 .any (Rows.wordComparesSpec.pre6 enc Try.prog Try.f7 Rows.wordComparesRow.domain false) (Rows.wordComparesSpec.post enc Try.prog Try.f7 false true false false) := by
  refine returnsInHanded_of_change (C := Try.checked) own started (by kernel_rfl) Try.func7
    (ChangeSpec.witness6 (enc := enc) (C := Try.checked) false ⟨#[], #[.int .i64 0, .int .i64 0], []⟩ 8 (by kernel_rfl) (by kernel_rfl) (by kernel_rfl) (by kernel_rfl)) ?_
  intro W base args ds gs before hval0 hW hcnd _
  have hval : ∀ (j : Nat) t v, Try.f7.params[j]? = some t → args[j]? = some v → Value.okWide Try.prog W .any base t v := hval0
  have hW' := hW
  obtain ⟨p, q, hA0, hV, rfl, hfz, hnd⟩ := hW
  have hA : DataW.TrodAll enc Try.prog W 0 (fun _ => true) true Try.f7.params.toList args.toList ds p := hA0
  rw [Try.params7] at hA hval
  obtain ⟨v0, vs0, d0, ds0, p0, q0, hargs, rfl, rfl, h0, r0⟩ := trodAll_cons hA
  obtain ⟨v1, vs1, d1, ds1, p1, q1, rfl, rfl, rfl, h1, r1⟩ := trodAll_cons r0
  obtain ⟨rfl, rfl, rfl⟩ := trodAll_nil r1
  obtain rfl : args = #[v0, v1] := by cases args; simp_all
  obtain ⟨rfl, rfl⟩ := trodVars_none hV
  obtain ⟨a0, rfl, rfl, rfl, w0⟩ := open_int Try.underlying2 (hval 0 2 v0 rfl rfl) h0
  obtain ⟨a1, rfl, rfl, rfl, w1⟩ := open_int Try.underlying2 (hval 1 2 v1 rfl rfl) h1
  clear hA0 hval0
  simp only [List.append_nil] at hW'
  refine (walk a0 a1 w0 w1 W).mono fun e W' ⟨he, hg⟩ => ?_
  subst he
  exact ⟨_, rfl, post_of_same (pa := []) (pv := []) hW' (fun _ _ _ => (trodAll_cons_mk (shut_bool Try.underlying4 _) trodAll_mk0)) (fun sp _ => (trodAll_cons_mk (shut_int Try.underlying2 w0) (trodAll_cons_mk (shut_int Try.underlying2 w1) trodAll_mk0))) (fun _ _ => rfl) rfl
    (hg.frame _) hg.2.1 (ok_one (by kernel_rfl) rfl (okWide_bool_mk Try.underlying4 _))⟩

theorem over : Rows.wordComparesRow.holds Try.pinned (OpenSpec.ofChange Rows.wordComparesSpec) :=
  OpenClaim.holds_of_wide 7 Try.f7 rfl rfl rfl rfl rfl rfl rfl ⟨rfl, rfl, rfl, rfl, rfl⟩ rfl rfl rfl rfl rfl (by kernel_rfl) Try.func7 (by kernel_rfl)
    (of_decide_eq_true (by kernel_rfl)) (by unfold Func.isWrapper; first | (rw [if_pos (by decide +kernel)]; kernel_rfl) | (rw [if_neg (by decide +kernel)]; exact ⟨rfl, rfl⟩))
    (fun os started H enc _ => lifted os started H enc)

end Go.Proofs.Ytdmcgckfdbeblaa.wordCompares

namespace Go.Proofs.Ytdmcgckfdbeblaa
/-- The statement. -/
theorem wordCompares_holds : Rows.WordComparesSaid := wordCompares.over
#print axioms wordCompares_holds
end Go.Proofs.Ytdmcgckfdbeblaa
