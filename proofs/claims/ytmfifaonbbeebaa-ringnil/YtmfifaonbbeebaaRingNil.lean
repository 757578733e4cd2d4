/-
  For every input: the statement's function returns true and nothing that was in memory turns. Conditions: none.
-/
import Derived.Test.YtmfifaonbbeebaaRows
import Derived.Test.YtmfifaonbbeebaaRingOne
import Derived.Test.YtmfifaonbbeebaaOpensRing
import Derived.Test.YtmfifaonbbeebaaPick
import Derived.WalkKit
import Derived.ProofKit
import Derived.OpenShut
import Derived.SizedLaws
import Derived.ShutString
import Derived.Carry
import Derived.Stop.Joined
namespace Go.Proofs.Ytmfifaonbbeebaa.ringNil
open Go.ChangeShapes Go.WideShapes Go.ChangeAt Go.RowKit
open Go.ChangeMaps (open_string shut_string)
set_option linter.unusedVariables false
set_option linter.unusedSimpArgs false

theorem own : ownKnob Try.prog.godebug = none := by kernel_rfl
theorem laidOut : laidOutB Try.prog = true := by kernel_rfl

set_option maxRecDepth 1000000 in
set_option maxHeartbeats 4000000 in
theorem walk (w : World) (x : Int × Int) : Calls Try.prog 6 #[entV x] w fun e w' => e = .returned (.bool true) ∧ Later w w' := by
  have q1 := ent_guard
  have q2 := fun a b c d w => equal_ent a b c d w
  have cP := fun w => push_nil w x
  have cO := fun w => pop_nil w
  unfold entV at *
  have LL := Later.alloc (Later.refl w) (.cells #[.int .i64 x.1, .int .i64 x.2] 31)
  have HB := at_new w (.cells #[.int .i64 x.1, .int .i64 x.2] 31)
  obtain ⟨b0, b1, -⟩ := box2_facts HB
  go_enter Try.func6, Try.ntmps6
  go_upto_region 1 with (fail)
  generalize w.alloc (.cells #[.int .i64 x.1, .int .i64 x.2] 31) = W at *
  go_upto_region 4 with (first
    | (go_at_call 11; refine (cP _).mono ?_; rintro e w1 ⟨rfl, h1⟩; have c0 := cell_later b0 h1; have c1 := cell_later b1 h1; clear b0 b1)
    | (go_at_call 12; refine (cO _).mono ?_; rintro e w2 ⟨rfl, h2⟩; have d0 := cell_later c0 h2; clear c0 c1))
  have hb := at_new w2 (.cells #[.int .i64 0, .int .i64 0] 31)
  have hl := Later.alloc (Later.refl w2) (.cells #[.int .i64 0, .int .i64 0] 31)
  have k0 := cell_later d0 hl
  have L3 := LL.trans (h1.trans (h2.trans hl))
  clear HB d0 hl LL
  go_upto_region 5 with (go_at_call 18; refine (last_nil _ x.1).mono ?_; rintro e w3 ⟨rfl, h3⟩; obtain ⟨m0, m1, -⟩ := box2_facts (heap_later h3 hb))
  clear hb k0 cP cO
  go_wp2_with (first
    | (go_at_call 14; refine (len_nil _).mono ?_; rintro e w4 ⟨rfl, h4⟩)
    | (go_at_call 17; refine (list_nil _).mono ?_; rintro e w5 ⟨v5, rfl, ho5, h5⟩; obtain ⟨p5, q5, rfl⟩ := owns_slice ho5)
    | (go_at_call 15; refine (copy_nil _).mono ?_; rintro e w6 ⟨rfl, h6⟩)
    | (go_at_call 9; refine (ringAlive_any _).mono ?_; rintro e w7 ⟨rfl, h7⟩))
  go_ret
  exact ⟨rfl, L3.trans (h3.trans (h4.trans (h5.trans (h6.trans h7))))⟩

set_option maxRecDepth 100000 in
theorem lifted (os : Os) (started : os.Started) (H : Type) (enc : TypeId × Value → H) :
    ReturnsInHanded {} Try.checked os 6 .any (Rows.ringNilSpec.pre6 enc Try.prog Try.f6 Rows.ringNilRow.domain false)
      (Rows.ringNilSpec.post enc Try.prog Try.f6 false true false false) := by
  refine returnsInHanded_of_change (C := Try.checked) own started (by kernel_rfl) Try.func6
    (ChangeSpec.witness6 (enc := enc) (C := Try.checked) false ⟨#[], #[.agg #[.int .i64 0, .int .i64 0]], []⟩ 8 (by kernel_rfl) (by kernel_rfl) (by kernel_rfl) (by kernel_rfl)) ?_
  intro W base args ds gs before hval0 hW _ _
  have hval : ∀ (j : Nat) t v, Try.f6.params[j]? = some t → args[j]? = some v → Value.okWide Try.prog W .any base t v := hval0
  have hW' := hW
  obtain ⟨p, q, hA0, hV, rfl, hfz, hnd⟩ := hW
  have hA : DataW.TrodAll enc Try.prog W 0 (fun _ => true) true Try.f6.params.toList args.toList ds p := hA0
  rw [Try.params6] at hA hval
  obtain ⟨v0, vs0, d0, ds0, p0, q0, hargs, rfl, rfl, h0, r0⟩ := trodAll_cons hA
  obtain ⟨rfl, rfl, rfl⟩ := trodAll_nil r0
  obtain rfl : args = #[v0] := by cases args; simp_all
  obtain ⟨rfl, rfl⟩ := trodVars_none hV
  simp only [List.append_nil] at hW'
  have h0k := h0
  have hlt0 : ∀ x ∈ p0, x.block < W.heap.size := fun x hx => by simpa using hW'.lt x (by simp [hx])
  obtain ⟨x0, rfl⟩ := open_ent (hval 0 31 v0 rfl rfl) h0
  clear hA0 hval0
  refine (walk W x0).mono fun e W' ⟨he, hnx⟩ => ?_
  subst he
  refine ⟨_, rfl, _, _, _, [], (p0 ++ []), [], hW', ?_, ?_, rfl, Below.frame hnx _, fun h => by cases h⟩
  · exact (trodAll_cons_mk (shut_bool Try.underlying4 _) trodAll_mk0)
  · exact (trodAll_cons_mk (Below.trod laidOut (by kernel_rfl) (of_decide_eq_true (by kernel_rfl)) h0k hnx hlt0) trodAll_mk0)

theorem over : Rows.ringNilRow.holds Try.pinned (OpenSpec.ofChange Rows.ringNilSpec) :=
  OpenClaim.holds_of_wide 6 Try.f6 rfl rfl rfl rfl rfl rfl rfl ⟨rfl, rfl, rfl, rfl, rfl⟩ rfl rfl rfl rfl rfl (by kernel_rfl) Try.func6 (by kernel_rfl)
    (of_decide_eq_true (by kernel_rfl)) (by unfold Func.isWrapper; first | (rw [if_pos (by decide +kernel)]; kernel_rfl) | (rw [if_neg (by decide +kernel)]; exact ⟨rfl, rfl⟩))
    (fun os started H enc _ => lifted os started H enc)

end Go.Proofs.Ytmfifaonbbeebaa.ringNil

namespace Go.Proofs.Ytmfifaonbbeebaa
open Go
/-- The statement. -/
theorem ringNil_holds : Rows.RingNilSaid := ringNil.over
#print axioms ringNil_holds
end Go.Proofs.Ytmfifaonbbeebaa
