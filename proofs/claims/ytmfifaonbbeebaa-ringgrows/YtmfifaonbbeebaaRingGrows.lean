/-
  For every input: the statement's function returns true and nothing that was in memory turns. Conditions: none.
-/
import Derived.Test.YtmfifaonbbeebaaRows
import Derived.Test.YtmfifaonbbeebaaRingOne
import Derived.Test.YtmfifaonbbeebaaOpensRing
import Derived.Test.YtmfifaonbbeebaaPick
import Derived.WalkKit
import Derived.ProofKit
import Derived.OpenShut
import Derived.SizedLaws
import Derived.ShutString
import Derived.Carry
import Derived.Stop.Joined
namespace Go.Proofs.Ytmfifaonbbeebaa.ringGrows
open Go.ChangeShapes Go.WideShapes Go.ChangeAt Go.RowKit
open Go.ChangeMaps (open_string shut_string)
set_option linter.unusedVariables false
set_option linter.unusedSimpArgs false

theorem own : ownKnob Try.prog.godebug = none := by kernel_rfl
theorem laidOut : laidOutB Try.prog = true := by kernel_rfl

/-- The entry that is pushed k-th. -/
def entN (k : Nat) : Int × Int := ((k : Int).tmod 7, (k : Int))
def rowN (out k : Nat) : List (Int × Int) := (List.range' out k).map entN
theorem rowN_snoc (out k : Nat) : rowN out k ++ [entN (out + k)] = rowN out (k + 1) := by
  unfold rowN
  rw [List.range'_concat]
  simp
theorem rowN_cons (out k : Nat) : rowN out (k + 1) = entN out :: rowN (out + 1) k := by
  unfold rowN
  rw [List.range'_succ]
  rfl
theorem rowN_nil (out : Nat) : rowN out 0 = [] := rfl

set_option maxRecDepth 1000000 in
set_option maxHeartbeats 4000000 in
theorem walk (w : World) (a : Int) (ha : I64 a) (b : Int) (hb : I64 b) : Calls Try.prog 4 #[.int .i64 a, .int .i64 b] w fun e w' => e = .returned (.bool true) ∧ Later w w' := by
  have q1 := ent_guard
  have q2 := fun a b c d w => equal_ent a b c d w
  obtain ⟨n, hn, hn0⟩ := pick_nat a 400 (by omega)
  obtain ⟨z, hz, hz0⟩ := pick_nat b 9 (by omega)
  have cA := fun w' => pick_any a 400 ha (by omega) w'
  have cB := fun w' => pick_any b 9 hb (by omega) w'
  rw [show pick a 400 = n from hn] at cA
  rw [show pick b 9 = z from hz] at cB
  clear hn hz
  go_enter Try.func4, Try.ntmps4
  go_wp2_with (first
    | (go_at_call 10; apply Calls.mono; (focus (with_reducible (exact cA _))); rintro e w1 ⟨rfl, hw1⟩; have hw2 := hw1.symm; subst hw2; clear cA)
    | (go_at_call 10; apply Calls.mono; (focus (with_reducible (exact cB _))); rintro e w1 ⟨rfl, hw1⟩; have hw2 := hw1.symm; subst hw2; clear cB)
    | (go_at_call 8; refine (one_new w _ (Later.refl w)).mono ?_; rintro e w1 ⟨p, rfl, h1, -⟩))
  obtain ⟨g, hg⟩ : ∃ g : Int, 1 + (z : Int) = g := ⟨_, rfl⟩
  have hg0 : (g == 0) = false := by simp; omega
  have hg1 : (g == -1) = false := by simp; omega
  rw [hg]
  go_loopw [6, 7] (fun vo vi wr => ∃ (i out : Nat), vi = .int .i64 (i : Nat) ∧ vo = .int .i64 (out : Nat) ∧ i ≤ n ∧ out ≤ i ∧ Hid (One w wr p (rowN out (i - out)) i)) (fun _ vi _ => n - (intOf vi).toNat)
  case atStart => exact ⟨0, 0, rfl, rfl, by omega, by omega, h1⟩
  case round =>
    clear h1
    obtain ⟨i, out, rfl, rfl, hi, ho, hO⟩ := hrel
    by_cases h8 : i < n
    · have c := one_push w wr p (entN i) (rowN out (i - out)) i hO.out (by omega)
      have hr : rowN out (i - out) ++ [entN i] = entN out :: rowN (out + 1) (i - out) := by
        have h := rowN_snoc out (i - out)
        rw [show out + (i - out) = i by omega] at h
        rw [h, rowN_cons]
      rw [hr] at c
      have cO := fun w2 h2 => one_pop w w2 p (entN out) (rowN (out + 1) (i - out)) (i + 1) h2 (by omega)
      have hr2 : entN out :: rowN (out + 1) (i - out) = rowN out (i + 1 - out) := by rw [← rowN_cons]; congr 1; omega
      have hr3 : rowN (out + 1) (i - out) = rowN (out + 1) (i + 1 - (out + 1)) := by congr 1; omega
      have e1 : (entN i).1 = (i : Int).tmod 7 := rfl
      have e2 : (entN i).2 = (i : Int) := rfl
      have e3 : (entN out).1 = (out : Int).tmod 7 := rfl
      have e4 : (entN out).2 = (out : Int) := rfl
      rw [e1, e2] at c
      rw [e3, e4] at cO
      have hnn : ((i : Int) + 1 ≤ 400) := by omega
      clear hO hr e1 e2 e3 e4
      obtain ⟨k0, hk0⟩ : ∃ k0 : Int, (i : Int).tmod g = k0 := ⟨_, rfl⟩
      by_cases hm : k0 = 0
      · have hmb : ((i : Int).tmod g == 0) = true := by rw [hk0]; simp [hm]
        go_wp2_with (first
          | (go_at_call 11; refine c.mono ?_; rintro e w2 ⟨rfl, h2⟩; clear c)
          | (go_at_call 12; refine (cO _ h2).mono ?_; rintro e w3 ⟨rfl, h3⟩; have hbx := at_new w3 (.cells #[.int .i64 ((out : Int).tmod 7), .int .i64 (out : Int)] 31); obtain ⟨b0, b1, -⟩ := box2_facts hbx; clear hbx))
        go_roundw
        case rel => exact ⟨i + 1, out + 1, by go_num, by go_num, by omega, by omega, by rw [← hr3]; exact h3.later (Later.alloc (Later.refl w3) _)⟩
        case measure => simp [intOf] <;> omega
      · have hmb : ((i : Int).tmod g == 0) = false := by rw [hk0]; simp [hm]
        go_wp2_with (go_at_call 11; refine c.mono ?_; rintro e w2 ⟨rfl, h2⟩; clear c)
        go_roundw
        case rel => exact ⟨i + 1, out, by go_num, rfl, by omega, by omega, by rw [← hr2]; exact h2⟩
        case measure => simp [intOf] <;> omega
    · obtain rfl : i = n := by omega
      go_wp2
      go_loopw [6] (fun vo wr => ∃ out : Nat, vo = .int .i64 (out : Nat) ∧ out ≤ i ∧ Hid (One w wr p (rowN out (i - out)) i)) (fun vo _ => i - (intOf vo).toNat)
      case atStart => exact ⟨out, rfl, ho, hO⟩
      case round =>
        clear hO
        obtain ⟨out, rfl, ho, hO⟩ := hrel
        by_cases h9 : out < i
        · have hr : rowN out (i - out) = entN out :: rowN (out + 1) (i - out - 1) := by rw [← rowN_cons]; congr 1; omega
          have hr3 : rowN (out + 1) (i - out - 1) = rowN (out + 1) (i - (out + 1)) := by congr 1
          have h2 := hO.out
          rw [hr] at h2
          have cO := fun w2 h2 => one_pop w w2 p (entN out) (rowN (out + 1) (i - out - 1)) i h2 (by omega)
          have e3 : (entN out).1 = (out : Int).tmod 7 := rfl
          have e4 : (entN out).2 = (out : Int) := rfl
          rw [e3, e4] at cO
          clear hO hr e3 e4
          go_wp2_with (go_at_call 12; refine (cO _ h2).mono ?_; rintro e w3 ⟨rfl, h3⟩; have hbx := at_new w3 (.cells #[.int .i64 ((out : Int).tmod 7), .int .i64 (out : Int)] 31); obtain ⟨b0, b1, -⟩ := box2_facts hbx; clear hbx)
          go_roundw
          case rel => exact ⟨out + 1, by go_num, by omega, by rw [← hr3]; exact h3.later (Later.alloc (Later.refl w3) _)⟩
          case measure => simp [intOf] <;> omega
        · obtain rfl : out = i := by omega
          have h2 := hO.out
          rw [Nat.sub_self, rowN_nil] at h2
          clear hO
          go_wp2_with (first
            | (go_at_call 12; refine (one_pop0 w _ p _ h2 (by omega)).mono ?_; rintro e w3 ⟨rfl, h3⟩; clear h2; have h4 := h3.later (Later.alloc (Later.refl w3) (.cells #[.int .i64 0, .int .i64 0] 31)))
            | (go_at_call 14; refine (one_len w _ p [] _ h4 (by omega)).mono ?_; rintro e w5 ⟨rfl, h5⟩; clear h4; rw [show (([] : List (Int × Int)).length : Int) = 0 from rfl])
            | (go_at_call 9; refine (ringAlive_any _).mono ?_; rintro e w7 ⟨rfl, h7⟩))
          go_ret
          exact ⟨rfl, h5.all.trans h7⟩

set_option maxRecDepth 100000 in
theorem lifted (os : Os) (started : os.Started) (H : Type) (enc : TypeId × Value → H) :
    ReturnsInHanded {} Try.checked os 4 .any (Rows.ringGrowsSpec.pre6 enc Try.prog Try.f4 Rows.ringGrowsRow.domain false)
      (Rows.ringGrowsSpec.post enc Try.prog Try.f4 false true false false) := by
  refine returnsInHanded_of_change (C := Try.checked) own started (by kernel_rfl) Try.func4
    (ChangeSpec.witness6 (enc := enc) (C := Try.checked) false ⟨#[], #[.int .i64 0, .int .i64 0], []⟩ 8 (by kernel_rfl) (by kernel_rfl) (by kernel_rfl) (by kernel_rfl)) ?_
  intro W base args ds gs before hval0 hW _ _
  have hval : ∀ (j : Nat) t v, Try.f4.params[j]? = some t → args[j]? = some v → Value.okWide Try.prog W .any base t v := hval0
  have hW' := hW
  obtain ⟨p, q, hA0, hV, rfl, hfz, hnd⟩ := hW
  have hA : DataW.TrodAll enc Try.prog W 0 (fun _ => true) true Try.f4.params.toList args.toList ds p := hA0
  rw [Try.params4] at hA hval
  obtain ⟨v0, vs0, d0, ds0, p0, q0, hargs, rfl, rfl, h0, r0⟩ := trodAll_cons hA
  obtain ⟨v1, vs1, d1, ds1, p1, q1, rfl, rfl, rfl, h1, r1⟩ := trodAll_cons r0
  obtain ⟨rfl, rfl, rfl⟩ := trodAll_nil r1
  obtain rfl : args = #[v0, v1] := by cases args; simp_all
  obtain ⟨rfl, rfl⟩ := trodVars_none hV
  simp only [List.append_nil] at hW'
  obtain ⟨a0, rfl, rfl, rfl, w0⟩ := open_int Try.underlying3 (hval 0 3 v0 rfl rfl) h0
  obtain ⟨a1, rfl, rfl, rfl, w1⟩ := open_int Try.underlying3 (hval 1 3 v1 rfl rfl) h1
  clear hA0 hval0
  refine (walk W a0 (int64_of_wf w0) a1 (int64_of_wf w1)).mono fun e W' ⟨he, hnx⟩ => ?_
  subst he
  refine ⟨_, rfl, _, _, _, [], ([] ++ ([] ++ [])), [], hW', ?_, ?_, rfl, Below.frame hnx _, fun h => by cases h⟩
  · exact (trodAll_cons_mk (shut_bool Try.underlying4 _) trodAll_mk0)
  · exact (trodAll_cons_mk (shut_int Try.underlying3 w0) (trodAll_cons_mk (shut_int Try.underlying3 w1) trodAll_mk0))

theorem over : Rows.ringGrowsRow.holds Try.pinned (OpenSpec.ofChange Rows.ringGrowsSpec) :=
  OpenClaim.holds_of_wide 4 Try.f4 rfl rfl rfl rfl rfl rfl rfl ⟨rfl, rfl, rfl, rfl, rfl⟩ rfl rfl rfl rfl rfl (by kernel_rfl) Try.func4 (by kernel_rfl)
    (of_decide_eq_true (by kernel_rfl)) (by unfold Func.isWrapper; first | (rw [if_pos (by decide +kernel)]; kernel_rfl) | (rw [if_neg (by decide +kernel)]; exact ⟨rfl, rfl⟩))
    (fun os started H enc _ => lifted os started H enc)

end Go.Proofs.Ytmfifaonbbeebaa.ringGrows

namespace Go.Proofs.Ytmfifaonbbeebaa
open Go
/-- The statement. -/
theorem ringGrows_holds : Rows.RingGrowsSaid := ringGrows.over
#print axioms ringGrows_holds
end Go.Proofs.Ytmfifaonbbeebaa
