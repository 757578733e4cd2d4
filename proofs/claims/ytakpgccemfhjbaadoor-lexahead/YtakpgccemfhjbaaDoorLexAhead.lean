/-
  Proved: for every text LexAhead returns true: what stands ahead of the place at which its first 400 bytes are wrong is not wrong; the argument reads as before. The listed package variables stand as the program's text lays them (tied). Conditions: none besides.
-/
import Derived.Test.YtakpgccemfhjbaaDoorRows
import Derived.Test.YtakpgccemfhjbaaDoorCards
import Derived.Test.YtakpgccemfhjbaaDoorTie
import Derived.Test.YtakpgccemfhjbaaDoorLaid
import Derived.Test.YtakpgccemfhjbaaDoorLexAlive
import Derived.Test.YtakpgccemfhjbaaDoorLexFacts
import Derived.Test.YtakpgccemfhjbaaDoorRefEnd
import Derived.RegionTactic
import Derived.Deep.CutRange
import Derived.WalkKit
import Derived.ProofKit
import Derived.OpenShut
import Derived.SizedLaws
import Derived.ShutString
import Derived.Stop.Joined
import Derived.SevenTiedAt
namespace Go.Proofs.YtakpgccemfhjbaaDoor.lexAhead
open Go.ChangeShapes Go.WideShapes Go.ChangeAt Go.RowKit
open Go.ChangeMaps (open_string shut_string)
set_option linter.unusedVariables false

theorem own : ownKnob Tryd.prog.godebug = none := by kernel_rfl

set_option maxRecDepth 1000000 in
set_option maxHeartbeats 2000000 in
theorem walk (a0 : ByteArray) (z0 : a0.size ≤ 140737488355328) (w : World) (g : Good w) :
    Calls Tryd.prog 6 #[.string a0] w fun e w' => e = .returned (.bool true) ∧ Later w w' := by
  have go : ∀ {w'}, Later w w' → Good w' := fun h => g.later h
  have c8 := fun w' => short400_any a0 z0 w'
  have hS := short_size 400 a0
  generalize short 400 a0 = S at *
  have cT : ∀ w', Good w' → _ := fun w' (g' : Good w') => tokens_any S (by omega) w' g'
  have cS := fun w' => refSpots_any S (by omega) w'
  have hah := tokens_ahead S
  have hspl := spot_split S
  have hble := bytes_le S
  have hlen := spots_len S
  generalize tokens S = o at *
  cases o with
  | ok T =>
    clear hah cS hspl hble hlen
    go_enter Tryd.func6, Tryd.ntmps6
    go_upto_region 3 with (first
      | (go_at_call 8; refine (c8 _).mono ?_; rintro e w1 ⟨rfl, hl1⟩)
      | (go_at_call 9; apply Calls.mono; (focus (with_reducible (exact cT _ (go hl1)))); rintro e w2 ⟨⟨a, cap, rfl, hrow⟩, hl2⟩))
    obtain ⟨c0, c1, c2, -, -, -⟩ := box3_facts (at_new w2 (.cells #[.int .i64 0, .int .i64 0, .int .i64 0] 26))
    have L3 := Later.alloc (Later.trans hl1 hl2) (.cells #[.int .i64 0, .int .i64 0, .int .i64 0] 26)
    generalize w2.alloc (.cells #[.int .i64 0, .int .i64 0, .int .i64 0] 26) = W3 at *
    go_wp2_with (go_at_call 12; refine (alive_any _ (go L3)).mono ?_; rintro e w4 ⟨rfl, hl4⟩)
    go_ret
    exact ⟨rfl, Later.trans L3 hl4⟩
  | error p =>
    obtain ⟨k, l, c⟩ := p
    obtain ⟨A, x, B, hM, hlc, hk0, T, hT⟩ := hah k l c rfl
    have cA : ∀ w', Good w' → _ := fun w' (g' : Good w') => tokens_any (ofL (bytes A)) (by rw [ofL_size]; have := (hble A (x :: B) hM).1; omega) w' g'
    rw [hT] at cA
    have hext : S.extract 0 (bytes A).length = ofL (bytes A) := by
      have := ext_bytes S [] A (x :: B) (by rw [hM]; simp)
      simpa [bytes] using this
    have hAb := hble A (x :: B) hM
    have hx := hspl A x B hM
    have hAl : A.length < (spots S).length := by rw [hlen, hM]; simp
    have hl1' : (adv 1 1 A).1 = l := by rw [← hlc]
    have hc1' : (adv 1 1 A).2 = c := by rw [← hlc]
    have hother : ∀ i, i < A.length → ∃ y, (spots S)[i]? = some y ∧ ¬ (y.line = l ∧ y.col = c) := by
      intro i hi
      obtain ⟨y, C, e⟩ : ∃ y C, A = A.take i ++ y :: C := ⟨A[i], A.drop (i + 1), by rw [List.getElem_cons_drop hi, List.take_append_drop]⟩
      have hm2 : marks S.data.toList = A.take i ++ y :: (C ++ x :: B) := by
        rw [hM]
        exact (congrArg (· ++ x :: B) e).trans (by simp)
      have h1 := hspl _ _ _ hm2
      rw [List.length_take, Nat.min_eq_left (by omega)] at h1
      refine ⟨_, h1, ?_⟩
      have h2 := adv_ne (A.take i) (y :: C) (by simp)
      rw [← e, hl1', hc1'] at h2
      exact h2
    rw [hl1', hc1'] at hx
    have hL : (spots S).length ≤ 1000 := by rw [hlen]; have := bytes_le S (marks S.data.toList) [] (by simp); omega
    generalize spots S = L at *
    have hkz : ((k : Int) == 0) = false := by simp; omega
    clear hah hspl hble hlen hT hM hl1' hc1' hlc
    generalize A.length = m at *
    generalize (bytes A).length = p at *
    generalize ofL (bytes A) = U at *
    go_enter Tryd.func6, Tryd.ntmps6
    go_upto_region 3 with (first
      | (go_at_call 8; refine (c8 _).mono ?_; rintro e w1 ⟨rfl, hl1⟩)
      | (go_at_call 9; apply Calls.mono; (focus (with_reducible (exact cT _ (go hl1)))); rintro e w2 ⟨hres, hl2⟩; obtain rfl : e = _ := hres))
    obtain ⟨c0, c1, c2, -, -, -⟩ := box3_facts (at_new w2 (.cells #[.int .i64 (k : Nat), .int .i64 (l : Nat), .int .i64 (c : Nat)] 26))
    have L3 := Later.alloc (Later.trans hl1 hl2) (.cells #[.int .i64 (k : Nat), .int .i64 (l : Nat), .int .i64 (c : Nat)] 26)
    generalize w2.alloc (.cells #[.int .i64 (k : Nat), .int .i64 (l : Nat), .int .i64 (c : Nat)] 26) = W3 at *
    go_wp2_with (go_at_call 16; refine (cS _).mono ?_; rintro e w4 ⟨⟨a, cap, rfl, hrow⟩, hl4⟩; have d0 := cell_later c0 hl4; have d1 := cell_later c1 hl4; have d2 := cell_later c2 hl4; have L4 := Later.trans L3 hl4)
    go_loopw [6] (fun vi wr => ∃ (i : Nat), vi = .int .i64 (i : Nat) ∧ i ≤ m ∧ Later w4 wr) (fun vi _ => L.length - (intOf vi).toNat)
    case atStart => exact ⟨0, rfl, by omega, Later.refl _⟩
    case round =>
      obtain ⟨i, rfl, hi, hlw⟩ := hrel
      have e0 := cell_later d0 hlw
      have e1 := cell_later d1 hlw
      have e2 := cell_later d2 hlw
      have hrw := hrow.later hlw
      have hiL : (i : Int) < (L.length : Int) := by omega
      by_cases him : i = m
      · subst him
        obtain ⟨gg, rfl, -, p1, -, p3, p4, -⟩ := hrw.get hx
        clear hrow hother d0 d1 d2 c0 c1 c2 hx
        have hpS : (p : Int) ≤ (S.size : Int) := by omega
        go_wp2
        go_quiet (fail)
        have Lq : Later w (wr.drewN nq) := Later.drewN (Later.trans L4 hlw) nq
        have f1 : (wr.drewN nq).cell? ⟨gg, i * 6 + 1, none⟩ = _ := p1
        generalize wr.drewN nq = W5 at f1 Lq ⊢
        go_upto_region 11 with (go_at_call 9; apply Calls.mono; (focus (with_reducible (exact cA _ (go Lq)))); rintro e w6 ⟨⟨a6, cap6, rfl, hrow6⟩, hl6⟩)
        obtain ⟨x0, x1, x2, -, -, -⟩ := box3_facts (at_new w6 (.cells #[.int .i64 0, .int .i64 0, .int .i64 0] 26))
        have L6 := Later.alloc (Later.trans Lq hl6) (.cells #[.int .i64 0, .int .i64 0, .int .i64 0] 26)
        generalize w6.alloc (.cells #[.int .i64 0, .int .i64 0, .int .i64 0] 26) = W7 at *
        go_wp2_with (go_at_call 12; refine (alive_any _ (go L6)).mono ?_; rintro e w8 ⟨rfl, hl8⟩)
        go_ret
        exact ⟨by simp, Later.trans L6 hl8⟩
      · obtain ⟨y, hy, hne⟩ := hother i (by omega)
        obtain ⟨gg, rfl, -, -, -, p3, p4, -⟩ := hrw.get hy
        clear hrow hother d0 d1 d2 c0 c1 c2 hx hy
        generalize y.line = yl at *
        generalize y.col = yc at *
        by_cases hyl : yl = l
        · subst hyl
          have hyc : ((yc : Int) == (c : Int)) = false := by simp only [beq_eq_false_iff_ne, ne_eq]; omega
          go_wp2
          go_quiet (fail)
          go_wp2
          go_roundw
          case rel => exact ⟨i + 1, by go_num, by omega, Later.drewN hlw _⟩
          case measure => simp [intOf]; omega
        · have hyl' : ((yl : Int) == (l : Int)) = false := by simp only [beq_eq_false_iff_ne, ne_eq]; omega
          go_wp2
          go_quiet (fail)
          go_wp2
          go_roundw
          case rel => exact ⟨i + 1, by go_num, by omega, Later.drewN hlw _⟩
          case measure => simp [intOf]; omega

set_option maxRecDepth 100000 in
theorem lifted (os : Os) (started : os.Started) (H : Type) (enc : TypeId × Value → H) :
    ReturnsInHanded {} Tryd.checked os 6 .any (fun w args => (Rows.lexAheadSpec.pre enc Tryd.prog Tryd.f6 [] false w args ∧ laidMetH Tryd.prog theList w) ∧ sizedMet enc Tryd.prog Tryd.f6 (OpenSpec.ofChange Rows.lexAheadSpec) false w args)
      (Rows.lexAheadSpec.post enc Tryd.prog Tryd.f6 false true false false) := by
  refine returnsInHanded_of_change_and (C := Tryd.checked) (X := fun w _ => laidMetH Tryd.prog theList w) (fun _ _ _ hh h => h.of_heap hh) own started (by kernel_rfl) Tryd.func6
    (ChangeSpec.witness_shaped (enc := enc) (C := Tryd.checked) (os := os) (X := fun w _ => laidMetH Tryd.prog theList w) false (World.laidAll Tryd.prog os theList) #[.string ⟨#[]⟩] 8 (World.laidAll_os _ _ _) (World.shaped_of_ZipB (by kernel_rfl) (by kernel_rfl)) (by kernel_rfl) (by kernel_rfl) (by kernel_rfl) (door_met os _)) ?_
  intro W base args ds gs before hval0 hW _ hsz0 hL _
  have hsz : (DataW.weightsEach Tryd.prog (Tryd.f6.params.toList ++ Rows.lexAheadSpec.plain.varTypes Tryd.prog) (ds ++ gs)).all (· ≤ reachBytes) = true := hsz0
  clear hsz0
  have hval : ∀ (j : Nat) t v, Tryd.f6.params[j]? = some t → args[j]? = some v → Value.okWide Tryd.prog W .any base t v := hval0
  have hW' := hW
  obtain ⟨p, q, hA0, hV, rfl, hfz, hnd⟩ := hW
  have hA : DataW.TrodAll enc Tryd.prog W 0 (fun _ => true) true Tryd.f6.params.toList args.toList ds p := hA0
  rw [Tryd.params6] at hA hval hsz
  obtain ⟨v0, vs0, d0, ds0, p0, q0, hargs, rfl, rfl, h0, r0⟩ := trodAll_cons hA
  obtain ⟨rfl, rfl, rfl⟩ := trodAll_nil r0
  obtain rfl : args = #[v0] := by cases args; simp_all
  obtain ⟨rfl, rfl⟩ := trodVars_none hV
  obtain ⟨a0, rfl, rfl, rfl, w0⟩ := open_string Tryd.underlying9 (hval 0 9 v0 rfl rfl) h0
  have z0 : a0.size ≤ 140737488355328 := by
    have h1 := sized_string hsz (j := 0) (t := 9) rfl rfl
    have h2 := reachBytes_lt
    have e1 : a0.size = a0.data.size := rfl
    have e2 : a0.data.toList.length = a0.data.size := Array.length_toList
    have e3 : (2 : Nat) ^ 47 = 140737488355328 := by decide
    omega
  clear hA0 hval0
  simp only [List.append_nil] at hW'
  refine (walk a0 z0 W (Good.of_laid hL)).mono fun e W' ⟨he, hnx⟩ => ?_
  subst he
  refine ⟨_, rfl, _, _, _, [], [], [], hW', ?_, ?_, rfl, Below.frame hnx _, fun h => by cases h⟩
  · exact (trodAll_cons_mk (shut_bool Tryd.underlying4 _) trodAll_mk0)
  · exact (trodAll_cons_mk (shut_string Tryd.underlying9 w0) trodAll_mk0)

theorem over : Rows.lexAheadRow.holds Tryd.pinned (OpenSpec.ofChange Rows.lexAheadSpec) :=
  OpenClaim.holds_of_wide 6 Tryd.f6 rfl rfl rfl rfl rfl rfl rfl ⟨rfl, rfl, rfl, rfl, rfl⟩ rfl rfl rfl rfl rfl (by kernel_rfl) Tryd.func6 (by kernel_rfl)
    (of_decide_eq_true (by kernel_rfl)) (by unfold Func.isWrapper; first | (rw [if_pos (by decide +kernel)]; kernel_rfl) | (rw [if_neg (by decide +kernel)]; exact ⟨rfl, rfl⟩))
    (fun os started H enc _ => lifted os started H enc)

end Go.Proofs.YtakpgccemfhjbaaDoor.lexAhead

namespace Go.Proofs.YtakpgccemfhjbaaDoor
open Go
/-- The statement: the row, with its listed variables tied to the program's text. -/
theorem lexAhead_holds : Rows.LexAheadCardSaid :=
  Claim7.holds_tied_plain_at .later [] [.data, .data, .data, .data, .sentinel, .sentinel, .pinned] true Rows.lexAheadCard.stood.harness true
    lexAhead.over (fun _ h => by cases h) (by kernel_rfl) (fun _ h => by cases h) lexAhead_row_tie rfl ⟨rfl, rfl⟩ (by kernel_rfl) rfl
    (fun f fn hf hfn => by
      obtain rfl : f = 6 := Option.some.inj ((show Tryd.prog.funcNamed Rows.lexAheadRow.func = some 6 by kernel_rfl).symm.trans hf) |>.symm
      obtain rfl : fn = Tryd.f6 := (Option.some.inj (Tryd.func6.symm.trans hfn)).symm
      exact ⟨by kernel_rfl, fun j t ht => by
        rw [Tryd.params6] at ht
        have hm : t ∈ [9] := by simpa using Array.mem_of_getElem? ht
        have hall : ([9].all fun u => !Tryd.prog.wantsStandIn u) = true := by kernel_rfl
        exact (show Tryd.prog.wantsStandIn t = false by simpa using List.all_eq_true.1 hall t hm)⟩)
    (by kernel_rfl)
#print axioms lexAhead_holds
end Go.Proofs.YtakpgccemfhjbaaDoor
