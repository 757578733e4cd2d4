/-
  Proved: for every four numbers and a bool InsForms returns true: of each op with a register, a number, memory, or nothing as either operand what package ins tells is what the document says; the arguments read as before. The listed package-level variables (names.regs, names.ops, names.jumps, unicode/utf8's first and acceptRanges) start as the program's text lays them; no other condition.
-/
import Derived.Test.YtginggelbfbcfaaDoorRows
import Derived.Test.YtginggelbfbcfaaDoorCards
import Derived.Test.YtginggelbfbcfaaDoorTie
import Derived.Test.YtginggelbfbcfaaDoorNamesLaid
import Derived.Test.YtginggelbfbcfaaDoorOpens
import Derived.Test.YtginggelbfbcfaaDoorTellsCells
import Derived.Test.YtginggelbfbcfaaDoorInsAlive
import Derived.Test.YtginggelbfbcfaaDoorPick
import Derived.Test.YtginggelbfbcfaaDoorSet13
import Derived.Test.YtginggelbfbcfaaDoorBookIns0
import Derived.Deep.RegionHeld3
import Derived.WalkKit
import Derived.ProofKit
import Derived.OpenShut
import Derived.SizedLaws
import Derived.ShutString
import Derived.Carry
import Derived.Stop.Joined
import Derived.SevenTiedAt
namespace Go.Proofs.YtginggelbfbcfaaDoor.insForms
open Go.ChangeShapes Go.WideShapes Go.ChangeAt Go.RowKit
open Go.ChangeMaps (open_string shut_string)
set_option linter.unusedVariables false
set_option linter.unusedSimpArgs false

theorem own : ownKnob Tryd.prog.godebug = none := by kernel_rfl
theorem laidOut : laidOutB Tryd.prog = true := by kernel_rfl

theorem row_opd {w : World} {B : Nat} {t : TypeId} (h : w.heap[B]? = some (.cells #[.int .i64 0, .int .i64 0, .int .i64 0, .int .i64 0, .int .i64 1, .int .i64 3, .int .i64 0, .int .i64 0, .int .i64 2, .int .i64 0, .int .i64 0, .int .i64 (-5), .int .i64 3, .int .i64 0, .int .i64 1, .int .i64 2, .int .i64 4, .int .i64 2, .int .i64 1, .int .i64 0] t)) (k : Nat) (hk : k < 5) :
    ∃ o : Opd, w.cell? ⟨B, k * 4, none⟩ = some (.int .i64 o.kind) ∧ w.cell? ⟨B, k * 4 + 1, none⟩ = some (.int .i64 o.reg) ∧ w.cell? ⟨B, k * 4 + 2, none⟩ = some (.int .i64 o.sym) ∧ w.cell? ⟨B, k * 4 + 3, none⟩ = some (.int .i64 o.n) := by
  match k, hk with
  | 0, _ => exact ⟨⟨0, 0, 0, 0⟩, by simp [World.cell?, h]⟩
  | 1, _ => exact ⟨⟨1, 3, 0, 0⟩, by simp [World.cell?, h]⟩
  | 2, _ => exact ⟨⟨2, 0, 0, -5⟩, by simp [World.cell?, h]⟩
  | 3, _ => exact ⟨⟨3, 0, 1, 2⟩, by simp [World.cell?, h]⟩
  | 4, _ => exact ⟨⟨4, 2, 1, 0⟩, by simp [World.cell?, h]⟩

set_option maxRecDepth 1000000 in
set_option maxHeartbeats 4000000 in
theorem walk (w : World) (g : Good w) (op : Int) (hop : I64 op) (a : Int) (ha : I64 a) (b : Int) (hb : I64 b) (cond : Int) (hc : I64 cond) (lock : Bool) :
    Calls Tryd.prog 5 #[.int .i64 op, .int .i64 a, .int .i64 b, .int .i64 cond, .bool lock] w fun e w' => e = .returned (.bool true) ∧ Later w w' := by
  have cP := fun w' => pick_any op 16 hop (by omega) w'
  have cA := fun w' => pick_any a 5 ha (by omega) w'
  have cB := fun w' => pick_any b 5 hb (by omega) w'
  have cC := fun w' => pick_any cond 10 hc (by omega) w'
  obtain ⟨ka, hka, la⟩ := pick_nat a 5 (by omega)
  obtain ⟨kb, hkb, lb⟩ := pick_nat b 5 (by omega)
  obtain ⟨kc, hkc, lc⟩ := pick_nat cond 10 (by omega)
  rw [show ((5 : Nat) : Int) = 5 from rfl] at hka hkb
  rw [show ((10 : Nat) : Int) = 10 from rfl] at hkc
  simp only [hka] at cA
  simp only [hkb] at cB
  simp only [hkc] at cC
  clear hka hkb hkc hop ha hb hc
  generalize pick op 16 = o at *
  have cl := fun w' h => insAlive_any w' h
  have LL := Later.alloc (Later.refl w) (.cells #[.int .i64 0, .int .i64 0, .int .i64 0, .int .i64 0, .int .i64 1, .int .i64 3, .int .i64 0, .int .i64 0, .int .i64 2, .int .i64 0, .int .i64 0, .int .i64 (-5), .int .i64 3, .int .i64 0, .int .i64 1, .int .i64 2, .int .i64 4, .int .i64 2, .int .i64 1, .int .i64 0] 23)
  have HB := at_new w (.cells #[.int .i64 0, .int .i64 0, .int .i64 0, .int .i64 0, .int .i64 1, .int .i64 3, .int .i64 0, .int .i64 0, .int .i64 2, .int .i64 0, .int .i64 0, .int .i64 (-5), .int .i64 3, .int .i64 0, .int .i64 1, .int .i64 2, .int .i64 4, .int .i64 2, .int .i64 1, .int .i64 0] 23)
  go_enter Tryd.func5, Tryd.ntmps5
  go_upto_region 2 with (fail)
  generalize w.alloc (.cells #[.int .i64 0, .int .i64 0, .int .i64 0, .int .i64 0, .int .i64 1, .int .i64 3, .int .i64 0, .int .i64 0, .int .i64 2, .int .i64 0, .int .i64 0, .int .i64 (-5), .int .i64 3, .int .i64 0, .int .i64 1, .int .i64 2, .int .i64 4, .int .i64 2, .int .i64 1, .int .i64 0] 23) = W at *
  generalize hBe : w.heap.size = B at *
  obtain ⟨⟨ak, ar, ay, an⟩, p0, p1, p2, p3⟩ := row_opd HB ka la
  obtain ⟨⟨bk, br, bs, bn⟩, q0, q1, q2, q3⟩ := row_opd HB kb lb
  dsimp only at p0 p1 p2 p3 q0 q1 q2 q3
  have la0 : (0 : Int) ≤ ka := by omega
  have la1 : (ka : Int) < 5 := by omega
  have lb0 : (0 : Int) ≤ kb := by omega
  have lb1 : (kb : Int) < 5 := by omega
  first
  | go_region_held3 (fun w' => w'.cell? ⟨B, ka * 4, none⟩ = some (.int .i64 ak) ∧ w'.cell? ⟨B, ka * 4 + 1, none⟩ = some (.int .i64 ar) ∧ w'.cell? ⟨B, ka * 4 + 2, none⟩ = some (.int .i64 ay) ∧ w'.cell? ⟨B, ka * 4 + 3, none⟩ = some (.int .i64 an) ∧ w'.cell? ⟨B, kb * 4, none⟩ = some (.int .i64 bk) ∧ w'.cell? ⟨B, kb * 4 + 1, none⟩ = some (.int .i64 br) ∧ w'.cell? ⟨B, kb * 4 + 2, none⟩ = some (.int .i64 bs) ∧ w'.cell? ⟨B, kb * 4 + 3, none⟩ = some (.int .i64 bn))
    ((first | exact ⟨p0, p1, p2, p3, q0, q1, q2, q3⟩ | go_keep))
    (first
      | (go_at_call 13; apply Calls.mono; (focus (with_reducible (exact cP _))); rintro e w1 ⟨rfl, h1⟩; obtain rfl := h1.symm)
      | (go_at_call 13; apply Calls.mono; (focus (with_reducible (exact cA _))); rintro e w1 ⟨rfl, h1⟩; obtain rfl := h1.symm)
      | (go_at_call 13; apply Calls.mono; (focus (with_reducible (exact cB _))); rintro e w1 ⟨rfl, h1⟩; obtain rfl := h1.symm))
  | fail "held3"
  all_goals
    have HI := heap_later (Later.drew (Later.refl _)) (at_new W (.cells #[.int .i64 o, .bool lock, .int .i64 0, .int .i64 ak, .int .i64 ar, .int .i64 ay, .int .i64 an, .int .i64 bk, .int .i64 br, .int .i64 bs, .int .i64 bn, .string ⟨#[]⟩, .slice none 0 0] 26))
    have L2 := Later.drew (Later.alloc LL (.cells #[.int .i64 o, .bool lock, .int .i64 0, .int .i64 ak, .int .i64 ar, .int .i64 ay, .int .i64 an, .int .i64 bk, .int .i64 br, .int .i64 bs, .int .i64 bn, .string ⟨#[]⟩, .slice none 0 0] 26))
    have hC : w.heap.size ≤ W.heap.size := LL.size
    generalize (W.alloc (.cells #[.int .i64 o, .bool lock, .int .i64 0, .int .i64 ak, .int .i64 ar, .int .i64 ay, .int .i64 an, .int .i64 bk, .int .i64 br, .int .i64 bs, .int .i64 bn, .string ⟨#[]⟩, .slice none 0 0] 26)).drew = W2 at *
    generalize W.heap.size = C at *
    clear LL HB p0 p1 p2 p3 q0 q1 q2 q3 la0 la1 lb0 lb1 la lb cP cA cB
    rcases Decidable.em (o = 10) with rfl | h10
    · as_aux_lemma =>
      obtain ⟨i0, i1, i2, i3, i4, i5, i6, i7, i8, i9, i10, i11, i12⟩ := box13_facts HI
      obtain ⟨f0, f1, f2, f3, f4, f5, f6, f7, f8, f9, f10, f11, f12⟩ := box13_free HI
      go_upto_region 5 with (fail)
      replace HI := set13_11 HI (.string ⟨#[116, 111, 112]⟩)
      replace L2 := Later.set L2 hC 11 (.string ⟨#[116, 111, 112]⟩)
      generalize W2.setCell ⟨C, 11, none⟩ (.string ⟨#[116, 111, 112]⟩) = W3 at *
      obtain ⟨i0, i1, i2, i3, i4, i5, i6, i7, i8, i9, i10, i11, i12⟩ := box13_facts HI
      go_wp2_with (first | (go_at_call 10; apply Calls.mono; (focus (with_reducible (exact tells_cells (by decide) _ (NamesGood.later g L2)))); rintro e wn ⟨rfl, hl⟩; replace L2 := L2.trans hl) | (go_at_call 9; apply Calls.mono; (focus (with_reducible (exact cl _ (NamesGood.later g L2)))); rintro e wn ⟨rfl, hl⟩; replace L2 := L2.trans hl))
      go_ret
      exact ⟨rfl, L2⟩
    · rcases Decidable.em (o = 11) with rfl | h11
      · as_aux_lemma =>
        obtain ⟨i0, i1, i2, i3, i4, i5, i6, i7, i8, i9, i10, i11, i12⟩ := box13_facts HI
        obtain ⟨f0, f1, f2, f3, f4, f5, f6, f7, f8, f9, f10, f11, f12⟩ := box13_free HI
        go_upto_region 5 with (fail)
        replace HI := set13_11 HI (.string ⟨#[116, 111, 112]⟩)
        replace L2 := Later.set L2 hC 11 (.string ⟨#[116, 111, 112]⟩)
        generalize W2.setCell ⟨C, 11, none⟩ (.string ⟨#[116, 111, 112]⟩) = W3 at *
        obtain ⟨i0, i1, i2, i3, i4, i5, i6, i7, i8, i9, i10, i11, i12⟩ := box13_facts HI
        obtain ⟨f0, f1, f2, f3, f4, f5, f6, f7, f8, f9, f10, f11, f12⟩ := box13_free HI
        go_upto_region 7 with (go_at_call 13; apply Calls.mono; (focus (with_reducible (exact cC _))); rintro e w1 ⟨rfl, h1⟩; obtain rfl := h1.symm)
        replace HI := set13_2 HI (.int .i64 (1 + ↑kc))
        replace L2 := Later.set L2 hC 2 (.int .i64 (1 + ↑kc))
        generalize W3.setCell ⟨C, 2, none⟩ (.int .i64 (1 + ↑kc)) = W4 at *
        obtain ⟨i0, i1, i2, i3, i4, i5, i6, i7, i8, i9, i10, i11, i12⟩ := box13_facts HI
        go_wp2_with (first | (go_at_call 10; apply Calls.mono; (focus (with_reducible (exact tells_cells (by decide) _ (NamesGood.later g L2)))); rintro e wn ⟨rfl, hl⟩; replace L2 := L2.trans hl) | (go_at_call 9; apply Calls.mono; (focus (with_reducible (exact cl _ (NamesGood.later g L2)))); rintro e wn ⟨rfl, hl⟩; replace L2 := L2.trans hl))
        go_ret
        exact ⟨rfl, L2⟩
      · as_aux_lemma =>
        have n10 : (o == 10) = false := by simp; exact h10
        have n11 : (o == 11) = false := by simp; exact h11
        obtain ⟨i0, i1, i2, i3, i4, i5, i6, i7, i8, i9, i10, i11, i12⟩ := box13_facts HI
        go_wp2_with (first | (go_at_call 10; apply Calls.mono; (focus (with_reducible (exact tells_cells (by decide) _ (NamesGood.later g L2)))); rintro e wn ⟨rfl, hl⟩; replace L2 := L2.trans hl) | (go_at_call 9; apply Calls.mono; (focus (with_reducible (exact cl _ (NamesGood.later g L2)))); rintro e wn ⟨rfl, hl⟩; replace L2 := L2.trans hl))
        go_ret
        exact ⟨rfl, L2⟩

set_option maxRecDepth 100000 in
theorem lifted (os : Os) (started : os.Started) (H : Type) (enc : TypeId × Value → H) :
    ReturnsInHanded {} Tryd.checked os 5 .any (fun w args => (Rows.insFormsSpec.pre enc Tryd.prog Tryd.f5 [] false w args ∧ laidMetH Tryd.prog theList w) ∧ sizedMet enc Tryd.prog Tryd.f5 (OpenSpec.ofChange Rows.insFormsSpec) false w args)
      (Rows.insFormsSpec.post enc Tryd.prog Tryd.f5 false true false false) := by
  refine returnsInHanded_of_change_and (C := Tryd.checked) (X := fun w _ => laidMetH Tryd.prog theList w) (fun _ _ _ hh h => h.of_heap hh) own started (by kernel_rfl) Tryd.func5
    (ChangeSpec.witness_shaped (enc := enc) (C := Tryd.checked) (os := os) (X := fun w _ => laidMetH Tryd.prog theList w) false (World.laidAll Tryd.prog os theList) #[.int .i64 0, .int .i64 0, .int .i64 0, .int .i64 0, .bool false] 8 (World.laidAll_os _ _ _) (World.shaped_of_ZipB (by kernel_rfl) (by kernel_rfl)) (by kernel_rfl) (by kernel_rfl) (by kernel_rfl) (door_met os _)) ?_
  intro W base args ds gs before hval0 hW _ hsz0 hL _
  have hsz : (DataW.weightsEach Tryd.prog (Tryd.f5.params.toList ++ Rows.insFormsSpec.plain.varTypes Tryd.prog) (ds ++ gs)).all (· ≤ reachBytes) = true := hsz0
  clear hsz0
  have hval : ∀ (j : Nat) t v, Tryd.f5.params[j]? = some t → args[j]? = some v → Value.okWide Tryd.prog W .any base t v := hval0
  have hW' := hW
  obtain ⟨p, q, hA0, hV, rfl, hfz, hnd⟩ := hW
  have hA : DataW.TrodAll enc Tryd.prog W 0 (fun _ => true) true Tryd.f5.params.toList args.toList ds p := hA0
  rw [Tryd.params5] at hA hval hsz
  obtain ⟨v0, vs0, d0, ds0, p0, q0, hargs, rfl, rfl, h0, r0⟩ := trodAll_cons hA
  obtain ⟨v1, vs1, d1, ds1, p1, q1, rfl, rfl, rfl, h1, r1⟩ := trodAll_cons r0
  obtain ⟨v2, vs2, d2, ds2, p2, q2, rfl, rfl, rfl, h2, r2⟩ := trodAll_cons r1
  obtain ⟨v3, vs3, d3, ds3, p3, q3, rfl, rfl, rfl, h3, r3⟩ := trodAll_cons r2
  obtain ⟨v4, vs4, d4, ds4, p4, q4, rfl, rfl, rfl, h4, r4⟩ := trodAll_cons r3
  obtain ⟨rfl, rfl, rfl⟩ := trodAll_nil r4
  obtain rfl : args = #[v0, v1, v2, v3, v4] := by cases args; simp_all
  obtain ⟨rfl, rfl⟩ := trodVars_none hV
  simp only [List.append_nil] at hW'
  obtain ⟨a0, rfl, rfl, rfl, w0⟩ := open_int Tryd.underlying3 (hval 0 3 v0 rfl rfl) h0
  obtain ⟨a1, rfl, rfl, rfl, w1⟩ := open_int Tryd.underlying3 (hval 1 3 v1 rfl rfl) h1
  obtain ⟨a2, rfl, rfl, rfl, w2⟩ := open_int Tryd.underlying3 (hval 2 3 v2 rfl rfl) h2
  obtain ⟨a3, rfl, rfl, rfl, w3⟩ := open_int Tryd.underlying3 (hval 3 3 v3 rfl rfl) h3
  obtain ⟨a4, rfl, rfl, rfl⟩ := open_bool Tryd.underlying4 (hval 4 4 v4 rfl rfl) h4
  clear hA0 hval0
  refine (walk W (Good.of_laid hL) a0 (int64_of_wf w0) a1 (int64_of_wf w1) a2 (int64_of_wf w2) a3 (int64_of_wf w3) a4).mono fun e W' ⟨he, hnx⟩ => ?_
  subst he
  refine ⟨_, rfl, _, _, _, [], ([] ++ ([] ++ ([] ++ ([] ++ ([] ++ []))))), [], hW', ?_, ?_, rfl, Below.frame hnx _, fun h => by cases h⟩
  · exact (trodAll_cons_mk (shut_bool Tryd.underlying4 _) trodAll_mk0)
  · exact (trodAll_cons_mk (shut_int Tryd.underlying3 w0) (trodAll_cons_mk (shut_int Tryd.underlying3 w1) (trodAll_cons_mk (shut_int Tryd.underlying3 w2) (trodAll_cons_mk (shut_int Tryd.underlying3 w3) (trodAll_cons_mk (shut_bool Tryd.underlying4 a4) trodAll_mk0)))))

theorem over : Rows.insFormsRow.holds Tryd.pinned (OpenSpec.ofChange Rows.insFormsSpec) :=
  OpenClaim.holds_of_wide 5 Tryd.f5 rfl rfl rfl rfl rfl rfl rfl ⟨rfl, rfl, rfl, rfl, rfl⟩ rfl rfl rfl rfl rfl (by kernel_rfl) Tryd.func5 (by kernel_rfl)
    (of_decide_eq_true (by kernel_rfl)) (by unfold Func.isWrapper; first | (rw [if_pos (by decide +kernel)]; kernel_rfl) | (rw [if_neg (by decide +kernel)]; exact ⟨rfl, rfl⟩))
    (fun os started H enc _ => lifted os started H enc)

end Go.Proofs.YtginggelbfbcfaaDoor.insForms

namespace Go.Proofs.YtginggelbfbcfaaDoor
open Go
/-- The statement: the row, with its listed variables tied to the program's text. -/
theorem insForms_holds : Rows.InsFormsCardSaid :=
  Claim7.holds_tied_plain_at .later [] [.data, .data, .data, .data, .pinned] true Rows.insFormsCard.stood.harness true
    insForms.over (fun _ h => by cases h) (by kernel_rfl) (fun _ h => by cases h) insForms_row_tie rfl ⟨rfl, rfl⟩ (by kernel_rfl) rfl
    (fun f fn hf hfn => by
      obtain rfl : f = 5 := Option.some.inj ((show Tryd.prog.funcNamed Rows.insFormsRow.func = some 5 by kernel_rfl).symm.trans hf) |>.symm
      obtain rfl : fn = Tryd.f5 := (Option.some.inj (Tryd.func5.symm.trans hfn)).symm
      exact ⟨by kernel_rfl, fun j t ht => by
        rw [Tryd.params5] at ht
        have hm : t ∈ [3, 3, 3, 3, 4] := by simpa using Array.mem_of_getElem? ht
        have hall : ([3, 3, 3, 3, 4].all fun u => !Tryd.prog.wantsStandIn u) = true := by kernel_rfl
        exact (show Tryd.prog.wantsStandIn t = false by simpa using List.all_eq_true.1 hall t hm)⟩)
    (by kernel_rfl)
#print axioms insForms_holds
end Go.Proofs.YtginggelbfbcfaaDoor
