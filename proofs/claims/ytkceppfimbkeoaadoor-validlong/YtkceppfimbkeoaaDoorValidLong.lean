/-
  ValidLong: a thread may have so many instructions, mfences not counted, and not one more; conditions: none beside the listed variables, which are tied to the text.
-/
import Derived.Test.YtkceppfimbkeoaaDoorRows
import Derived.Test.YtkceppfimbkeoaaDoorCards
import Derived.Test.YtkceppfimbkeoaaDoorTie
import Derived.Test.YtkceppfimbkeoaaDoorJc
import Derived.Test.YtkceppfimbkeoaaDoorJh
import Derived.Test.YtkceppfimbkeoaaDoorJi
import Derived.Test.YtkceppfimbkeoaaDoorJl
import Derived.WalkKit
import Derived.ProofKit
import Derived.OpenShut
import Derived.SizedLaws
import Derived.ShutString
import Derived.Carry
import Derived.Stop.Joined
import Derived.SevenTiedAt
namespace Go.Proofs.YtkceppfimbkeoaaDoor.validLong
open Go.ChangeShapes Go.WideShapes Go.ChangeAt Go.RowKit
open Go.ChangeMaps (open_string shut_string)
set_option linter.unusedVariables false
set_option linter.unusedSimpArgs false

theorem own : ownKnob Tryd.prog.godebug = none := by kernel_rfl
theorem laidOut : laidOutB Tryd.prog = true := by kernel_rfl

set_option maxRecDepth 1000000 in
set_option maxHeartbeats 8000000 in
theorem walk (w : World) (g : Good w) (n : Int) (hn : I64 n) (f : Int) (hf : I64 f) :
    Calls Tryd.prog 6 #[.int .i64 n, .int .i64 f] w fun e w' => e = .returned (.bool true) ∧ Later w w' := by
  have cP := fun w' => pick_any n 3 hn (by omega) w'
  have cQ := fun w' => pick_any f 4 hf (by omega) w'
  obtain ⟨a, ha, ha2⟩ : ∃ a : Nat, pick n 3 = a ∧ a ≤ 2 := ⟨(pick n 3).toNat, by unfold pick; omega, by unfold pick; omega⟩
  obtain ⟨b, hb, hb3⟩ : ∃ b : Nat, pick f 4 = b ∧ b ≤ 3 := ⟨(pick f 4).toNat, by unfold pick; omega, by unfold pick; omega⟩
  rw [ha] at cP
  rw [hb] at cQ
  clear ha hb hn hf
  obtain ⟨i0, hi0, hz0, hz1, hz2⟩ := info_parts infoIns
  have cA := fun w' h => alive_any w' h
  have cN := fun u w' h => count_any u (long (4094 + a) b) w' h
  have cC := fun v w' h h' => check_any (.slice none 0 0) v [] [long (4094 + a) b] w' h (RowIn.nil _ _ _) h' (fine_long _ _)
  rw [check_long] at cC
  rw [count_long] at cN
  have HG : Hid (Good w) := g
  have LL := Later.alloc (Later.refl w) (.cells #[.slice none 0 0] 47)
  have HB : Hid ((w.alloc (.cells #[.slice none 0 0] 47)).heap[w.heap.size]? = some (.cells #[.slice none 0 0] 47)) := at_new _ _
  have HO : Hid ((w.alloc (.cells #[.slice none 0 0] 47)).ownsRow (w.heap.size + 1) 44 13 (.slice none 0 0) 0 (flatC insC (nops 0 0))) := World.ownsRow_nil _ _ _ _
  clear g
  go_enter Tryd.func6, Tryd.ntmps6
  go_upto_region 3 with (first | (go_at_call 16; apply Calls.mono; (focus (with_reducible (exact cP _))); rintro e w' ⟨rfl, hw1⟩; have hw2 := hw1.symm; subst hw2) | (go_at_call 16; apply Calls.mono; (focus (with_reducible (exact cQ _))); rintro e w' ⟨rfl, hw1⟩; have hw2 := hw1.symm; subst hw2))
  generalize w.alloc (.cells #[.slice none 0 0] 47) = W at *
  clear cP cQ
  go_wp2
  go_loopw [6] (fun vi wr => ∃ (i : Nat) (v : Value), vi = .int .i64 (i : Nat) ∧ i ≤ 4094 + a ∧ Later w wr ∧ Hid (wr.heap[w.heap.size]? = some (.cells #[v] 47)) ∧ Hid (wr.ownsRow (w.heap.size + 1) 44 13 v i (flatC insC (nops i 0)))) (fun vi _ => 4094 + a - (intOf vi).toNat)
  case atStart => exact ⟨0, _, rfl, by omega, LL, HB, HO⟩
  case round =>
    clear HB HO
    obtain ⟨i, v, rfl, hi, hlw, hBk, hOw⟩ := hrel
    obtain ⟨c0, -⟩ := box1_facts hBk.out
    by_cases h8 : i < 4094 + a
    · go_wp2_with (at_builtin; refine wpList_append_own _ rfl _ _ 45 rfl (w.heap.size + 1) 44 i0 (.agg #[.int .i64 0, .bool false, .int .i64 0, .int .i64 0, .int .i64 0, .int .i64 0, .int .i64 0, .int .i64 0, .int .i64 0, .int .i64 0, .int .i64 0, .string ⟨#[]⟩, .slice none 0 0]) 13 128 Tryd.underlying45 hi0 hz0 hz1 hz2 rfl (by decide) _ _ _ rfl (hOw.out.alloc _) ⟨wr.heap.size, 0, none⟩ 1 1 [.int .i64 13, .bool false, .int .i64 0, .int .i64 0, .int .i64 0, .int .i64 0, .int .i64 0, .int .i64 0, .int .i64 0, .int .i64 0, .int .i64 0, .string ⟨#[]⟩, .slice none 0 0] rfl rfl (news_at _ _ _) (bare_one 13) (by unfold maxLen; omega) (by omega) (by have := lt_block hBk.out; simp; omega) ?_; intro v3 w3 hown3 hgrow3 hnil3; obtain ⟨p3, q3, rfl⟩ := owns_slice hown3; have X3 := after_more hlw (Nat.le_succ _) (Nat.lt_succ_self _) hOw.out hBk.out hgrow3 hown3; clear hown3 hgrow3 hnil3; obtain ⟨c3, f3⟩ := box1_facts X3.out.2.2)
      go_roundw
      case rel => exact ⟨i + 1, _, by go_num, by omega, Later.setCell X3.out.2.1 (Nat.le_refl _) 0 _, setCell_block X3.out.2.2 0 _, (by show World.ownsRow _ _ _ _ _ _ _; rw [nops_next, flat_next]; exact ownsRow_setCell_below X3.out.1 (Nat.lt_succ_self _) _)⟩
      case measure => simp [intOf]; omega
    · have HI : Hid (i = 4094 + a) := by show _ = _; omega
      have hib : i ≤ 4096 := by omega
      clear c0
      go_wp2
      obtain ⟨w6, rfl⟩ : ∃ w6, w6 = wr := ⟨_, rfl⟩
      go_loopw [7] (fun vk wr => ∃ (k : Nat) (v : Value), vk = .int .i64 (k : Nat) ∧ k ≤ b ∧ Later w wr ∧ Hid (wr.heap[w.heap.size]? = some (.cells #[v] 47)) ∧ Hid (wr.ownsRow (w.heap.size + 1) 44 13 v (i + k) (flatC insC (nops i k)))) (fun vk _ => b - (intOf vk).toNat)
      case atStart => exact ⟨0, v, rfl, by omega, hlw, hBk, hOw⟩
      case round =>
        clear hBk hOw hlw v
        obtain ⟨k, v, rfl, hk, hlw, hBk, hOw⟩ := hrel
        obtain ⟨c0, -⟩ := box1_facts hBk.out
        by_cases h9 : k < b
        · go_wp2_with (at_builtin; refine wpList_append_own _ rfl _ _ 45 rfl (w.heap.size + 1) 44 i0 (.agg #[.int .i64 0, .bool false, .int .i64 0, .int .i64 0, .int .i64 0, .int .i64 0, .int .i64 0, .int .i64 0, .int .i64 0, .int .i64 0, .int .i64 0, .string ⟨#[]⟩, .slice none 0 0]) 13 128 Tryd.underlying45 hi0 hz0 hz1 hz2 rfl (by decide) _ _ _ rfl (hOw.out.alloc _) ⟨wr.heap.size, 0, none⟩ 1 1 [.int .i64 12, .bool false, .int .i64 0, .int .i64 0, .int .i64 0, .int .i64 0, .int .i64 0, .int .i64 0, .int .i64 0, .int .i64 0, .int .i64 0, .string ⟨#[]⟩, .slice none 0 0] rfl rfl (news_at _ _ _) (bare_one 12) (by unfold maxLen; omega) (by omega) (by have := lt_block hBk.out; simp; omega) ?_; intro v3 w3 hown3 hgrow3 hnil3; obtain ⟨p3, q3, rfl⟩ := owns_slice hown3; have X3 := after_more hlw (Nat.le_succ _) (Nat.lt_succ_self _) hOw.out hBk.out hgrow3 hown3; clear hown3 hgrow3 hnil3; obtain ⟨c3, f3⟩ := box1_facts X3.out.2.2)
          go_roundw
          case rel => exact ⟨k + 1, _, by go_num, by omega, Later.setCell X3.out.2.1 (Nat.le_refl _) 0 _, setCell_block X3.out.2.2 0 _, (by show World.ownsRow _ _ _ _ _ _ _; rw [nops_fence, flat_next]; exact ownsRow_setCell_below X3.out.1 (Nat.lt_succ_self _) _)⟩
          case measure => simp [intOf]; omega
        · have HK : Hid (k = b) := by show _ = _; omega
          go_upto_region 12 with (at_builtin; refine wpList_append_own _ rfl _ _ 45 rfl (w.heap.size + 1) 44 i0 (.agg #[.int .i64 0, .bool false, .int .i64 0, .int .i64 0, .int .i64 0, .int .i64 0, .int .i64 0, .int .i64 0, .int .i64 0, .int .i64 0, .int .i64 0, .string ⟨#[]⟩, .slice none 0 0]) 13 128 Tryd.underlying45 hi0 hz0 hz1 hz2 rfl (by decide) _ _ _ rfl (hOw.out.alloc _) ⟨wr.heap.size, 0, none⟩ 1 1 [.int .i64 14, .bool false, .int .i64 0, .int .i64 0, .int .i64 0, .int .i64 0, .int .i64 0, .int .i64 0, .int .i64 0, .int .i64 0, .int .i64 0, .string ⟨#[]⟩, .slice none 0 0] rfl rfl (news_at _ _ _) (bare_one 14) (by unfold maxLen; omega) (by omega) (by have := lt_block hBk.out; simp; omega) ?_; intro v3 w3 hown3 hgrow3 hnil3; obtain ⟨p3, q3, rfl⟩ := owns_slice hown3; have X3 := after_more hlw (Nat.le_succ _) (Nat.lt_succ_self _) hOw.out hBk.out hgrow3 hown3; clear hown3 hgrow3 hnil3; obtain ⟨c3, f3⟩ := box1_facts X3.out.2.2)
          have hL4 := Later.setCell X3.out.2.1 (Nat.le_refl _) 0 (.slice p3 (i + k + 1) q3)
          have hB4 := setCell_block X3.out.2.2 0 (.slice p3 (i + k + 1) q3)
          have hO4 := ownsRow_setCell_below X3.out.1 (Nat.lt_succ_self w.heap.size) (a := ⟨w.heap.size, 0, none⟩) (.slice p3 (i + k + 1) q3)
          have hR4 := long_row (n := i) (f := k) rfl (by unfold long; rw [flat_next]; exact hO4)
          rw [show long i k = long (4094 + a) b by rw [HI.out, HK.out]] at hR4
          generalize w3.setCell ⟨w.heap.size, 0, none⟩ (.slice p3 (i + k + 1) q3) = W4 at *
          clear X3 hO4 c3 f3 hBk hOw hlw c0
          obtain ⟨c4, -⟩ := box1_facts hB4
          have HR4 : Hid (InsRow W4 (.slice p3 (i + k + 1) q3) (long (4094 + a) b)) := hR4
          have LT := Later.alloc (Later.refl W4) (.cells #[.slice p3 (i + k + 1) q3] 47)
          have HRT : Hid (ThrRow (W4.alloc (.cells #[.slice p3 (i + k + 1) q3] 47)) (.slice (some ⟨W4.heap.size, 0, none⟩) 1 1) [long (4094 + a) b]) := RowIn.one (at_new W4 _) ⟨_, rfl, hR4.kept LT.kept⟩
          have c5 := cell_later c4 LT
          clear hR4 hB4
          by_cases h96 : 4096 ≤ 4094 + a
          · rw [if_pos h96] at cC
            have ha' : a = 2 := by omega
            subst ha'
            go_wp2_with (first
              | (go_at_call 11; refine (cC _ _ (NamesGood.later HG.out (hL4.trans LT)) HRT.out).mono ?_; rintro e w5 ⟨rfl, hl5⟩; have c6 := cell_later c5 hl5)
              | (go_at_call 18; refine (cN _ _ (InsRow.kept HR4.out (LT.trans hl5).kept)).mono ?_; rintro e w6 ⟨rfl, hl6⟩)
              | (go_at_call 10; refine (cA _ (NamesGood.later HG.out (hL4.trans (LT.trans (hl5.trans hl6))))).mono ?_; rintro e w7 ⟨rfl, hl7⟩))
            go_ret
            exact ⟨rfl, hL4.trans (LT.trans (hl5.trans (hl6.trans hl7)))⟩
          · rw [if_neg h96] at cC
            have hlt : (4094 : Int) + a < 4096 := by omega
            have he1 : (((4094 + a + 1 : Nat) : Int) == 4094 + a + 1) = true := by simp
            go_wp2_with (first
              | (go_at_call 11; refine (cC _ _ (NamesGood.later HG.out (hL4.trans LT)) HRT.out).mono ?_; rintro e w5 ⟨rfl, hl5⟩; have c6 := cell_later c5 hl5)
              | (go_at_call 18; refine (cN _ _ (InsRow.kept HR4.out (LT.trans hl5).kept)).mono ?_; rintro e w6 ⟨rfl, hl6⟩)
              | (go_at_call 10; refine (cA _ (NamesGood.later HG.out (hL4.trans (LT.trans (hl5.trans hl6))))).mono ?_; rintro e w7 ⟨rfl, hl7⟩))
            go_ret
            exact ⟨rfl, hL4.trans (LT.trans (hl5.trans (hl6.trans hl7)))⟩

set_option maxRecDepth 100000 in
theorem lifted (os : Os) (started : os.Started) (H : Type) (enc : TypeId × Value → H) :
    ReturnsInHanded {} Tryd.checked os 6 .any (fun w args => (Rows.validLongSpec.pre enc Tryd.prog Tryd.f6 [] false w args ∧ laidMetH Tryd.prog theList w) ∧ sizedMet enc Tryd.prog Tryd.f6 (OpenSpec.ofChange Rows.validLongSpec) false w args)
      (Rows.validLongSpec.post enc Tryd.prog Tryd.f6 false true false false) := by
  refine returnsInHanded_of_change_and (C := Tryd.checked) (X := fun w _ => laidMetH Tryd.prog theList w) (fun _ _ _ hh h => h.of_heap hh) own started (by kernel_rfl) Tryd.func6
    (ChangeSpec.witness_shaped (enc := enc) (C := Tryd.checked) (os := os) (X := fun w _ => laidMetH Tryd.prog theList w) false (World.laidAll Tryd.prog os theList) #[.int .i64 0, .int .i64 0] 8 (World.laidAll_os _ _ _) (World.shaped_of_ZipB (by kernel_rfl) (by kernel_rfl)) (by kernel_rfl) (by kernel_rfl) (by kernel_rfl) (door_met os _)) ?_
  intro W base args ds gs before hval0 hW _ hsz0 hL _
  have hsz : (DataW.weightsEach Tryd.prog (Tryd.f6.params.toList ++ Rows.validLongSpec.plain.varTypes Tryd.prog) (ds ++ gs)).all (· ≤ reachBytes) = true := hsz0
  clear hsz0
  have hval : ∀ (j : Nat) t v, Tryd.f6.params[j]? = some t → args[j]? = some v → Value.okWide Tryd.prog W .any base t v := hval0
  have hW' := hW
  obtain ⟨p, q, hA0, hV, rfl, hfz, hnd⟩ := hW
  have hA : DataW.TrodAll enc Tryd.prog W 0 (fun _ => true) true Tryd.f6.params.toList args.toList ds p := hA0
  rw [Tryd.params6] at hA hval hsz
  obtain ⟨v0, vs0, d0, ds0, p0, q0, hargs, rfl, rfl, h0, r0⟩ := trodAll_cons hA
  obtain ⟨v1, vs1, d1, ds1, p1, q1, rfl, rfl, rfl, h1, r1⟩ := trodAll_cons r0
  obtain ⟨rfl, rfl, rfl⟩ := trodAll_nil r1
  obtain rfl : args = #[v0, v1] := by cases args; simp_all
  obtain ⟨rfl, rfl⟩ := trodVars_none hV
  simp only [List.append_nil] at hW'
  obtain ⟨a0, rfl, rfl, rfl, w0⟩ := open_int Tryd.underlying3 (hval 0 3 v0 rfl rfl) h0
  obtain ⟨a1, rfl, rfl, rfl, w1⟩ := open_int Tryd.underlying3 (hval 1 3 v1 rfl rfl) h1
  clear hA0 hval0
  refine (walk W (Good.of_laid hL) a0 (int64_of_wf w0) a1 (int64_of_wf w1)).mono fun e W' ⟨he, hnx⟩ => ?_
  subst he
  refine ⟨_, rfl, _, _, _, [], ([] ++ ([] ++ [])), [], hW', ?_, ?_, rfl, Below.frame hnx _, fun h => by cases h⟩
  · exact (trodAll_cons_mk (shut_bool Tryd.underlying4 _) trodAll_mk0)
  · exact (trodAll_cons_mk (shut_int Tryd.underlying3 w0) (trodAll_cons_mk (shut_int Tryd.underlying3 w1) trodAll_mk0))

theorem over : Rows.validLongRow.holds Tryd.pinned (OpenSpec.ofChange Rows.validLongSpec) :=
  OpenClaim.holds_of_wide 6 Tryd.f6 rfl rfl rfl rfl rfl rfl rfl ⟨rfl, rfl, rfl, rfl, rfl⟩ rfl rfl rfl rfl rfl (by kernel_rfl) Tryd.func6 (by kernel_rfl)
    (of_decide_eq_true (by kernel_rfl)) (by unfold Func.isWrapper; first | (rw [if_pos (by decide +kernel)]; kernel_rfl) | (rw [if_neg (by decide +kernel)]; exact ⟨rfl, rfl⟩))
    (fun os started H enc _ => lifted os started H enc)

end Go.Proofs.YtkceppfimbkeoaaDoor.validLong

namespace Go.Proofs.YtkceppfimbkeoaaDoor
open Go
/-- The statement: the row, with its listed variables tied to the program's text. -/
theorem validLong_holds : Rows.ValidLongCardSaid :=
  Claim7.holds_tied_plain_at .later [] [.data, .data, .data, .data, .pinned] true Rows.validLongCard.stood.harness true
    validLong.over (fun _ h => by cases h) (by kernel_rfl) (fun _ h => by cases h) validLong_row_tie rfl ⟨rfl, rfl⟩ (by kernel_rfl) rfl
    (fun f fn hf hfn => by
      obtain rfl : f = 6 := Option.some.inj ((show Tryd.prog.funcNamed Rows.validLongRow.func = some 6 by kernel_rfl).symm.trans hf) |>.symm
      obtain rfl : fn = Tryd.f6 := (Option.some.inj (Tryd.func6.symm.trans hfn)).symm
      exact ⟨by kernel_rfl, fun j t ht => by
        rw [Tryd.params6] at ht
        have hm : t ∈ [3, 3] := by simpa using Array.mem_of_getElem? ht
        have hall : ([3, 3].all fun u => !Tryd.prog.wantsStandIn u) = true := by kernel_rfl
        exact (show Tryd.prog.wantsStandIn t = false by simpa using List.all_eq_true.1 hall t hm)⟩)
    (by kernel_rfl)
#print axioms validLong_holds
end Go.Proofs.YtkceppfimbkeoaaDoor
