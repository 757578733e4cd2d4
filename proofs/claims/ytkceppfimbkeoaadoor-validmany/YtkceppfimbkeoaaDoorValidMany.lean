/-
  ValidMany: as many symbols, cells, threads as may be may be, and not one more; conditions: none beside the listed variables, which are tied to the text.
-/
import Derived.Test.YtkceppfimbkeoaaDoorRows
import Derived.Test.YtkceppfimbkeoaaDoorCards
import Derived.Test.YtkceppfimbkeoaaDoorTie
import Derived.Test.YtkceppfimbkeoaaDoorJc
import Derived.Test.YtkceppfimbkeoaaDoorJh
import Derived.Test.YtkceppfimbkeoaaDoorJi
import Derived.Test.YtkceppfimbkeoaaDoorJm
import Derived.Deep.RegionLaw
import Derived.WalkKit
import Derived.ProofKit
import Derived.OpenShut
import Derived.SizedLaws
import Derived.ShutString
import Derived.Carry
import Derived.Stop.Joined
import Derived.SevenTiedAt
namespace Go.Proofs.YtkceppfimbkeoaaDoor.validMany
open Go.ChangeShapes Go.WideShapes Go.ChangeAt Go.RowKit
open Go.ChangeMaps (open_string shut_string)
set_option linter.unusedVariables false
set_option linter.unusedSimpArgs false

theorem own : ownKnob Tryd.prog.godebug = none := by kernel_rfl
theorem laidOut : laidOutB Tryd.prog = true := by kernel_rfl

set_option maxRecDepth 1000000 in
set_option maxHeartbeats 16000000 in
theorem walk (w : World) (g : Good w) (x : Int) (hx : I64 x) (y : Int) (hy : I64 y) (z : Int) (hz : I64 z) :
    Calls Tryd.prog 5 #[.int .i64 x, .int .i64 y, .int .i64 z] w fun e w' => e = .returned (.bool true) ∧ Later w w' := by
  have cP := fun w' => pick_any x 3 hx (by omega) w'
  have cQ := fun w' => pick_any y 3 hy (by omega) w'
  have cR := fun w' => pick_any z 3 hz (by omega) w'
  obtain ⟨a, ha, ha2⟩ : ∃ a : Nat, pick x 3 = a ∧ a ≤ 2 := ⟨(pick x 3).toNat, by unfold pick; omega, by unfold pick; omega⟩
  obtain ⟨b, hb, hb2⟩ : ∃ b : Nat, pick y 3 = b ∧ b ≤ 2 := ⟨(pick y 3).toNat, by unfold pick; omega, by unfold pick; omega⟩
  obtain ⟨c, hc, hc2⟩ : ∃ c : Nat, pick z 3 = c ∧ c ≤ 2 := ⟨(pick z 3).toNat, by unfold pick; omega, by unfold pick; omega⟩
  rw [ha] at cP
  rw [hb] at cQ
  rw [hc] at cR
  clear ha hb hc hx hy hz
  obtain ⟨i0, hi0, hz0, hz1, hz2⟩ := info_parts infoSym
  obtain ⟨j0, hj0, hy0, hy1, hy2⟩ := info_parts infoThr
  have cA := fun w' h => alive_any w' h
  have cC := fun u v S P w' h h' h'' f => check_any u v S P w' h h' h'' f
  have HG : Hid (Good w) := g
  have LL := Later.alloc (Later.refl w) (.cells #[.slice none 0 0, .slice none 0 0] 25)
  have HB : Hid ((w.alloc (.cells #[.slice none 0 0, .slice none 0 0] 25)).heap[w.heap.size]? = some (.cells #[.slice none 0 0, .slice none 0 0] 25)) := at_new _ _
  have HO : Hid ((w.alloc (.cells #[.slice none 0 0, .slice none 0 0] 25)).ownsRow (w.heap.size + 1) 39 3 (.slice none 0 0) 0 (flatC symCells [])) := World.ownsRow_nil _ _ _ _
  clear g
  go_enter Tryd.func5, Tryd.ntmps5
  go_upto_region 3 with (first | (go_at_call 16; apply Calls.mono; (focus (with_reducible (exact cP _))); rintro e w' ⟨rfl, hw1⟩; have hw2 := hw1.symm; subst hw2) | (go_at_call 16; apply Calls.mono; (focus (with_reducible (exact cQ _))); rintro e w' ⟨rfl, hw1⟩; have hw2 := hw1.symm; subst hw2) | (go_at_call 16; apply Calls.mono; (focus (with_reducible (exact cR _))); rintro e w' ⟨rfl, hw1⟩; have hw2 := hw1.symm; subst hw2))
  generalize w.alloc (.cells #[.slice none 0 0, .slice none 0 0] 25) = W at *
  clear cP cQ cR
  obtain ⟨na, hna, hna1, hna2⟩ : ∃ na : Nat, (a : Int) + 64 - 1 = na ∧ 63 ≤ na ∧ na ≤ 65 := ⟨a + 63, by omega, by omega, by omega⟩
  obtain ⟨nb, hnb, hnb1, hnb2⟩ : ∃ nb : Nat, (b : Int) + 64 - 1 = nb ∧ 63 ≤ nb ∧ nb ≤ 65 := ⟨b + 63, by omega, by omega, by omega⟩
  obtain ⟨nc, hnc, hnc1, hnc2⟩ : ∃ nc : Nat, (c : Int) + 64 - 1 = nc ∧ 63 ≤ nc ∧ nc ≤ 65 := ⟨c + 63, by omega, by omega, by omega⟩
  rw [hna, hnb, hnc]
  clear hna hnb hnc
  go_wp2
  go_loopw [8] (fun vi wr => ∃ (i : Nat) (v : Value) (S : Syms), vi = .int .i64 (i : Nat) ∧ i ≤ na ∧ Later w wr ∧ Hid (wr.heap[w.heap.size]? = some (.cells #[v, .slice none 0 0] 25)) ∧ Hid (wr.ownsRow (w.heap.size + 1) 39 3 v i (flatC symCells S)) ∧ Hid (Ints1 wr w.heap.size S) ∧ Hid (Named (nb : Int) S ∧ S.length = i)) (fun vi _ => na - (intOf vi).toNat)
  case atStart => exact ⟨0, _, [], rfl, by omega, LL, HB, HO, (fun s hs => by simp at hs), ⟨Named.nil _, rfl⟩⟩
  case round =>
    clear HB HO LL
    obtain ⟨i, v, S, rfl, hi, hlw, hBk, hOw, hIn, hNm⟩ := hrel
    by_cases h8 : i < na
    · have cT := fun w' => refText_any (i : Int) (by omega) (by omega) w'
      have LD : Later w wr.drew := Later.drew hlw
      have HBD : Hid (wr.drew.heap[w.heap.size]? = some (.cells #[v, .slice none 0 0] 25)) := hBk
      have HOD : Hid (wr.drew.ownsRow (w.heap.size + 1) 39 3 v i (flatC symCells S)) := hOw
      have HID : Hid (Ints1 wr.drew w.heap.size S) := hIn
      obtain ⟨c0, -⟩ := box2_facts HBD.out
      have LI : Later wr ((wr.alloc (.cells #[.int .i64 1] 2)).drew) := Later.drew (Later.alloc (Later.refl wr) _)
      have HBW : Hid (wr.heap[w.heap.size]? = some (.cells #[v, .slice none 0 0] 25)) := hBk
      have HOW : Hid (wr.ownsRow (w.heap.size + 1) 39 3 v i (flatC symCells S)) := hOw
      have HIW : Hid (Ints1 wr w.heap.size S) := hIn
      have c1 : (wr.alloc (.cells #[.int .i64 1] 2)).cell? ⟨w.heap.size, 0, none⟩ = some v := cell_later (box2_facts hBk.out).1 (Later.alloc (Later.refl wr) _)
      have hts := txt_size (i : Int) (by omega) (by omega)
      have hcat : ¬ 9223372036854775807 < 1 + (txt (i : Int)).size := by omega
      clear hBk hOw hIn
      have c1d : Hid ((wr.alloc (.cells #[.int .i64 1] 2)).drew.cell? ⟨w.heap.size, 0, none⟩ = some v) := c1
      obtain ⟨vp, vcap, rfl⟩ := owns_slice HOD.out
      go_upto_region 6 with (fail)
      go_region_law (first | (refine step_append_own rfl (.tmp 29) (.tmp 36) 22 rfl (w.heap.size + 1) 39 i0 (.agg #[.string ⟨#[]⟩, .int .i64 0, .slice none 0 0]) 3 48 Tryd.underlying22 hi0 hz0 hz1 hz2 rfl (by decide) (.slice vp i vcap) i (flatC symCells S) (by simp [Act.eval, Act.put]) (((ownsC_later HOD.out hl1).alloc _).alloc _) ⟨w1.heap.size + 1, 0, none⟩ 1 1 [.string (⟨#[115]⟩ ++ txt (i : Int)), .int .i64 nb, .slice (some ⟨w1.heap.size, 0, none⟩) 1 1] (by simp [Act.eval, Act.put]) rfl (news_at2 _ _ _ (by simp)) (fun u hu => by simp at hu; rcases hu with rfl | rfl | rfl <;> rfl) (by unfold maxLen; omega) (by omega) (by have := hl1.size; have := lt_block HBD.out; simp at *; omega) ?_; intro v3 w3 hown3 hgrow3; obtain ⟨p3, q3, rfl⟩ := owns_slice hown3; have X3 := after_sym (Later.alloc (LD.trans hl1) (.cells #[.int .i64 1] 2)) rfl ((ownsC_later HOD.out hl1).alloc (.cells #[.int .i64 1] 2)) (heap_later (Later.alloc hl1 (.cells #[.int .i64 1] 2)) HBD.out) (HID.out.later (Later.alloc hl1 (.cells #[.int .i64 1] 2))) (at_new w1 (.cells #[.int .i64 1] 2)) (by have := hl1.size; have := lt_block HBD.out; simp at *; omega) hgrow3 hown3; clear hown3 hgrow3; obtain ⟨c3, c3b, f3, f3b⟩ := box2_facts X3.out.2.1) | (refine step_append_own rfl (.tmp 29) (.tmp 36) 22 rfl (w.heap.size + 1) 39 i0 (.agg #[.string ⟨#[]⟩, .int .i64 0, .slice none 0 0]) 3 48 Tryd.underlying22 hi0 hz0 hz1 hz2 rfl (by decide) (.slice vp i vcap) i (flatC symCells S) (by simp [Act.eval, Act.put]) ((ownsC_later HOW.out (Later.trans LI hl1)).alloc _) ⟨w1.heap.size, 0, none⟩ 1 1 [.string (⟨#[115]⟩ ++ txt (i : Int)), .int .i64 nb, .slice (some ⟨wr.heap.size, 0, none⟩) 1 1] (by simp [Act.eval, Act.put]) rfl (news_at2 _ _ _ (rfl)) (fun u hu => by simp at hu; rcases hu with rfl | rfl | rfl <;> rfl) (by unfold maxLen; omega) (by omega) (by have := (Later.trans LI hl1).size; have := lt_block HBD.out; simp at *; omega) ?_; intro v3 w3 hown3 hgrow3; obtain ⟨p3, q3, rfl⟩ := owns_slice hown3; have X3 := after_sym (Later.trans hlw (Later.trans LI hl1)) rfl (ownsC_later HOW.out (Later.trans LI hl1)) (heap_later (Later.trans LI hl1) HBW.out) (HIW.out.later (Later.trans LI hl1)) (heap_later hl1 (show ((wr.alloc (.cells #[.int .i64 1] 2)).drew).heap[wr.heap.size]? = some (.cells #[.int .i64 1] 2) from at_new wr (.cells #[.int .i64 1] 2))) (by have := lt_block HBD.out; simp at *; omega) hgrow3 hown3; clear hown3 hgrow3; obtain ⟨c3, c3b, f3, f3b⟩ := box2_facts X3.out.2.1) | (go_simp; go_at_call 17; first | (apply Calls.mono; (focus (with_reducible (exact cT wr.drew))); rintro e w1 ⟨rfl, hl1⟩; have e0 := cell_later c0 hl1; have e1 := cell_later e0 (Later.alloc (Later.refl w1) (.cells #[.int .i64 1] 2)); have e2 := cell_later e1 (Later.alloc (Later.refl (w1.alloc (.cells #[.int .i64 1] 2))) (.cells #[.string (⟨#[115]⟩ ++ txt (i : Int)), .int .i64 nb, .slice (some ⟨w1.heap.size, 0, none⟩) 1 1] 39)))| (apply Calls.mono; (focus (with_reducible (exact cT ((wr.alloc (.cells #[.int .i64 1] 2)).drew)))); rintro e w1 ⟨rfl, hl1⟩; have e0 := cell_later c1d.out hl1; have e1 := cell_later e0 (Later.alloc (Later.refl w1) (.cells #[.string (⟨#[115]⟩ ++ txt (i : Int)), .int .i64 nb, .slice (some ⟨wr.heap.size, 0, none⟩) 1 1] 39)))))
      all_goals
        go_wp2
        go_roundw
        case rel => exact ⟨i + 1, _, _, by go_num, by omega, Later.setCell X3.out.1 (Nat.le_refl _) 0 _, setCell_block X3.out.2.1 0 _, ownsRow_setCell_below X3.out.2.2.1 (Nat.lt_succ_self _) _, Ints1.set X3.out.2.2.2 0 _, ⟨hNm.out.1.snoc hNm.out.2 _, by rw [List.length_append, hNm.out.2]; rfl⟩⟩
        case measure => simp [intOf]; omega
    · have HI : Hid (i = na) := by show _ = _; omega
      have HOT0 : Hid (wr.ownsRow (w.heap.size + 1) 47 1 (.slice none 0 0) 0 (flatC oneV [])) := World.ownsRow_nil _ _ _ _
      obtain ⟨vp, vcap, rfl⟩ := owns_slice hOw.out
      go_wp2
      obtain ⟨w6, rfl⟩ : ∃ w6, w6 = wr := ⟨_, rfl⟩
      go_loopw [9] (fun vk wr => ∃ (k : Nat) (t : Value) (vs : List Value), vk = .int .i64 (k : Nat) ∧ k ≤ nc ∧ Later w wr ∧ Hid (wr.heap[w.heap.size]? = some (.cells #[.slice vp i vcap, t] 25)) ∧ Hid (wr.ownsRow (w.heap.size + 1) 47 1 t k (flatC oneV vs)) ∧ Hid (wr.ownsRow (w.heap.size + 1) 39 3 (.slice vp i vcap) i (flatC symCells S)) ∧ Hid (Ints1 wr w.heap.size S) ∧ Hid (Hlts wr w.heap.size vs) ∧ Hid (vs.length = k)) (fun vk _ => nc - (intOf vk).toNat)
      case atStart => exact ⟨0, _, [], rfl, by omega, hlw, hBk, HOT0, hOw, hIn, (fun s hs => by simp at hs), rfl⟩
      case round =>
        clear hBk hOw hIn HOT0 hlw
        obtain ⟨k, t, vs, rfl, hk, hlw, hBk, hOT, hOS, hIn, hHl, hVs⟩ := hrel
        obtain ⟨c0, c0b, -⟩ := box2_facts hBk.out
        obtain ⟨tp, tcap, rfl⟩ := owns_slice hOT.out
        by_cases h9 : k < nc
        · go_wp2_with (at_builtin; refine wpList_append_own _ rfl _ _ 23 rfl (w.heap.size + 1) 47 j0 (.agg #[.slice none 0 0]) 1 24 Tryd.underlying23 hj0 hy0 hy1 hy2 rfl (by decide) _ _ _ rfl ((hOT.out.alloc _).alloc _) ⟨wr.heap.size + 1, 0, none⟩ 1 1 [.slice (some ⟨wr.heap.size, 0, none⟩) 1 1] rfl rfl (news_at2 (wr.alloc (.cells #[.int .i64 14, .bool false, .int .i64 0, .int .i64 0, .int .i64 0, .int .i64 0, .int .i64 0, .int .i64 0, .int .i64 0, .int .i64 0, .int .i64 0, .string ⟨#[]⟩, .slice none 0 0] 44)) _ _ (by simp)) (fun u hu => by simp at hu; subst hu; rfl) (by unfold maxLen; omega) (by omega) (by have := lt_block hBk.out; simp; omega) ?_; intro v3 w3 hown3 hgrow3 hnil3; obtain ⟨p3, q3, rfl⟩ := owns_slice hown3; have X3 := after_thr (Later.alloc hlw (.cells #[.int .i64 14, .bool false, .int .i64 0, .int .i64 0, .int .i64 0, .int .i64 0, .int .i64 0, .int .i64 0, .int .i64 0, .int .i64 0, .int .i64 0, .string ⟨#[]⟩, .slice none 0 0] 44)) rfl (hOT.out.alloc _) (hOS.out.alloc _) (heap_later (Later.alloc (Later.refl wr) _) hBk.out) (hIn.out.later (Later.alloc (Later.refl wr) _)) (hHl.out.later (Later.alloc (Later.refl wr) _)) (at_new wr (.cells #[.int .i64 14, .bool false, .int .i64 0, .int .i64 0, .int .i64 0, .int .i64 0, .int .i64 0, .int .i64 0, .int .i64 0, .int .i64 0, .int .i64 0, .string ⟨#[]⟩, .slice none 0 0] 44)) (lt_block hBk.out) hgrow3 hown3; clear hown3 hgrow3 hnil3; obtain ⟨c3, c3b, f3, f3b⟩ := box2_facts X3.out.2.1)
          go_roundw
          case rel => exact ⟨k + 1, _, _, by go_num, by omega, Later.setCell X3.out.1 (Nat.le_refl _) 1 _, setCell_block X3.out.2.1 1 _, ownsRow_setCell_below X3.out.2.2.1 (Nat.lt_succ_self _) _, ownsRow_setCell_below X3.out.2.2.2.1 (Nat.lt_succ_self _) _, Ints1.set X3.out.2.2.2.2.1 1 _, Hlts.set X3.out.2.2.2.2.2 1 _, (by show _ = _; rw [List.length_append, hVs.out]; rfl)⟩
          case measure => simp [intOf]; omega
        · have hkc : k = nc := by omega
          have hil : i = na := HI.out
          have hS := syms_row hNm.out.1 (by unfold I64; omega) hNm.out.2 (by omega) hOS.out hIn.out
          have hT := thrs_row hVs.out hOT.out hHl.out
          have hcc := check_many hNm.out.1 (by have := hNm.out.2; omega) (by have := hNm.out.2; omega) k
          have cC1 := cC _ _ _ _ wr (NamesGood.later HG.out hlw) hS hT (fine_many hNm.out.1 (by have := hNm.out.2; omega) k)
          rw [hcc, hNm.out.2, hil, hkc] at cC1
          have cC2 : Calls Tryd.prog 11 #[.agg #[.slice vp i vcap, .slice tp k tcap]] wr fun e w' => e = .returned (.int .i64 (if 64 < na ∨ 64 < nc then 10 else if (nb : Int) < 1 ∨ 64 < (nb : Int) then 5 else 0)) ∧ Later wr w' := by rw [hil, hkc]; exact cC1
          clear cC1 hcc hS hT hkc hil hNm hVs hOS hOT hHl hIn hBk cC
          by_cases h1 : 64 < na
          · rw [if_pos (Or.inl h1)] at cC2
            go_wp2_with (first
              | (go_at_call 11; refine cC2.mono ?_; rintro e w5 ⟨rfl, hl5⟩)
              | (go_at_call 10; refine (cA _ (NamesGood.later HG.out (hlw.trans hl5))).mono ?_; rintro e w7 ⟨rfl, hl7⟩))
            go_ret
            exact ⟨rfl, hlw.trans (hl5.trans hl7)⟩
          by_cases h2 : 64 < nc
          · rw [if_pos (Or.inr h2)] at cC2
            go_wp2_with (first
              | (go_at_call 11; refine cC2.mono ?_; rintro e w5 ⟨rfl, hl5⟩)
              | (go_at_call 10; refine (cA _ (NamesGood.later HG.out (hlw.trans hl5))).mono ?_; rintro e w7 ⟨rfl, hl7⟩))
            go_ret
            exact ⟨rfl, hlw.trans (hl5.trans hl7)⟩
          rw [if_neg (by omega)] at cC2
          by_cases h3 : 64 < nb
          · rw [if_pos (by omega)] at cC2
            go_wp2_with (first
              | (go_at_call 11; refine cC2.mono ?_; rintro e w5 ⟨rfl, hl5⟩)
              | (go_at_call 10; refine (cA _ (NamesGood.later HG.out (hlw.trans hl5))).mono ?_; rintro e w7 ⟨rfl, hl7⟩))
            go_ret
            exact ⟨rfl, hlw.trans (hl5.trans hl7)⟩
          · rw [if_neg (by omega)] at cC2
            go_wp2_with (first
              | (go_at_call 11; refine cC2.mono ?_; rintro e w5 ⟨rfl, hl5⟩)
              | (go_at_call 10; refine (cA _ (NamesGood.later HG.out (hlw.trans hl5))).mono ?_; rintro e w7 ⟨rfl, hl7⟩))
            go_ret
            exact ⟨rfl, hlw.trans (hl5.trans hl7)⟩

set_option maxRecDepth 100000 in
theorem lifted (os : Os) (started : os.Started) (H : Type) (enc : TypeId × Value → H) :
    ReturnsInHanded {} Tryd.checked os 5 .any (fun w args => (Rows.validManySpec.pre enc Tryd.prog Tryd.f5 [] false w args ∧ laidMetH Tryd.prog theList w) ∧ sizedMet enc Tryd.prog Tryd.f5 (OpenSpec.ofChange Rows.validManySpec) false w args)
      (Rows.validManySpec.post enc Tryd.prog Tryd.f5 false true false false) := by
  refine returnsInHanded_of_change_and (C := Tryd.checked) (X := fun w _ => laidMetH Tryd.prog theList w) (fun _ _ _ hh h => h.of_heap hh) own started (by kernel_rfl) Tryd.func5
    (ChangeSpec.witness_shaped (enc := enc) (C := Tryd.checked) (os := os) (X := fun w _ => laidMetH Tryd.prog theList w) false (World.laidAll Tryd.prog os theList) #[.int .i64 0, .int .i64 0, .int .i64 0] 8 (World.laidAll_os _ _ _) (World.shaped_of_ZipB (by kernel_rfl) (by kernel_rfl)) (by kernel_rfl) (by kernel_rfl) (by kernel_rfl) (door_met os _)) ?_
  intro W base args ds gs before hval0 hW _ hsz0 hL _
  have hsz : (DataW.weightsEach Tryd.prog (Tryd.f5.params.toList ++ Rows.validManySpec.plain.varTypes Tryd.prog) (ds ++ gs)).all (· ≤ reachBytes) = true := hsz0
  clear hsz0
  have hval : ∀ (j : Nat) t v, Tryd.f5.params[j]? = some t → args[j]? = some v → Value.okWide Tryd.prog W .any base t v := hval0
  have hW' := hW
  obtain ⟨p, q, hA0, hV, rfl, hfz, hnd⟩ := hW
  have hA : DataW.TrodAll enc Tryd.prog W 0 (fun _ => true) true Tryd.f5.params.toList args.toList ds p := hA0
  rw [Tryd.params5] at hA hval hsz
  obtain ⟨v0, vs0, d0, ds0, p0, q0, hargs, rfl, rfl, h0, r0⟩ := trodAll_cons hA
  obtain ⟨v1, vs1, d1, ds1, p1, q1, rfl, rfl, rfl, h1, r1⟩ := trodAll_cons r0
  obtain ⟨v2, vs2, d2, ds2, p2, q2, rfl, rfl, rfl, h2, r2⟩ := trodAll_cons r1
  obtain ⟨rfl, rfl, rfl⟩ := trodAll_nil r2
  obtain rfl : args = #[v0, v1, v2] := by cases args; simp_all
  obtain ⟨rfl, rfl⟩ := trodVars_none hV
  simp only [List.append_nil] at hW'
  obtain ⟨a0, rfl, rfl, rfl, w0⟩ := open_int Tryd.underlying3 (hval 0 3 v0 rfl rfl) h0
  obtain ⟨a1, rfl, rfl, rfl, w1⟩ := open_int Tryd.underlying3 (hval 1 3 v1 rfl rfl) h1
  obtain ⟨a2, rfl, rfl, rfl, w2⟩ := open_int Tryd.underlying3 (hval 2 3 v2 rfl rfl) h2
  clear hA0 hval0
  refine (walk W (Good.of_laid hL) a0 (int64_of_wf w0) a1 (int64_of_wf w1) a2 (int64_of_wf w2)).mono fun e W' ⟨he, hnx⟩ => ?_
  subst he
  refine ⟨_, rfl, _, _, _, [], ([] ++ ([] ++ ([] ++ []))), [], hW', ?_, ?_, rfl, Below.frame hnx _, fun h => by cases h⟩
  · exact (trodAll_cons_mk (shut_bool Tryd.underlying4 _) trodAll_mk0)
  · exact (trodAll_cons_mk (shut_int Tryd.underlying3 w0) (trodAll_cons_mk (shut_int Tryd.underlying3 w1) (trodAll_cons_mk (shut_int Tryd.underlying3 w2) trodAll_mk0)))

theorem over : Rows.validManyRow.holds Tryd.pinned (OpenSpec.ofChange Rows.validManySpec) :=
  OpenClaim.holds_of_wide 5 Tryd.f5 rfl rfl rfl rfl rfl rfl rfl ⟨rfl, rfl, rfl, rfl, rfl⟩ rfl rfl rfl rfl rfl (by kernel_rfl) Tryd.func5 (by kernel_rfl)
    (of_decide_eq_true (by kernel_rfl)) (by unfold Func.isWrapper; first | (rw [if_pos (by decide +kernel)]; kernel_rfl) | (rw [if_neg (by decide +kernel)]; exact ⟨rfl, rfl⟩))
    (fun os started H enc _ => lifted os started H enc)

end Go.Proofs.YtkceppfimbkeoaaDoor.validMany

namespace Go.Proofs.YtkceppfimbkeoaaDoor
open Go
/-- The statement: the row, with its listed variables tied to the program's text. -/
theorem validMany_holds : Rows.ValidManyCardSaid :=
  Claim7.holds_tied_plain_at .later [] [.data, .data, .data, .data, .pinned] true Rows.validManyCard.stood.harness true
    validMany.over (fun _ h => by cases h) (by kernel_rfl) (fun _ h => by cases h) validMany_row_tie rfl ⟨rfl, rfl⟩ (by kernel_rfl) rfl
    (fun f fn hf hfn => by
      obtain rfl : f = 5 := Option.some.inj ((show Tryd.prog.funcNamed Rows.validManyRow.func = some 5 by kernel_rfl).symm.trans hf) |>.symm
      obtain rfl : fn = Tryd.f5 := (Option.some.inj (Tryd.func5.symm.trans hfn)).symm
      exact ⟨by kernel_rfl, fun j t ht => by
        rw [Tryd.params5] at ht
        have hm : t ∈ [3, 3, 3] := by simpa using Array.mem_of_getElem? ht
        have hall : ([3, 3, 3].all fun u => !Tryd.prog.wantsStandIn u) = true := by kernel_rfl
        exact (show Tryd.prog.wantsStandIn t = false by simpa using List.all_eq_true.1 hall t hm)⟩)
    (by kernel_rfl)
#print axioms validMany_holds
end Go.Proofs.YtkceppfimbkeoaaDoor
