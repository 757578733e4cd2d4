/-
  For every input: the statement's function returns true and nothing that was in memory turns. Conditions: none.
-/
import Derived.Test.YtmfifaonbbeebaaRows
import Derived.Test.YtmfifaonbbeebaaRingTwo
import Derived.Test.YtmfifaonbbeebaaOpensRing
import Derived.Test.YtmfifaonbbeebaaPick
import Derived.WalkKit
import Derived.ProofKit
import Derived.OpenShut
import Derived.SizedLaws
import Derived.ShutString
import Derived.Carry
import Derived.Stop.Joined
namespace Go.Proofs.Ytmfifaonbbeebaa.ringCopies
open Go.ChangeShapes Go.WideShapes Go.ChangeAt Go.RowKit
open Go.ChangeMaps (open_string shut_string)
set_option linter.unusedVariables false
set_option linter.unusedSimpArgs false

theorem own : ownKnob Try.prog.godebug = none := by kernel_rfl
theorem laidOut : laidOutB Try.prog = true := by kernel_rfl

/-- Behind two appends, the first of them to no slice: nothing that was there has turned. -/
theorem after_two {W w8 w9 : World} {o : Obj} {n : Nat} {v : Value} {xs : List Value} (ho : w8.ownsRow W.heap.size 31 2 v n xs) (h8 : W.grownBy w8 (Value.slice none 0 0).ownBlock) (h9 : (w8.alloc o).grownBy w9 v.ownBlock) : Later W w9 := by
  have l8 : Later W w8 := (Below.refl _ W).grown h8 (Nat.le_refl _) (fun j hj => by simp [Value.ownBlock] at hj)
  exact (Below.alloc l8 l8.size o).grown h9 (by have := l8.size; simp; omega) (fun j hj => (ho.lt j hj).1)

theorem after_one {W w9 : World} {o : Obj} (h9 : (W.alloc o).grownBy w9 (Value.slice none 0 0).ownBlock) : Later W w9 :=
  (Below.alloc (Below.refl _ W) (Nat.le_refl _) o).grown h9 (by simp) (fun j hj => by simp [Value.ownBlock] at hj)

theorem want_row {w9 : World} {base m : Nat} {v : Value} {C : List Value} {M : List (Int × Int)} (hC : flatC entC M = C) (hm : M.length = m) (h : w9.ownsRow base 31 2 v (m + 1) (C ++ [.int .i64 99, .int .i64 0])) : EntRow w9 v (M ++ [(99, 0)]) := by
  refine EntRow.of_owns (n := m + 1) (base := base) (by rw [List.length_append, hm]; simp) ?_
  rw [flatC_append, flatC_one, hC]
  exact h

set_option maxRecDepth 1000000 in
set_option maxHeartbeats 8000000 in
theorem walk (w : World) (u : Value) (L : List (Int × Int)) (hL : EntRow w u L) (k : Int) (hk : I64 k) :
    Calls Try.prog 5 #[u, .int .i64 k] w fun e w' => e = .returned (.bool true) ∧ Later w w' := by
  obtain ⟨i0, hi0, hz0, hz1, hz2⟩ := info_parts infoEnt
  obtain ⟨lp, lcap, rfl, hc1, hc2⟩ := hL.slice
  unfold maxLen at hc2
  obtain ⟨n, hn⟩ : ∃ n, L.length = n := ⟨_, rfl⟩
  rw [hn] at hL hc1 ⊢
  have HL : Hid (EntRow w (.slice lp n lcap) L) := hL
  clear hL
  by_cases h40 : (40 : Int) < (n : Int)
  · clear HL
    go_enter Try.func5, Try.ntmps5
    go_wp2_with (go_at_call 9; refine (ringAlive_any _).mono ?_; rintro e w7 ⟨rfl, h7⟩)
    go_ret
    exact ⟨rfl, h7⟩
  · obtain ⟨kk, hkk, hkn⟩ := pick_nat k (n + 1) (by omega)
    have cK := fun w' => pick_any k ((n : Int) + 1) hk (by omega) w'
    rw [show pick k ((n : Int) + 1) = kk from hkk] at cK
    have CK : Hid (∀ w' : World, Calls Try.prog 10 #[.int .i64 k, .int .i64 ((n : Int) + 1)] w' fun e w'' => e = .returned (.int .i64 kk) ∧ w'' = w') := cK
    clear hkk cK
    go_enter Try.func5, Try.ntmps5
    go_wp2_with (go_at_call 8; refine (one_new w _ (Later.refl w)).mono ?_; rintro e w1 ⟨p, rfl, h1, -⟩)
    go_loopw [6] (fun vi wr => ∃ i : Nat, vi = .int .i64 (i : Nat) ∧ i ≤ n ∧ Hid (One w wr p (L.take i) i)) (fun vi _ => n - (intOf vi).toNat)
    case atStart => exact ⟨0, rfl, by omega, h1⟩
    case round =>
      clear h1
      obtain ⟨i, rfl, hi, hO⟩ := hrel
      by_cases h8 : i < n
      · obtain ⟨y, hy⟩ : ∃ y, L[i]? = some y := ⟨_, List.getElem?_eq_getElem (by omega)⟩
        obtain ⟨g, o, rfl, y0, y1⟩ := (HL.out.later hO.out.all).get hy
        have hnext : L.take i ++ [y] = L.take (i + 1) := by rw [List.take_add_one, hy]; rfl
        have c := one_push w wr p y (L.take i) i hO.out (by omega)
        rw [hnext] at c
        clear HL hO
        go_wp2_with (go_at_call 11; refine c.mono ?_; rintro e w2 ⟨rfl, h2⟩)
        go_roundw
        case rel => exact ⟨i + 1, by go_num, by omega, h2⟩
        case measure => simp [intOf] <;> omega
      · have hin : n = i := by omega
        subst hin
        have h1 : One w wr p L n := by have h := hO.out; rwa [List.take_of_length_le (by omega)] at h
        obtain ⟨Wc, rfl⟩ : ∃ Wc, Wc = wr := ⟨_, rfl⟩
        have h1a := h1.all
        clear hO
        have cC := one_copy w Wc p L n h1 (by omega)
        have cS := fun w3 (v3 : Value) (hl3 : Later Wc w3) (h3 : EntRow w3 v3 L) => sameEnt_any w3 v3 (.slice lp n lcap) L L h3 (HL.out.later (h1a.trans hl3))
        rw [show decide (L = L) = true from decide_eq_true rfl] at cS
        have CS : Hid (∀ w3 (v3 : Value) (hl3 : Later Wc w3) (h3 : EntRow w3 v3 L), Calls Try.prog 16 #[v3, .slice lp n lcap] w3 fun e w' => e = .returned (.bool true) ∧ Later w3 w') := cS
        have cK := CK.out
        obtain ⟨q, hq1, hq2, hq3⟩ := slice_low (pre := L.take kk) (L := L.drop kk) (l := kk) (by simp [hn]; omega) (by rw [List.take_append_drop]; exact HL.out)
        have HQ : Hid (EntRow w (.slice q (n - kk) (lcap - kk)) (L.drop kk)) := hq1
        have HS : Hid (∀ w', (Instr.slice 26 (.slice lp n lcap) (some (.int .i64 (kk : Nat))) none none).run Try.prog w' = .ok (.slice q (n - kk) (lcap - kk)) w') := hq2
        have hdl : (L.drop kk).length = n - kk := by simp [hn]
        clear cS hq1 hq2
        go_wp2_with (first
          | (go_at_call 15; refine cC.mono ?_; rintro e w2 ⟨p', rfl, h2⟩; clear cC)
          | (go_at_call 17; refine (one_list Wc _ p' L n h2 (by omega)).mono ?_; rintro e w3 ⟨v3, rfl, ho3, hl3⟩; have h3 := h2.later hl3; have cS3 := CS.out w3 v3 h3.all (EntRow.of_owns rfl ho3); clear h2 ho3)
          | (go_at_call 16; apply Calls.mono; (focus (with_reducible (exact cS3))); rintro e w4 ⟨rfl, hl4⟩; have h4 := h3.later hl4; clear h3 cS3)
          | (go_at_call 10; apply Calls.mono; (focus (with_reducible (exact cK _))); rintro e w5 ⟨rfl, hw5⟩; have hw6 := hw5.symm; subst hw6; clear cK))
        go_loopw [8] (fun vi wr => ∃ i : Nat, vi = .int .i64 (i : Nat) ∧ i ≤ kk ∧ Hid (One Wc wr p' (L.drop i) n)) (fun vi _ => kk - (intOf vi).toNat)
        case atStart => exact ⟨0, rfl, by omega, h4⟩
        case round =>
          clear h4
          obtain ⟨i, rfl, hi2, hO⟩ := hrel
          by_cases h9 : i < kk
          · obtain ⟨y, hy⟩ : ∃ y, L.drop i = y :: L.drop (i + 1) := ⟨_, List.drop_eq_getElem_cons (by omega)⟩
            have h5 := hO.out
            rw [hy] at h5
            have c := one_pop Wc wr p' y (L.drop (i + 1)) n h5 (by omega)
            clear hO h5 HQ HS CS
            go_wp2_with (go_at_call 12; refine c.mono ?_; rintro e w5 ⟨rfl, h5⟩)
            go_roundw
            case rel => exact ⟨i + 1, by go_num, by omega, h5⟩
            case measure => simp [intOf] <;> omega
          · have hik : kk = i := by omega
            subst hik
            have h5 := hO.out
            clear hO
            go_wp2_with (first
              | (go_at_call 11; refine (one_push Wc _ p' (99, 0) (L.drop kk) n h5 (by omega)).mono ?_; rintro e w6 ⟨rfl, h6⟩; clear h5)
              | (go_at_call 17; refine (one_list w _ p L n (h1.later h6.all) (by omega)).mono ?_; rintro e w7 ⟨v7, rfl, ho7, hl7⟩; rw [hn] at ho7; obtain ⟨p7, q7, rfl⟩ := owns_slice ho7))
            have HE : Hid (OwnE w7 w6.heap.size (.slice p7 n q7) n) := OwnE.of_owns ho7
            clear ho7
            go_loopw [10] (fun vi wr => ∃ j : Nat, vi = .int .i64 (j : Nat) ∧ j ≤ n ∧ Hid (OwnE wr w6.heap.size (.slice p7 n q7) n) ∧ Later w6 wr) (fun vi _ => n - (intOf vi).toNat)
            case atStart => exact ⟨0, rfl, by omega, HE, hl7⟩
            case round =>
              clear HE hl7
              obtain ⟨j, rfl, hj, HE, hlw⟩ := hrel
              by_cases h10 : j < n
              · obtain ⟨g, x, y, rfl, hg0, y0, y1, y2, y3, hset⟩ := HE.out.cell h10
                clear HE HQ HS CS
                go_wp2
                go_roundw
                case rel => exact ⟨j + 1, by go_num, by omega, hset _ _, Later.setCell (Later.setCell hlw hg0 _ _) hg0 _ _⟩
                case measure => simp [intOf] <;> omega
              · have hjn : n = j := by omega
                subst hjn
                obtain ⟨C, hC⟩ : ∃ C, flatC entC (L.drop kk) = C := ⟨_, rfl⟩
                have hlenC := flatC_length entC 2 entC_len (L.drop kk)
                have honeC := entC_one (L.drop kk)
                have h6a := h6.all
                obtain ⟨xp, xc, hx0, -, -, hx3⟩ := (HQ.out.later (h1a.trans (h6a.trans hlw))).all
                have hq5 := HS.out
                rw [hC] at hlenC honeC hx3
                rw [hdl] at hlenC
                simp only [Value.slice.injEq] at hx0
                obtain ⟨rfl, -, -⟩ := hx0
                clear HE HQ HS
                cases lp with
                | none =>
                  obtain rfl : q = none := by cases q; rfl; cases hq3
                  have hL0 : L = [] := by
                    rcases L with _ | ⟨y, L⟩
                    · rfl
                    · obtain ⟨g, o, hg, -⟩ := HL.out.get (i := 0) rfl
                      cases hg
                  subst hL0
                  obtain rfl : n = 0 := by rw [← hn]; rfl
                  obtain rfl : kk = 0 := by omega
                  clear hx3
                  go_wp2_with (first
                    | (at_builtin; refine wpList_append_none rfl (.const (.slice none 0 0)) (.tmp 71) lcap rfl rfl rfl ?_)
                    | (at_builtin; refine wpList_append_own _ rfl _ _ 26 rfl wr.heap.size 31 i0 (.agg #[.int .i64 0, .int .i64 0]) 2 16 Try.underlying26 hi0 hz0 hz1 hz2 rfl (by decide) (.slice none 0 0) 0 [] rfl (World.ownsRow_nil _ _ _ _) ⟨wr.heap.size, 0, none⟩ 1 1 [.int .i64 99, .int .i64 0] rfl rfl (news_at _ _ _) (fun u hu => by simp at hu; rcases hu with rfl | rfl <;> rfl) (by unfold maxLen; omega) (by omega) (by simp) ?_; intro v9 w9 ho9 hg9 hnil9; rw [Nat.zero_add] at ho9; obtain ⟨p9, q9, rfl⟩ := owns_slice ho9; have hl9 : Later w6 w9 := hlw.trans (after_one hg9); have HW : Hid (EntRow w9 (.slice p9 1 q9) ([] ++ [(99, 0)])) := want_row (C := []) (m := 0) rfl rfl ho9; clear hg9 ho9 hnil9)
                    | (go_at_call 17; refine (one_list w _ p [] 0 (h1.later (h6.all.trans hl9)) (by omega)).mono ?_; rintro e w10 ⟨v10, rfl, ho10, hl10⟩; have cS10 := CS.out w10 v10 (h6.all.trans (hl9.trans hl10)) (EntRow.of_owns rfl ho10); clear ho10 h1)
                    | (go_at_call 16; apply Calls.mono; (focus (with_reducible (exact cS10))); rintro e w11 ⟨rfl, hl11⟩; clear cS10)
                    | (go_at_call 17; refine (one_list Wc _ p' ([] ++ [(99, 0)]) (0 + 1) (h6.later (hl9.trans (hl10.trans hl11))) (by omega)).mono ?_; rintro e w12 ⟨v12, rfl, ho12, hl12⟩; have cS12 := sameEnt_any w12 v12 (.slice p9 1 q9) ([] ++ [(99, 0)]) ([] ++ [(99, 0)]) (EntRow.of_owns rfl ho12) (HW.out.later (hl10.trans (hl11.trans hl12))); rw [show decide ([] ++ [((99 : Int), (0 : Int))] = [] ++ [(99, 0)]) = true from decide_eq_true rfl] at cS12; clear ho12)
                    | (go_at_call 16; apply Calls.mono; (focus (with_reducible (exact cS12))); rintro e w13 ⟨rfl, hl13⟩)
                    | (go_at_call 9; refine (ringAlive_any _).mono ?_; rintro e w14 ⟨rfl, hl14⟩))
                  go_ret
                  exact ⟨rfl, h1a.trans (h6a.trans (hl9.trans (hl10.trans (hl11.trans (hl12.trans (hl13.trans hl14))))))⟩
                | some la =>
                  obtain ⟨qa, rfl⟩ : ∃ qa, q = some qa := by cases q with | none => cases hq3 | some qa => exact ⟨qa, rfl⟩
                  have hnewsC : ∀ j u, C[j]? = some u → wr.cell? (qa.add j) = some u := fun j u hj => by
                    obtain ⟨g, o, hg, h4⟩ := hx3 (by rintro h0; rw [h0] at hC; subst hC; simp [flatC] at hj)
                    cases hg
                    rw [WideShapes.add_plain]
                    exact h4 j u hj
                  clear hx3
                  have hb1 : n - kk + 1 ≤ maxLen := by unfold maxLen; omega
                  have hb2 : (n - kk + 1) * 16 ≤ 140737488355328 := by omega
                  have h99 : ∀ u ∈ [Value.int .i64 99, Value.int .i64 0], u.oneCell' = true := fun u hu => by simp at hu; rcases hu with rfl | rfl <;> rfl
                  go_wp2_with (first
                    | (at_builtin; refine wpList_append_own _ rfl _ _ 26 rfl wr.heap.size 31 i0 (.agg #[.int .i64 0, .int .i64 0]) 2 16 Try.underlying26 hi0 hz0 hz1 hz2 rfl (by decide) (.slice none 0 0) 0 [] rfl (World.ownsRow_nil _ _ _ _) qa (n - kk) (lcap - kk) C rfl hlenC hnewsC honeC (by unfold maxLen; omega) (by omega) (Nat.le_refl _) ?_; intro v8 w8 ho8 hg8 hnil8; rw [Nat.zero_add, List.nil_append] at ho8; obtain ⟨p8, q8, rfl⟩ := owns_slice ho8; clear hnewsC)
                    | (at_builtin; refine wpList_append_own _ rfl _ _ 26 rfl wr.heap.size 31 i0 (.agg #[.int .i64 0, .int .i64 0]) 2 16 Try.underlying26 hi0 hz0 hz1 hz2 rfl (by decide) (.slice p8 (n - kk) q8) (n - kk) C rfl (ho8.alloc _) ⟨w8.heap.size, 0, none⟩ 1 1 [.int .i64 99, .int .i64 0] rfl rfl (news_at _ _ _) h99 hb1 hb2 (Nat.le_trans hg8.size (Later.alloc (Later.refl w8) _).size) ?_; intro v9 w9 ho9 hg9 hnil9; obtain ⟨p9, q9, rfl⟩ := owns_slice ho9; have hl9 : Later w6 w9 := hlw.trans (after_two ho8 hg8 hg9); have HW : Hid (EntRow w9 (.slice p9 (n - kk + 1) q9) (L.drop kk ++ [(99, 0)])) := want_row hC hdl ho9; clear ho8 hg8 hg9 ho9 hnil8 hnil9)
                    | (go_at_call 17; refine (one_list w _ p L n (h1.later (h6.all.trans hl9)) (by omega)).mono ?_; rintro e w10 ⟨v10, rfl, ho10, hl10⟩; have cS10 := CS.out w10 v10 (h6.all.trans (hl9.trans hl10)) (EntRow.of_owns rfl ho10); clear ho10 h1)
                    | (go_at_call 16; apply Calls.mono; (focus (with_reducible (exact cS10))); rintro e w11 ⟨rfl, hl11⟩; clear cS10)
                    | (go_at_call 17; refine (one_list Wc _ p' (L.drop kk ++ [(99, 0)]) (n + 1) (h6.later (hl9.trans (hl10.trans hl11))) (by omega)).mono ?_; rintro e w12 ⟨v12, rfl, ho12, hl12⟩; have cS12 := sameEnt_any w12 v12 (.slice p9 (n - kk + 1) q9) (L.drop kk ++ [(99, 0)]) (L.drop kk ++ [(99, 0)]) (EntRow.of_owns rfl ho12) (HW.out.later (hl10.trans (hl11.trans hl12))); rw [show decide (L.drop kk ++ [((99 : Int), (0 : Int))] = L.drop kk ++ [(99, 0)]) = true from decide_eq_true rfl] at cS12; clear ho12)
                    | (go_at_call 16; apply Calls.mono; (focus (with_reducible (exact cS12))); rintro e w13 ⟨rfl, hl13⟩)
                    | (go_at_call 9; refine (ringAlive_any _).mono ?_; rintro e w14 ⟨rfl, hl14⟩))
                  go_ret
                  exact ⟨rfl, h1a.trans (h6a.trans (hl9.trans (hl10.trans (hl11.trans (hl12.trans (hl13.trans hl14))))))⟩

set_option maxRecDepth 100000 in
theorem lifted (os : Os) (started : os.Started) (H : Type) (enc : TypeId × Value → H) :
    ReturnsInHanded {} Try.checked os 5 .any (Rows.ringCopiesSpec.pre6 enc Try.prog Try.f5 Rows.ringCopiesRow.domain false)
      (Rows.ringCopiesSpec.post enc Try.prog Try.f5 false true false false) := by
  refine returnsInHanded_of_change (C := Try.checked) own started (by kernel_rfl) Try.func5
    (ChangeSpec.witness6 (enc := enc) (C := Try.checked) false ⟨#[], #[.slice none 0 0, .int .i64 0], []⟩ 8 (by kernel_rfl) (by kernel_rfl) (by kernel_rfl) (by kernel_rfl)) ?_
  intro W base args ds gs before hval0 hW _ _
  have hval : ∀ (j : Nat) t v, Try.f5.params[j]? = some t → args[j]? = some v → Value.okWide Try.prog W .any base t v := hval0
  have hW' := hW
  obtain ⟨p, q, hA0, hV, rfl, hfz, hnd⟩ := hW
  have hA : DataW.TrodAll enc Try.prog W 0 (fun _ => true) true Try.f5.params.toList args.toList ds p := hA0
  rw [Try.params5] at hA hval
  obtain ⟨v0, vs0, d0, ds0, p0, q0, hargs, rfl, rfl, h0, r0⟩ := trodAll_cons hA
  obtain ⟨v1, vs1, d1, ds1, p1, q1, rfl, rfl, rfl, h1, r1⟩ := trodAll_cons r0
  obtain ⟨rfl, rfl, rfl⟩ := trodAll_nil r1
  obtain rfl : args = #[v0, v1] := by cases args; simp_all
  obtain ⟨rfl, rfl⟩ := trodVars_none hV
  simp only [List.append_nil] at hW'
  have h0k := h0
  have hlt0 : ∀ x ∈ p0, x.block < W.heap.size := fun x hx => by simpa using hW'.lt x (by simp [hx])
  obtain ⟨L0, el0⟩ := open_ents (hval 0 26 v0 rfl rfl) h0
  obtain ⟨a1, rfl, rfl, rfl, w1⟩ := open_int Try.underlying3 (hval 1 3 v1 rfl rfl) h1
  clear hA0 hval0
  refine (walk W _ L0 el0 a1 (int64_of_wf w1)).mono fun e W' ⟨he, hnx⟩ => ?_
  subst he
  refine ⟨_, rfl, _, _, _, [], (p0 ++ ([] ++ [])), [], hW', ?_, ?_, rfl, Below.frame hnx _, fun h => by cases h⟩
  · exact (trodAll_cons_mk (shut_bool Try.underlying4 _) trodAll_mk0)
  · exact (trodAll_cons_mk (Below.trod laidOut (by kernel_rfl) (of_decide_eq_true (by kernel_rfl)) h0k hnx hlt0) (trodAll_cons_mk (shut_int Try.underlying3 w1) trodAll_mk0))

theorem over : Rows.ringCopiesRow.holds Try.pinned (OpenSpec.ofChange Rows.ringCopiesSpec) :=
  OpenClaim.holds_of_wide 5 Try.f5 rfl rfl rfl rfl rfl rfl rfl ⟨rfl, rfl, rfl, rfl, rfl⟩ rfl rfl rfl rfl rfl (by kernel_rfl) Try.func5 (by kernel_rfl)
    (of_decide_eq_true (by kernel_rfl)) (by unfold Func.isWrapper; first | (rw [if_pos (by decide +kernel)]; kernel_rfl) | (rw [if_neg (by decide +kernel)]; exact ⟨rfl, rfl⟩))
    (fun os started H enc _ => lifted os started H enc)

end Go.Proofs.Ytmfifaonbbeebaa.ringCopies

namespace Go.Proofs.Ytmfifaonbbeebaa
open Go
/-- The statement. -/
theorem ringCopies_holds : Rows.RingCopiesSaid := ringCopies.over
#print axioms ringCopies_holds
end Go.Proofs.Ytmfifaonbbeebaa
