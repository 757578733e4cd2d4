/-
  For every list of calls: the statement's function returns true and nothing that was in memory turns. Conditions: none.
-/
import Derived.Test.YtmfifaonbbeebaaRows
import Derived.Test.YtmfifaonbbeebaaRingState
import Derived.Test.YtmfifaonbbeebaaOpensRing
import Derived.Test.YtmfifaonbbeebaaPick
import Derived.WalkKit
import Derived.ProofKit
import Derived.OpenShut
import Derived.SizedLaws
import Derived.ShutString
import Derived.Carry
import Derived.Stop.Joined
namespace Go.Proofs.Ytmfifaonbbeebaa.ringPlays
open Go.ChangeShapes Go.WideShapes Go.ChangeAt Go.RowKit
open Go.ChangeMaps (open_string shut_string)
set_option linter.unusedVariables false
set_option linter.unusedSimpArgs false

theorem own : ownKnob Try.prog.godebug = none := by kernel_rfl
theorem laidOut : laidOutB Try.prog = true := by kernel_rfl

theorem grown_heap {w w' : World} {r : Option Nat} (hg : w.grownBy w' r) {k : Nat} {o : Obj} (h : w.heap[k]? = some o) (hne : some k ≠ r) : w'.heap[k]? = some o := by
  rw [hg.block k (lt_block h) hne]; exact h

set_option maxRecDepth 1000000 in
set_option maxHeartbeats 8000000 in
theorem walk (w : World) (u : Value) (A : List (Int × Int × Int)) (hA : RactRow w u A) :
    Calls Try.prog 3 #[u] w fun e w' => e = .returned (.bool true) ∧ Later w w' := by
  have q1 := ent_guard
  have q2 := fun a b c d w => equal_ent a b c d w
  obtain ⟨ap, acap, rfl, hc1, hc2⟩ := RowIn.slice hA
  unfold maxLen at hc2
  obtain ⟨n, hn⟩ : ∃ n, A.length = n := ⟨_, rfl⟩
  rw [hn] at hA hc1 ⊢
  have HA : Hid (RactRow w (.slice ap n acap) A) := hA
  clear hA
  by_cases h80 : (80 : Int) < (n : Int)
  · clear HA
    go_enter Try.func3, Try.ntmps3
    go_wp2_with (first
      | (go_at_call 8; refine (one_new w _ (Later.refl w)).mono ?_; rintro e w1 ⟨p, rfl, h1, -⟩)
      | (go_at_call 9; refine (ringAlive_any _).mono ?_; rintro e w7 ⟨rfl, h7⟩))
    go_ret
    exact ⟨rfl, h1.all.trans h7⟩
  · go_enter Try.func3, Try.ntmps3
    go_wp2_with (go_at_call 8; refine (new_any w.heap.size w (Nat.le_refl _)).mono ?_; rintro e w1 ⟨rfl, hl1, h1⟩)
    have hS : St w w1 w.heap.size none [] (.slice none 0 0) [] 0 := ⟨h1, SubRow.nil _ _, fun k hk => by simp, hl1⟩
    clear h1 hl1
    obtain ⟨p, hp⟩ : ∃ p, w.heap.size = p := ⟨_, rfl⟩
    rw [hp] at hS ⊢
    clear hp
    go_loopw [4, 5] (fun vl vi wr => ∃ (i : Nat) (b : Option Nat) (L : List (Int × Int)), vi = .int .i64 (i : Nat) ∧ i ≤ n ∧ Hid (St w wr p b L vl L i)) (fun _ vi _ => n - (intOf vi).toNat)
    case atStart => exact ⟨0, none, [], rfl, by omega, hS⟩
    case round =>
      clear hS
      obtain ⟨i, b, L, rfl, hi, hS⟩ := hrel
      obtain ⟨lp, lcap, rfl⟩ := hS.out.row.form
      obtain ⟨m, hm⟩ : ∃ m, L.length = m := ⟨_, rfl⟩
      rw [hm] at hS ⊢
      have hmi := hS.out.ring.len
      rw [hm] at hmi
      by_cases h8 : i < n
      · obtain ⟨x, hx⟩ : ∃ x, A[i]? = some x := ⟨_, List.getElem?_eq_getElem (by omega)⟩
        obtain ⟨g, o, rfl, x9, x0, x1, x2⟩ := (RactRow.later HA.out hS.out.later).get hx
        obtain ⟨z, hz, hz3⟩ := pick_nat x.1 3 (by omega)
        have cP := fun w' => pick_any x.1 3 x9 (by omega) w'
        rw [show pick x.1 3 = z from hz] at cP
        clear hz hx HA x9
        have hS1 : Hid (St w (wr.alloc (.cells #[.int .i64 x.1, .int .i64 x.2.1, .int .i64 x.2.2] 28)) p b L (.slice lp m lcap) L i) := hS.out.next (Later.alloc (Later.refl wr) _)
        have hB1 := at_new wr (.cells #[.int .i64 x.1, .int .i64 x.2.1, .int .i64 x.2.2] 28)
        obtain ⟨fp, fb, fv⟩ := hS.out.far (Nat.le_refl _)
        clear hS
        go_upto_region 11 with (fail)
        generalize wr.alloc (.cells #[.int .i64 x.1, .int .i64 x.2.1, .int .i64 x.2.2] 28) = W1 at *
        obtain ⟨y0, y1, y2, -⟩ := box3_facts hB1
        by_cases hz2 : (z : Int) < 2
        · go_upto_region 13 with (go_at_call 10; apply Calls.mono; (focus (with_reducible (exact cP _))); rintro e w8 ⟨rfl, hw8⟩; have hw9 := hw8.symm; subst hw9; clear cP)
          have l2 := Later.alloc (Later.refl W1) (.cells #[.int .i64 x.2.1, .int .i64 x.2.2] 31)
          have hS2 : Hid (St w (W1.alloc (.cells #[.int .i64 x.2.1, .int .i64 x.2.2] 31)) p b L (.slice lp m lcap) L i) := hS1.out.next l2
          have hB2 := at_new W1 (.cells #[.int .i64 x.2.1, .int .i64 x.2.2] 31)
          have hB3 := heap_later l2 hB1
          obtain ⟨gp, gb, gv⟩ := hS1.out.far (Nat.le_refl _)
          clear y0 y1 y2 hB1 hS1 l2
          generalize W1.alloc (.cells #[.int .i64 x.2.1, .int .i64 x.2.2] 31) = W2 at *
          obtain ⟨e0, e1, -⟩ := box2_facts hB2
          have cU := st_push w W2 p b (x.2.1, x.2.2) L (.slice lp m lcap) L i hS2.out (by omega)
          dsimp only at cU
          have hlen : (L ++ [(x.2.1, x.2.2)]).length = m + 1 := by simp [hm]
          go_upto_region 20 with (first
            | (go_at_call 11; refine cU.mono ?_; rintro e w3 ⟨rfl, b', hS3, hT⟩; clear cU; have k1 := hT.heap hB3 fp fb; obtain ⟨e2, e3, -⟩ := box2_facts (hT.heap hB2 gp gb); clear hB2 hB3)
            | (at_builtin; refine wpList_append_sub _ rfl (.tmp 39) (.tmp 41) rfl w.heap.size (.slice lp m lcap) L (x.2.1, x.2.2) rfl (hS3.row.later (Later.alloc (Later.refl w3) _)) ⟨w3.heap.size, 0, none⟩ 1 rfl (news_at _ _ _) (by omega) (Nat.le_trans hS3.later.size (Later.alloc (Later.refl w3) _).size) ?_; intro v4 w4 hr4 hg4 ho4; have hS4 := (hS3.next (Later.alloc (Later.refl w3) _)).app hr4 hg4 ho4; obtain ⟨p4, q4, rfl⟩ := hr4.form; rw [hlen] at hS4 ⊢; have k4 := grown_heap hg4 (heap_later (Later.alloc (Later.refl w3) _) k1) fv; clear hr4 hg4 ho4 hS3 k1 e2 e3))
          obtain ⟨n0, n1, n2, -⟩ := box3_facts k4
          go_wp2_with (go_at_call 13; refine (ringSame_any w.heap.size _ p b' (L ++ [(x.2.1, x.2.2)]) (i + 1) (.slice p4 (m + 1) q4) x.2.1 hS4.ring (by omega) hS4.row.row).mono ?_; rintro e w9 ⟨rfl, hl9⟩)
          go_roundw
          case rel => exact ⟨i + 1, b', L ++ [(x.2.1, x.2.2)], by go_num, by omega, hS4.next hl9⟩
          case measure => simp [intOf] <;> omega
        · cases L with
          | nil =>
            obtain rfl : m = 0 := by rw [← hm]; rfl
            have cO := st_pop0 w W1 p b (.slice lp 0 lcap) [] i hS1.out (by omega)
            go_upto_region 16 with (first
              | (go_at_call 10; apply Calls.mono; (focus (with_reducible (exact cP _))); rintro e w8 ⟨rfl, hw8⟩; have hw9 := hw8.symm; subst hw9; clear cP)
              | (go_at_call 12; refine cO.mono ?_; rintro e w3 ⟨rfl, hl3⟩; clear cO; have hS3 := hS1.out.next hl3; have k1 := heap_later hl3 hB1; clear hS1 hB1 y0 y1 y2))
            have l4 := Later.alloc (Later.refl w3) (.cells #[.int .i64 0, .int .i64 0] 31)
            have hS4 : Hid (St w (w3.alloc (.cells #[.int .i64 0, .int .i64 0] 31)) p b [] (.slice lp 0 lcap) [] i) := hS3.next l4
            have k4 := heap_later l4 k1
            obtain ⟨d0, d1, -⟩ := box2_facts (at_new w3 (.cells #[.int .i64 0, .int .i64 0] 31))
            clear hS3 k1 l4
            generalize w3.alloc (.cells #[.int .i64 0, .int .i64 0] 31) = W4 at *
            go_quiet (fail)
            have n1 : ∀ r, (W4.drewN r).cell? ⟨wr.heap.size, 1, none⟩ = some (.int .i64 x.2.1) := fun r => (box3_facts k4).2.1
            go_wp2_with (go_at_call 13; refine (ringSame_any w.heap.size _ p b [] i (.slice lp 0 lcap) x.2.1 (hS4.out.next (Later.drewN (Later.refl W4) _)).ring (by omega) (hS4.out.next (Later.drewN (Later.refl W4) _)).row.row).mono ?_; rintro e w9 ⟨rfl, hl9⟩)
            go_roundw
            case rel => exact ⟨i + 1, b, [], by go_num, by omega, ((hS4.out.next (Later.drewN (Later.refl W4) _)).next hl9).more (Nat.le_succ _)⟩
            case measure => simp [intOf] <;> omega
          | cons y L' =>
            obtain ⟨m', hm'⟩ : ∃ m', L'.length = m' := ⟨_, rfl⟩
            obtain rfl : m = m' + 1 := by rw [← hm, ← hm']; rfl
            have cO := st_pop w W1 p b y L' (.slice lp (m' + 1) lcap) (y :: L') i hS1.out (by omega)
            go_upto_region 16 with (first
              | (go_at_call 10; apply Calls.mono; (focus (with_reducible (exact cP _))); rintro e w8 ⟨rfl, hw8⟩; have hw9 := hw8.symm; subst hw9; clear cP)
              | (go_at_call 12; refine cO.mono ?_; rintro e w3 ⟨rfl, b', hS3, hT⟩; clear cO; have k1 := hT.heap hB1 fp fb; clear hS1 hB1 y0 y1 y2))
            have l4 := Later.alloc (Later.refl w3) (.cells #[.int .i64 y.1, .int .i64 y.2] 31)
            have hS4 := hS3.next l4
            have k4 := heap_later l4 k1
            obtain ⟨d0, d1, -⟩ := box2_facts (at_new w3 (.cells #[.int .i64 y.1, .int .i64 y.2] 31))
            obtain ⟨q, hS5, hsl⟩ := hS4.tail
            obtain ⟨g', o', rfl, z0, z1⟩ := hS4.row.row.get (i := 0) rfl
            rw [Nat.zero_mul, Nat.add_zero] at z0 z1
            rw [Nat.add_sub_cancel] at hS5 hsl
            have HS5 : Hid (St w (w3.alloc (.cells #[.int .i64 y.1, .int .i64 y.2] 31)) p b' L' (.slice q m' (lcap - 1)) L' i) := hS5
            clear hS3 k1 l4 hS4 hS5 hT
            generalize w3.alloc (.cells #[.int .i64 y.1, .int .i64 y.2] 31) = W4 at *
            go_quiet (fail)
            have n1 : ∀ r, (W4.drewN r).cell? ⟨wr.heap.size, 1, none⟩ = some (.int .i64 x.2.1) := fun r => (box3_facts k4).2.1
            go_wp2_with (go_at_call 13; refine (ringSame_any w.heap.size _ p b' L' i (.slice q m' (lcap - 1)) x.2.1 (HS5.out.next (Later.drewN (Later.refl W4) _)).ring (by omega) (HS5.out.next (Later.drewN (Later.refl W4) _)).row.row).mono ?_; rintro e w9 ⟨rfl, hl9⟩)
            go_roundw
            case rel => exact ⟨i + 1, b', L', by go_num, by omega, ((HS5.out.next (Later.drewN (Later.refl W4) _)).next hl9).more (Nat.le_succ _)⟩
            case measure => simp [intOf] <;> omega
      · obtain rfl : i = n := by omega
        go_wp2_with (go_at_call 9; refine (ringAlive_any _).mono ?_; rintro e w7 ⟨rfl, h7⟩)
        go_ret
        exact ⟨rfl, hS.out.later.trans h7⟩

set_option maxRecDepth 100000 in
theorem lifted (os : Os) (started : os.Started) (H : Type) (enc : TypeId × Value → H) :
    ReturnsInHanded {} Try.checked os 3 .any (Rows.ringPlaysSpec.pre6 enc Try.prog Try.f3 Rows.ringPlaysRow.domain false)
      (Rows.ringPlaysSpec.post enc Try.prog Try.f3 false true false false) := by
  refine returnsInHanded_of_change (C := Try.checked) own started (by kernel_rfl) Try.func3
    (ChangeSpec.witness6 (enc := enc) (C := Try.checked) false ⟨#[], #[.slice none 0 0], []⟩ 8 (by kernel_rfl) (by kernel_rfl) (by kernel_rfl) (by kernel_rfl)) ?_
  intro W base args ds gs before hval0 hW _ _
  have hval : ∀ (j : Nat) t v, Try.f3.params[j]? = some t → args[j]? = some v → Value.okWide Try.prog W .any base t v := hval0
  have hW' := hW
  obtain ⟨p, q, hA0, hV, rfl, hfz, hnd⟩ := hW
  have hA : DataW.TrodAll enc Try.prog W 0 (fun _ => true) true Try.f3.params.toList args.toList ds p := hA0
  rw [Try.params3] at hA hval
  obtain ⟨v0, vs0, d0, ds0, p0, q0, hargs, rfl, rfl, h0, r0⟩ := trodAll_cons hA
  obtain ⟨rfl, rfl, rfl⟩ := trodAll_nil r0
  obtain rfl : args = #[v0] := by cases args; simp_all
  obtain ⟨rfl, rfl⟩ := trodVars_none hV
  simp only [List.append_nil] at hW'
  have h0k := h0
  have hlt0 : ∀ x ∈ p0, x.block < W.heap.size := fun x hx => by simpa using hW'.lt x (by simp [hx])
  obtain ⟨A0, ra0⟩ := open_racts (hval 0 22 v0 rfl rfl) h0
  clear hA0 hval0
  refine (walk W _ A0 ra0).mono fun e W' ⟨he, hnx⟩ => ?_
  subst he
  refine ⟨_, rfl, _, _, _, [], (p0 ++ []), [], hW', ?_, ?_, rfl, Below.frame hnx _, fun h => by cases h⟩
  · exact (trodAll_cons_mk (shut_bool Try.underlying4 _) trodAll_mk0)
  · exact (trodAll_cons_mk (Below.trod laidOut (by kernel_rfl) (of_decide_eq_true (by kernel_rfl)) h0k hnx hlt0) trodAll_mk0)

theorem over : Rows.ringPlaysRow.holds Try.pinned (OpenSpec.ofChange Rows.ringPlaysSpec) :=
  OpenClaim.holds_of_wide 3 Try.f3 rfl rfl rfl rfl rfl rfl rfl ⟨rfl, rfl, rfl, rfl, rfl⟩ rfl rfl rfl rfl rfl (by kernel_rfl) Try.func3 (by kernel_rfl)
    (of_decide_eq_true (by kernel_rfl)) (by unfold Func.isWrapper; first | (rw [if_pos (by decide +kernel)]; kernel_rfl) | (rw [if_neg (by decide +kernel)]; exact ⟨rfl, rfl⟩))
    (fun os started H enc _ => lifted os started H enc)

end Go.Proofs.Ytmfifaonbbeebaa.ringPlays

namespace Go.Proofs.Ytmfifaonbbeebaa
open Go
/-- The statement. -/
theorem ringPlays_holds : Rows.RingPlaysSaid := ringPlays.over
#print axioms ringPlays_holds
end Go.Proofs.Ytmfifaonbbeebaa
