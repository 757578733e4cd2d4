/-
  For every input: the statement's function returns true and nothing that was in memory turns. Conditions: none.
-/
import Derived.Test.YtmfifaonbbeebaaRows
import Derived.Test.YtmfifaonbbeebaaRingOne
import Derived.Test.YtmfifaonbbeebaaOpensRing
import Derived.Test.YtmfifaonbbeebaaPick
import Derived.WalkKit
import Derived.ProofKit
import Derived.OpenShut
import Derived.SizedLaws
import Derived.ShutString
import Derived.Carry
import Derived.Stop.Joined
namespace Go.Proofs.Ytmfifaonbbeebaa.ringNewest
open Go.ChangeShapes Go.WideShapes Go.ChangeAt Go.RowKit
open Go.ChangeMaps (open_string shut_string)
set_option linter.unusedVariables false
set_option linter.unusedSimpArgs false

theorem own : ownKnob Try.prog.godebug = none := by kernel_rfl
theorem laidOut : laidOutB Try.prog = true := by kernel_rfl

theorem last_form (L : List (Int × Int)) (a : Int) : ∃ v b, lastV (lastF L a) = .tuple #[.int .i64 v, .bool b] := by
  cases lastF L a with
  | none => exact ⟨0, false, rfl⟩
  | some v => exact ⟨v, true, rfl⟩

set_option maxRecDepth 1000000 in
set_option maxHeartbeats 4000000 in
theorem walk (w : World) (u : Value) (L : List (Int × Int)) (hL : EntRow w u L) (x : Int × Int) (a : Int) (ha : I64 a) :
    Calls Try.prog 7 #[u, entV x, .int .i64 a] w fun e w' => e = .returned (.bool true) ∧ Later w w' := by
  obtain ⟨xa, xv⟩ := x
  obtain ⟨lp, lcap, rfl, hc1, hc2⟩ := hL.slice
  unfold maxLen at hc2
  unfold entV
  dsimp only
  have LL := Later.alloc (Later.refl w) (.cells #[.int .i64 xa, .int .i64 xv] 31)
  have HB := at_new w (.cells #[.int .i64 xa, .int .i64 xv] 31)
  have HL : Hid (EntRow (w.alloc (.cells #[.int .i64 xa, .int .i64 xv] 31)) (.slice lp L.length lcap) L) := hL.later LL
  clear hL
  by_cases h40 : (40 : Int) < (L.length : Int)
  · clear HL HB
    go_enter Try.func7, Try.ntmps7
    go_upto_region 1 with (fail)
    generalize w.alloc (.cells #[.int .i64 xa, .int .i64 xv] 31) = W at *
    go_wp2_with (go_at_call 9; refine (ringAlive_any _).mono ?_; rintro e w7 ⟨rfl, h7⟩)
    go_ret
    exact ⟨rfl, LL.trans h7⟩
  · go_enter Try.func7, Try.ntmps7
    go_upto_region 1 with (fail)
    generalize w.alloc (.cells #[.int .i64 xa, .int .i64 xv] 31) = W at *
    go_wp2_with (go_at_call 8; refine (one_new W _ (Later.refl W)).mono ?_; rintro e w1 ⟨p, rfl, h1, -⟩)
    go_loopw [8] (fun vi wr => ∃ i : Nat, vi = .int .i64 (i : Nat) ∧ i ≤ L.length ∧ Hid (One W wr p (L.take i) i)) (fun vi _ => L.length - (intOf vi).toNat)
    case atStart => exact ⟨0, rfl, by omega, h1⟩
    case round =>
      clear h1
      obtain ⟨i, rfl, hi, hO⟩ := hrel
      by_cases h8 : i < L.length
      · obtain ⟨y, hy⟩ : ∃ y, L[i]? = some y := ⟨_, List.getElem?_eq_getElem h8⟩
        obtain ⟨g, o, rfl, y0, y1⟩ := (HL.out.later hO.out.all).get hy
        have hnext : L.take i ++ [y] = L.take (i + 1) := by rw [List.take_add_one, hy]; rfl
        have c := one_push W wr p y (L.take i) i hO.out (by omega)
        rw [hnext] at c
        clear HL HB hO
        go_wp2_with (go_at_call 11; refine c.mono ?_; rintro e w2 ⟨rfl, h2⟩)
        go_roundw
        case rel => exact ⟨i + 1, by go_num, by omega, h2⟩
        case measure => simp [intOf] <;> omega
      · obtain rfl : i = L.length := by omega
        have h1 : One W wr p L L.length := by have := hO.out; rwa [List.take_length] at this
        obtain ⟨n, hn⟩ : ∃ n, L.length = n := ⟨_, rfl⟩
        obtain ⟨v1, b1, e1⟩ := last_form L a
        have e2 : lastV (lastF (L ++ [(xa, xv)]) xa) = .tuple #[.int .i64 xv, .bool true] := by rw [lastF_snoc, if_pos rfl]; rfl
        rw [hn] at h1 h40
        clear hO HL
        by_cases hxa : xa = a
        · subst hxa
          have e3 := e2
          go_wp2_with (first
            | (go_at_call 18; refine (one_last W _ p L n xa h1 (by omega)).mono ?_; rintro e w3 ⟨rfl, h3⟩; rw [e1]; clear h1; obtain ⟨k0, k1, -⟩ := box2_facts (heap_later h3.all HB))
            | (go_at_call 11; refine (one_push W _ p (xa, xv) L n h3 (by omega)).mono ?_; rintro e w4 ⟨rfl, h4⟩; clear h3; obtain ⟨l0, l1, -⟩ := box2_facts (heap_later h4.all HB))
            | (go_at_call 18; refine (one_last W _ p (L ++ [(xa, xv)]) _ xa h4 (by omega)).mono ?_; rintro e w5 ⟨rfl, h5⟩; rw [e2]; clear h4)
            | (go_at_call 18; refine (one_last W _ p (L ++ [(xa, xv)]) _ xa h5 (by omega)).mono ?_; rintro e w6 ⟨rfl, h6⟩; rw [e3]; clear h5; obtain ⟨m0, m1, -⟩ := box2_facts (heap_later h6.all HB))
            | (go_at_call 9; refine (ringAlive_any _).mono ?_; rintro e w7 ⟨rfl, h7⟩))
          go_ret
          exact ⟨rfl, LL.trans (h6.all.trans h7)⟩
        · have e3 : lastV (lastF (L ++ [(xa, xv)]) a) = .tuple #[.int .i64 v1, .bool b1] := by rw [lastF_snoc, if_neg hxa]; exact e1
          have hax : (a == xa) = false := by simpa using fun h => hxa h.symm
          go_wp2_with (first
            | (go_at_call 18; refine (one_last W _ p L n a h1 (by omega)).mono ?_; rintro e w3 ⟨rfl, h3⟩; rw [e1]; clear h1; obtain ⟨k0, k1, -⟩ := box2_facts (heap_later h3.all HB))
            | (go_at_call 11; refine (one_push W _ p (xa, xv) L n h3 (by omega)).mono ?_; rintro e w4 ⟨rfl, h4⟩; clear h3; obtain ⟨l0, l1, -⟩ := box2_facts (heap_later h4.all HB))
            | (go_at_call 18; refine (one_last W _ p (L ++ [(xa, xv)]) _ xa h4 (by omega)).mono ?_; rintro e w5 ⟨rfl, h5⟩; rw [e2]; clear h4)
            | (go_at_call 18; refine (one_last W _ p (L ++ [(xa, xv)]) _ a h5 (by omega)).mono ?_; rintro e w6 ⟨rfl, h6⟩; rw [e3]; clear h5; obtain ⟨m0, m1, -⟩ := box2_facts (heap_later h6.all HB))
            | (go_at_call 9; refine (ringAlive_any _).mono ?_; rintro e w7 ⟨rfl, h7⟩))
          go_ret
          exact ⟨rfl, LL.trans (h6.all.trans h7)⟩

set_option maxRecDepth 100000 in
theorem lifted (os : Os) (started : os.Started) (H : Type) (enc : TypeId × Value → H) :
    ReturnsInHanded {} Try.checked os 7 .any (Rows.ringNewestSpec.pre6 enc Try.prog Try.f7 Rows.ringNewestRow.domain false)
      (Rows.ringNewestSpec.post enc Try.prog Try.f7 false true false false) := by
  refine returnsInHanded_of_change (C := Try.checked) own started (by kernel_rfl) Try.func7
    (ChangeSpec.witness6 (enc := enc) (C := Try.checked) false ⟨#[], #[.slice none 0 0, .agg #[.int .i64 0, .int .i64 0], .int .i64 0], []⟩ 8 (by kernel_rfl) (by kernel_rfl) (by kernel_rfl) (by kernel_rfl)) ?_
  intro W base args ds gs before hval0 hW _ _
  have hval : ∀ (j : Nat) t v, Try.f7.params[j]? = some t → args[j]? = some v → Value.okWide Try.prog W .any base t v := hval0
  have hW' := hW
  obtain ⟨p, q, hA0, hV, rfl, hfz, hnd⟩ := hW
  have hA : DataW.TrodAll enc Try.prog W 0 (fun _ => true) true Try.f7.params.toList args.toList ds p := hA0
  rw [Try.params7] at hA hval
  obtain ⟨v0, vs0, d0, ds0, p0, q0, hargs, rfl, rfl, h0, r0⟩ := trodAll_cons hA
  obtain ⟨v1, vs1, d1, ds1, p1, q1, rfl, rfl, rfl, h1, r1⟩ := trodAll_cons r0
  obtain ⟨v2, vs2, d2, ds2, p2, q2, rfl, rfl, rfl, h2, r2⟩ := trodAll_cons r1
  obtain ⟨rfl, rfl, rfl⟩ := trodAll_nil r2
  obtain rfl : args = #[v0, v1, v2] := by cases args; simp_all
  obtain ⟨rfl, rfl⟩ := trodVars_none hV
  simp only [List.append_nil] at hW'
  have h0k := h0
  have hlt0 : ∀ x ∈ p0, x.block < W.heap.size := fun x hx => by simpa using hW'.lt x (by simp [hx])
  obtain ⟨L0, el0⟩ := open_ents (hval 0 26 v0 rfl rfl) h0
  have h1k := h1
  have hlt1 : ∀ x ∈ p1, x.block < W.heap.size := fun x hx => by simpa using hW'.lt x (by simp [hx])
  obtain ⟨x1, rfl⟩ := open_ent (hval 1 31 v1 rfl rfl) h1
  obtain ⟨a2, rfl, rfl, rfl, w2⟩ := open_int Try.underlying3 (hval 2 3 v2 rfl rfl) h2
  clear hA0 hval0
  refine (walk W _ L0 el0 x1 a2 (int64_of_wf w2)).mono fun e W' ⟨he, hnx⟩ => ?_
  subst he
  refine ⟨_, rfl, _, _, _, [], (p0 ++ (p1 ++ ([] ++ []))), [], hW', ?_, ?_, rfl, Below.frame hnx _, fun h => by cases h⟩
  · exact (trodAll_cons_mk (shut_bool Try.underlying4 _) trodAll_mk0)
  · exact (trodAll_cons_mk (Below.trod laidOut (by kernel_rfl) (of_decide_eq_true (by kernel_rfl)) h0k hnx hlt0) (trodAll_cons_mk (Below.trod laidOut (by kernel_rfl) (of_decide_eq_true (by kernel_rfl)) h1k hnx hlt1) (trodAll_cons_mk (shut_int Try.underlying3 w2) trodAll_mk0)))

theorem over : Rows.ringNewestRow.holds Try.pinned (OpenSpec.ofChange Rows.ringNewestSpec) :=
  OpenClaim.holds_of_wide 7 Try.f7 rfl rfl rfl rfl rfl rfl rfl ⟨rfl, rfl, rfl, rfl, rfl⟩ rfl rfl rfl rfl rfl (by kernel_rfl) Try.func7 (by kernel_rfl)
    (of_decide_eq_true (by kernel_rfl)) (by unfold Func.isWrapper; first | (rw [if_pos (by decide +kernel)]; kernel_rfl) | (rw [if_neg (by decide +kernel)]; exact ⟨rfl, rfl⟩))
    (fun os started H enc _ => lifted os started H enc)

end Go.Proofs.Ytmfifaonbbeebaa.ringNewest

namespace Go.Proofs.Ytmfifaonbbeebaa
open Go
/-- The statement. -/
theorem ringNewest_holds : Rows.RingNewestSaid := ringNewest.over
#print axioms ringNewest_holds
end Go.Proofs.Ytmfifaonbbeebaa
