/-
  Statement StateTexts of chapter 13 holds: two states have one text just if they are the same: any two, and one and it with one thing another one. Conditions: the listed tables stand as the program's text lays them.
-/
import Derived.Test.YtpnbpjhoilibcaaDoorRows
import Derived.Test.YtpnbpjhoilibcaaDoorCards
import Derived.Test.YtpnbpjhoilibcaaDoorTie
import Derived.Test.YtpnbpjhoilibcaaDoorStateLaid
import Derived.Test.YtpnbpjhoilibcaaDoorOpensState
import Derived.Test.YtpnbpjhoilibcaaDoorStateAlive
import Derived.Test.YtpnbpjhoilibcaaDoorStateSize
import Derived.Test.YtpnbpjhoilibcaaDoorStateBent
import Derived.Test.YtpnbpjhoilibcaaDoorAfter
import Derived.WalkKit
import Derived.ProofKit
import Derived.OpenShut
import Derived.SizedLaws
import Derived.ShutString
import Derived.Carry
import Derived.Stop.Joined
import Derived.SevenTiedAt
namespace Go.Proofs.YtpnbpjhoilibcaaDoor.stateTexts
open Go.ChangeShapes Go.WideShapes Go.ChangeAt Go.RowKit
open Go.ChangeMaps (open_string shut_string)
set_option linter.unusedVariables false
set_option linter.unusedSimpArgs false

theorem own : ownKnob Tryd.prog.godebug = none := by kernel_rfl
theorem laidOut : laidOutB Tryd.prog = true := by kernel_rfl

/-- Two states' texts are one just if the states are. -/
theorem text_eq (a b : MSt) : ((⟨(msL a).toArray⟩ : ByteArray).toList == (⟨(msL b).toArray⟩ : ByteArray).toList) = msEq a b := by
  have e : ∀ l : List UInt8, (⟨l.toArray⟩ : ByteArray).toList = l := fun l => by rw [ByteArray.toList_eq]
  rw [e, e, Bool.eq_iff_iff, beq_iff_eq]
  exact ms_text a b

set_option maxRecDepth 1000000 in
set_option maxHeartbeats 8000000 in
theorem walk (w : World) (g : Good w) (m t b : Value) (s : MSt) (hs : MsIn w m t b s) (m' t' b' : Value) (s' : MSt) (hs' : MsIn w m' t' b' s') (how : Int) (h1 : I64 how) (at_ : Int) (h2 : I64 at_) (by_ : Int) (h3 : I64 by_) :
    Calls Tryd.prog 4 #[.agg #[m, t, b, .int .i64 s.lock], .agg #[m', t', b', .int .i64 s'.lock], .int .i64 how, .int .i64 at_, .int .i64 by_] w fun e w' => e = .returned (.bool true) ∧ Later w w' := by
  have HG : Hid (TabGood w) := g
  have Hs : Hid (MsIn w m t b s) := hs
  obtain ⟨mp, mc, rfl, -, -⟩ := RowIn.slice hs.mem
  obtain ⟨tp, tc, rfl, -, -⟩ := RowIn.slice hs.thr
  obtain ⟨bp, bc, rfl, -, -⟩ := RowIn.slice hs.bufs
  have Hs' : Hid (MsIn w m' t' b' s') := hs'
  obtain ⟨mp', mc', rfl, -, -⟩ := RowIn.slice hs'.mem
  obtain ⟨tp', tc', rfl, -, -⟩ := RowIn.slice hs'.thr
  obtain ⟨bp', bc', rfl, -, -⟩ := RowIn.slice hs'.bufs
  have ok := hs.ok
  have ok' := hs'.ok
  clear hs hs' g
  have LL := Later.alloc (Later.alloc (Later.refl w) (.cells #[.slice mp s.mem.length mc, .slice tp s.thr.length tc, .slice bp s.bufs.length bc, .int .i64 s.lock] 26)) (.cells #[.slice mp' s'.mem.length mc', .slice tp' s'.thr.length tc', .slice bp' s'.bufs.length bc', .int .i64 s'.lock] 26)
  obtain ⟨HB, HC⟩ := two_new2 w (.cells #[.slice mp s.mem.length mc, .slice tp s.thr.length tc, .slice bp s.bufs.length bc, .int .i64 s.lock] 26) (.cells #[.slice mp' s'.mem.length mc', .slice tp' s'.thr.length tc', .slice bp' s'.bufs.length bc', .int .i64 s'.lock] 26)
  have hsz : (w.alloc (.cells #[.slice mp s.mem.length mc, .slice tp s.thr.length tc, .slice bp s.bufs.length bc, .int .i64 s.lock] 26)).heap.size = w.heap.size + 1 := by simp
  have cG := fun w' (hl : Later w w') => greatState_any w' _ _ _ s (Hs.out.later hl)
  have cG' := fun w' (hl : Later w w') => greatState_any w' _ _ _ s' (Hs'.out.later hl)
  have cA := fun w' (hl : Later w w') => stateAlive_any w' (HG.out.later hl)
  go_enter Tryd.func4, Tryd.ntmps4
  go_upto_region 1 with (fail)
  generalize (w.alloc (.cells #[.slice mp s.mem.length mc, .slice tp s.thr.length tc, .slice bp s.bufs.length bc, .int .i64 s.lock] 26)).alloc (.cells #[.slice mp' s'.mem.length mc', .slice tp' s'.thr.length tc', .slice bp' s'.bufs.length bc', .int .i64 s'.lock] 26) = W at *
  clear hsz
  obtain ⟨a0, a1, a2, a3, -⟩ := box4_facts HB
  obtain ⟨b0, b1, b2, b3, -⟩ := box4_facts HC
  cases hg : greatMF s with
  | true =>
    rw [hg] at cG
    clear hg
    go_wp2_with (first
      | (go_at_call 7; apply Calls.mono; (focus (with_reducible (exact cG _ LL))); rintro e w1 ⟨rfl, hl⟩; replace LL := Later.trans LL hl; replace HB := heap_later hl HB; replace HC := heap_later hl HC; obtain ⟨b0, b1, b2, b3, -⟩ := box4_facts HC; clear hl cG)
      | (go_at_call 8; apply Calls.mono; (focus (with_reducible (exact cA _ LL))); rintro e w2 ⟨rfl, hl⟩))
    go_ret
    exact ⟨rfl, LL.trans hl⟩
  | false =>
  rw [hg] at cG
  cases hg' : greatMF s' with
  | true =>
    rw [hg'] at cG'
    clear hg hg'
    go_wp2_with (first
      | (go_at_call 7; apply Calls.mono; (focus (with_reducible (exact cG _ LL))); rintro e w1 ⟨rfl, hl⟩; replace LL := Later.trans LL hl; replace HB := heap_later hl HB; replace HC := heap_later hl HC; obtain ⟨b0, b1, b2, b3, -⟩ := box4_facts HC; clear hl cG)
      | (go_at_call 7; apply Calls.mono; (focus (with_reducible (exact cG' _ LL))); rintro e w1 ⟨rfl, hl⟩; replace LL := Later.trans LL hl; replace HB := heap_later hl HB; replace HC := heap_later hl HC; obtain ⟨b0, b1, b2, b3, -⟩ := box4_facts HC; clear hl cG')
      | (go_at_call 8; apply Calls.mono; (focus (with_reducible (exact cA _ LL))); rintro e w2 ⟨rfl, hl⟩))
    go_ret
    exact ⟨rfl, LL.trans hl⟩
  | false =>
  rw [hg'] at cG'
  have k := ms_small ok hg
  have k' := ms_small ok' hg'
  have cB := fun w' (hl : Later w w') => stBent_any w' _ _ _ s (Hs.out.later hl) hg how at_ by_ h1 h2 h3
  clear hg' ok ok'
  go_upto_region 3 with (first
    | (go_at_call 7; apply Calls.mono; (focus (with_reducible (exact cG _ LL))); rintro e w1 ⟨rfl, hl⟩; replace LL := Later.trans LL hl; replace HB := heap_later hl HB; replace HC := heap_later hl HC; obtain ⟨b0, b1, b2, b3, -⟩ := box4_facts HC; clear hl cG)
    | (go_at_call 7; apply Calls.mono; (focus (with_reducible (exact cG' _ LL))); rintro e w1 ⟨rfl, hl⟩; replace LL := Later.trans LL hl; replace HB := heap_later hl HB; replace HC := heap_later hl HC; obtain ⟨b0, b1, b2, b3, -⟩ := box4_facts HC; clear hl cG'))
  clear hg
  have L3 : Later w w1 := LL
  clear a0 a1 a2 a3 b0 b1 b2 b3
  obtain ⟨a0, a1, a2, a3, -⟩ := box4_facts HB
  go_upto_region 4 with (go_at_call 15; apply Calls.mono; (focus (with_reducible (exact cB _ LL))); rintro e w3 ⟨m2, t2, b2, s2, rfl, hs2, k2, hl⟩; obtain ⟨mp2, mc2, rfl, -, -⟩ := RowIn.slice hs2.mem; obtain ⟨tp2, tc2, rfl, -, -⟩ := RowIn.slice hs2.thr; obtain ⟨bp2, bc2, rfl, -, -⟩ := RowIn.slice hs2.bufs)
  have la := Later.alloc (Later.refl w3) (.cells #[.slice mp2 s2.mem.length mc2, .slice tp2 s2.thr.length tc2, .slice bp2 s2.bufs.length bc2, .int .i64 s2.lock] 26)
  have HD := at_new w3 (.cells #[.slice mp2 s2.mem.length mc2, .slice tp2 s2.thr.length tc2, .slice bp2 s2.bufs.length bc2, .int .i64 s2.lock] 26)
  have Hs2 := Lib.hid (hs2.later la)
  replace LL := LL.trans (hl.trans la)
  replace HB := heap_later (hl.trans la) HB
  replace HC := heap_later (hl.trans la) HC
  clear hs2 la hl cB L3 a0 a1 a2 a3 h1 h2 h3
  generalize w3.heap.size = D at *
  generalize w3.alloc (.cells #[.slice mp2 s2.mem.length mc2, .slice tp2 s2.thr.length tc2, .slice bp2 s2.bufs.length bc2, .int .i64 s2.lock] 26) = w2 at *
  obtain ⟨a0, a1, a2, a3, -⟩ := box4_facts HB
  obtain ⟨b0, b1, b2, b3, -⟩ := box4_facts HC
  obtain ⟨c0, c1, c2, c3, -⟩ := box4_facts HD
  have ne : Nonempty (After w2) := ⟨⟨w2, Later.refl w2⟩⟩
  have ma0 := fun p : After w2 => cell_after a0 p
  have ma1 := fun p : After w2 => cell_after a1 p
  have ma2 := fun p : After w2 => cell_after a2 p
  have ma3 := fun p : After w2 => cell_after a3 p
  have mb0 := fun p : After w2 => cell_after b0 p
  have mb1 := fun p : After w2 => cell_after b1 p
  have mb2 := fun p : After w2 => cell_after b2 p
  have mb3 := fun p : After w2 => cell_after b3 p
  have mc0 := fun p : After w2 => cell_after c0 p
  have mc1 := fun p : After w2 => cell_after c1 p
  have mc2 := fun p : After w2 => cell_after c2 p
  have mc3 := fun p : After w2 => cell_after c3 p
  have d0 := fun p : After w2 => stateText_any p.world _ _ _ s (Hs.out.later (LL.trans p.later)) (HG.out.later (LL.trans p.later)) (by omega)
  have d1 := fun p : After w2 => stateText_any p.world _ _ _ s' (Hs'.out.later (LL.trans p.later)) (HG.out.later (LL.trans p.later)) (by omega)
  have d2 := fun p : After w2 => stateText_any p.world _ _ _ s2 (Hs2.out.later p.later) (HG.out.later (LL.trans p.later)) (by omega)
  have d3 := fun p : After w2 => same_any p.world _ _ _ _ _ _ s s' (Hs.out.later (LL.trans p.later)) (Hs'.out.later (LL.trans p.later))
  have d4 := fun p : After w2 => same_any p.world _ _ _ _ _ _ s s2 (Hs.out.later (LL.trans p.later)) (Hs2.out.later p.later)
  have d5 := fun p : After w2 => refSame_any p.world _ _ _ _ _ _ s s2 (Hs.out.later (LL.trans p.later)) (Hs2.out.later p.later)
  have d6 := fun p : After w2 => cA p.world (LL.trans p.later)
  have q1 := text_eq s s'
  have q2 := text_eq s s2
  generalize msEq s s' = x0 at *
  generalize msEq s s2 = x1 at *
  generalize (⟨(msL s).toArray⟩ : ByteArray) = T at *
  generalize (⟨(msL s').toArray⟩ : ByteArray) = T' at *
  generalize (⟨(msL s2).toArray⟩ : ByteArray) = T2 at *
  have q3 : (x0 == x0) = true := by simp
  have q4 : (x1 == x1) = true := by simp
  clear a0 a1 a2 a3 b0 b1 b2 b3 c0 c1 c2 c3 cA HB HC HD k k' k2
  refine wp_region_later (by kernel_rfl) (by kernel_rfl) ?_
  repeat (first | go_big_quiet_step ((first | (go_at_call 11; with_reducible (first | exact Calls.after_of (d0 _) | exact Calls.after_of (d1 _) | exact Calls.after_of (d2 _))) | (go_at_call 9; with_reducible (first | exact Calls.after_of (d3 _) | exact Calls.after_of (d4 _))) | (go_at_call 10; with_reducible (exact Calls.after_of (d5 _))) | (go_at_call 8; with_reducible (exact Calls.after_of (d6 _))))) | quiet_step ((first | (go_at_call 11; with_reducible (first | exact Calls.after_of (d0 _) | exact Calls.after_of (d1 _) | exact Calls.after_of (d2 _))) | (go_at_call 9; with_reducible (first | exact Calls.after_of (d3 _) | exact Calls.after_of (d4 _))) | (go_at_call 10; with_reducible (exact Calls.after_of (d5 _))) | (go_at_call 8; with_reducible (exact Calls.after_of (d6 _))))))
  refine wpQuiet_nil ?_
  intro _ hw'
  obtain ⟨z, hw''⟩ := hw'
  subst hw''
  clear ma0 ma1 ma2 ma3 mb0 mb1 mb2 mb3 mc0 mc1 mc2 mc3 d0 d1 d2 d3 d4 d5 d6
  go_wp2
  go_ret
  exact ⟨rfl, LL.trans z.later⟩

set_option maxRecDepth 100000 in
theorem lifted (os : Os) (started : os.Started) (H : Type) (enc : TypeId × Value → H) :
    ReturnsInHanded {} Tryd.checked os 4 .any (fun w args => (Rows.stateTextsSpec.pre enc Tryd.prog Tryd.f4 [] false w args ∧ laidMetH Tryd.prog theList w) ∧ sizedMet enc Tryd.prog Tryd.f4 (OpenSpec.ofChange Rows.stateTextsSpec) false w args)
      (Rows.stateTextsSpec.post enc Tryd.prog Tryd.f4 false true false false) := by
  refine returnsInHanded_of_change_and (C := Tryd.checked) (X := fun w _ => laidMetH Tryd.prog theList w) (fun _ _ _ hh h => h.of_heap hh) own started (by kernel_rfl) Tryd.func4
    (ChangeSpec.witness_shaped (enc := enc) (C := Tryd.checked) (os := os) (X := fun w _ => laidMetH Tryd.prog theList w) false (World.laidAll Tryd.prog os theList) #[.agg #[.slice none 0 0, .slice none 0 0, .slice none 0 0, .int .i64 0], .agg #[.slice none 0 0, .slice none 0 0, .slice none 0 0, .int .i64 0], .int .i64 0, .int .i64 0, .int .i64 0] 8 (World.laidAll_os _ _ _) (World.shaped_of_ZipB (by kernel_rfl) (by kernel_rfl)) (by kernel_rfl) (by kernel_rfl) (by kernel_rfl) (door_met os _)) ?_
  intro W base args ds gs before hval0 hW _ hsz0 hL _
  have hsz : (DataW.weightsEach Tryd.prog (Tryd.f4.params.toList ++ Rows.stateTextsSpec.plain.varTypes Tryd.prog) (ds ++ gs)).all (· ≤ reachBytes) = true := hsz0
  clear hsz0
  have hval : ∀ (j : Nat) t v, Tryd.f4.params[j]? = some t → args[j]? = some v → Value.okWide Tryd.prog W .any base t v := hval0
  have hW' := hW
  obtain ⟨p, q, hA0, hV, rfl, hfz, hnd⟩ := hW
  have hA : DataW.TrodAll enc Tryd.prog W 0 (fun _ => true) true Tryd.f4.params.toList args.toList ds p := hA0
  rw [Tryd.params4] at hA hval hsz
  obtain ⟨v0, vs0, d0, ds0, p0, q0, hargs, rfl, rfl, h0, r0⟩ := trodAll_cons hA
  obtain ⟨v1, vs1, d1, ds1, p1, q1, rfl, rfl, rfl, h1, r1⟩ := trodAll_cons r0
  obtain ⟨v2, vs2, d2, ds2, p2, q2, rfl, rfl, rfl, h2, r2⟩ := trodAll_cons r1
  obtain ⟨v3, vs3, d3, ds3, p3, q3, rfl, rfl, rfl, h3, r3⟩ := trodAll_cons r2
  obtain ⟨v4, vs4, d4, ds4, p4, q4, rfl, rfl, rfl, h4, r4⟩ := trodAll_cons r3
  obtain ⟨rfl, rfl, rfl⟩ := trodAll_nil r4
  obtain rfl : args = #[v0, v1, v2, v3, v4] := by cases args; simp_all
  obtain ⟨rfl, rfl⟩ := trodVars_none hV
  simp only [List.append_nil] at hW'
  have h0k := h0
  have hlt0 : ∀ x ∈ p0, x.block < W.heap.size := fun x hx => by simpa using hW'.lt x (by simp [hx])
  obtain ⟨m0, t0, b0, s0, rfl, is0⟩ := open_state (hval 0 26 v0 rfl rfl) h0
  have h1k := h1
  have hlt1 : ∀ x ∈ p1, x.block < W.heap.size := fun x hx => by simpa using hW'.lt x (by simp [hx])
  obtain ⟨m1, t1, b1, s1, rfl, is1⟩ := open_state (hval 1 26 v1 rfl rfl) h1
  obtain ⟨a2, rfl, rfl, rfl, w2⟩ := open_int Tryd.underlying3 (hval 2 3 v2 rfl rfl) h2
  obtain ⟨a3, rfl, rfl, rfl, w3⟩ := open_int Tryd.underlying3 (hval 3 3 v3 rfl rfl) h3
  obtain ⟨a4, rfl, rfl, rfl, w4⟩ := open_int Tryd.underlying2 (hval 4 2 v4 rfl rfl) h4
  clear hA0 hval0
  refine (walk W (Good.of_laid hL) m0 t0 b0 s0 is0 m1 t1 b1 s1 is1 a2 (int64_of_wf w2) a3 (int64_of_wf w3) a4 (int64_of_wf w4)).mono fun e W' ⟨he, hnx⟩ => ?_
  subst he
  refine ⟨_, rfl, _, _, _, [], (p0 ++ (p1 ++ ([] ++ ([] ++ ([] ++ []))))), [], hW', ?_, ?_, rfl, Below.frame hnx _, fun h => by cases h⟩
  · exact (trodAll_cons_mk (shut_bool Tryd.underlying4 _) trodAll_mk0)
  · exact (trodAll_cons_mk (Below.trod laidOut (by kernel_rfl) (of_decide_eq_true (by kernel_rfl)) h0k hnx hlt0) (trodAll_cons_mk (Below.trod laidOut (by kernel_rfl) (of_decide_eq_true (by kernel_rfl)) h1k hnx hlt1) (trodAll_cons_mk (shut_int Tryd.underlying3 w2) (trodAll_cons_mk (shut_int Tryd.underlying3 w3) (trodAll_cons_mk (shut_int Tryd.underlying2 w4) trodAll_mk0)))))

theorem over : Rows.stateTextsRow.holds Tryd.pinned (OpenSpec.ofChange Rows.stateTextsSpec) :=
  OpenClaim.holds_of_wide 4 Tryd.f4 rfl rfl rfl rfl rfl rfl rfl ⟨rfl, rfl, rfl, rfl, rfl⟩ rfl rfl rfl rfl rfl (by kernel_rfl) Tryd.func4 (by kernel_rfl)
    (of_decide_eq_true (by kernel_rfl)) (by unfold Func.isWrapper; first | (rw [if_pos (by decide +kernel)]; kernel_rfl) | (rw [if_neg (by decide +kernel)]; exact ⟨rfl, rfl⟩))
    (fun os started H enc _ => lifted os started H enc)

end Go.Proofs.YtpnbpjhoilibcaaDoor.stateTexts

namespace Go.Proofs.YtpnbpjhoilibcaaDoor
open Go
/-- The statement: the row, with its listed variables tied to the program's text. -/
theorem stateTexts_holds : Rows.StateTextsCardSaid :=
  Claim7.holds_tied_plain_at .later [] [.data, .data, .data] true Rows.stateTextsCard.stood.harness false
    stateTexts.over (fun _ h => by cases h) (by kernel_rfl) (fun _ h => by cases h) stateTexts_row_tie rfl ⟨rfl, rfl⟩ (by kernel_rfl) rfl
    (fun f fn hf hfn => by
      obtain rfl : f = 4 := Option.some.inj ((show Tryd.prog.funcNamed Rows.stateTextsRow.func = some 4 by kernel_rfl).symm.trans hf) |>.symm
      obtain rfl : fn = Tryd.f4 := (Option.some.inj (Tryd.func4.symm.trans hfn)).symm
      exact ⟨by kernel_rfl, fun j t ht => by
        rw [Tryd.params4] at ht
        have hm : t ∈ [26, 26, 3, 3, 2] := by simpa using Array.mem_of_getElem? ht
        have hall : ([26, 26, 3, 3, 2].all fun u => !Tryd.prog.wantsStandIn u) = true := by kernel_rfl
        exact (show Tryd.prog.wantsStandIn t = false by simpa using List.all_eq_true.1 hall t hm)⟩)
    (by kernel_rfl)
#print axioms stateTexts_holds
end Go.Proofs.YtpnbpjhoilibcaaDoor
