/-
  Statement StateSame of chapter 13 holds: sameness goes both ways, and over a third one. Conditions: the listed tables stand as the program's text lays them.
-/
import Derived.Test.YtpnbpjhoilibcaaDoorRows
import Derived.Test.YtpnbpjhoilibcaaDoorCards
import Derived.Test.YtpnbpjhoilibcaaDoorTie
import Derived.Test.YtpnbpjhoilibcaaDoorStateLaid
import Derived.Test.YtpnbpjhoilibcaaDoorOpensState
import Derived.Test.YtpnbpjhoilibcaaDoorStateAlive
import Derived.Test.YtpnbpjhoilibcaaDoorStateSize
import Derived.Test.YtpnbpjhoilibcaaDoorAfter
import Derived.WalkKit
import Derived.ProofKit
import Derived.OpenShut
import Derived.SizedLaws
import Derived.ShutString
import Derived.Carry
import Derived.Stop.Joined
import Derived.SevenTiedAt
namespace Go.Proofs.YtpnbpjhoilibcaaDoor.stateSame
open Go.ChangeShapes Go.WideShapes Go.ChangeAt Go.RowKit
open Go.ChangeMaps (open_string shut_string)
set_option linter.unusedVariables false
set_option linter.unusedSimpArgs false

theorem own : ownKnob Tryd.prog.godebug = none := by kernel_rfl
theorem laidOut : laidOutB Tryd.prog = true := by kernel_rfl

set_option maxRecDepth 1000000 in
set_option maxHeartbeats 8000000 in
theorem walk (w : World) (g : Good w) (m t b : Value) (s : MSt) (hs : MsIn w m t b s) (m' t' b' : Value) (s' : MSt) (hs' : MsIn w m' t' b' s') (m2 t2 b2 : Value) (s2 : MSt) (hs2 : MsIn w m2 t2 b2 s2) :
    Calls Tryd.prog 6 #[.agg #[m, t, b, .int .i64 s.lock], .agg #[m', t', b', .int .i64 s'.lock], .agg #[m2, t2, b2, .int .i64 s2.lock]] w fun e w' => e = .returned (.bool true) ∧ Later w w' := by
  have HG : Hid (TabGood w) := g
  have Hs : Hid (MsIn w m t b s) := hs
  obtain ⟨mp, mc, rfl, -, -⟩ := RowIn.slice hs.mem
  obtain ⟨tp, tc, rfl, -, -⟩ := RowIn.slice hs.thr
  obtain ⟨bp, bc, rfl, -, -⟩ := RowIn.slice hs.bufs
  have Hs' : Hid (MsIn w m' t' b' s') := hs'
  obtain ⟨mp', mc', rfl, -, -⟩ := RowIn.slice hs'.mem
  obtain ⟨tp', tc', rfl, -, -⟩ := RowIn.slice hs'.thr
  obtain ⟨bp', bc', rfl, -, -⟩ := RowIn.slice hs'.bufs
  have Hs2 : Hid (MsIn w m2 t2 b2 s2) := hs2
  obtain ⟨mp2, mc2, rfl, -, -⟩ := RowIn.slice hs2.mem
  obtain ⟨tp2, tc2, rfl, -, -⟩ := RowIn.slice hs2.thr
  obtain ⟨bp2, bc2, rfl, -, -⟩ := RowIn.slice hs2.bufs
  clear hs hs' hs2 g
  have e1 : (w.alloc (.cells #[.slice mp s.mem.length mc, .slice tp s.thr.length tc, .slice bp s.bufs.length bc, .int .i64 s.lock] 26)).heap.size = w.heap.size + 1 := by simp
  have e2 : ((w.alloc (.cells #[.slice mp s.mem.length mc, .slice tp s.thr.length tc, .slice bp s.bufs.length bc, .int .i64 s.lock] 26)).alloc (.cells #[.slice mp' s'.mem.length mc', .slice tp' s'.thr.length tc', .slice bp' s'.bufs.length bc', .int .i64 s'.lock] 26)).heap.size = w.heap.size + 1 + 1 := by simp
  have l0 := Later.alloc (Later.refl w) (.cells #[.slice mp s.mem.length mc, .slice tp s.thr.length tc, .slice bp s.bufs.length bc, .int .i64 s.lock] 26)
  have l1 := Later.alloc (Later.refl (w.alloc (.cells #[.slice mp s.mem.length mc, .slice tp s.thr.length tc, .slice bp s.bufs.length bc, .int .i64 s.lock] 26))) (.cells #[.slice mp' s'.mem.length mc', .slice tp' s'.thr.length tc', .slice bp' s'.bufs.length bc', .int .i64 s'.lock] 26)
  have l2 := Later.alloc (Later.refl ((w.alloc (.cells #[.slice mp s.mem.length mc, .slice tp s.thr.length tc, .slice bp s.bufs.length bc, .int .i64 s.lock] 26)).alloc (.cells #[.slice mp' s'.mem.length mc', .slice tp' s'.thr.length tc', .slice bp' s'.bufs.length bc', .int .i64 s'.lock] 26))) (.cells #[.slice mp2 s2.mem.length mc2, .slice tp2 s2.thr.length tc2, .slice bp2 s2.bufs.length bc2, .int .i64 s2.lock] 26)
  have HB := heap_later (l1.trans l2) (at_new w (.cells #[.slice mp s.mem.length mc, .slice tp s.thr.length tc, .slice bp s.bufs.length bc, .int .i64 s.lock] 26))
  have HC := heap_later l2 (at_new (w.alloc (.cells #[.slice mp s.mem.length mc, .slice tp s.thr.length tc, .slice bp s.bufs.length bc, .int .i64 s.lock] 26)) (.cells #[.slice mp' s'.mem.length mc', .slice tp' s'.thr.length tc', .slice bp' s'.bufs.length bc', .int .i64 s'.lock] 26))
  have HD := at_new ((w.alloc (.cells #[.slice mp s.mem.length mc, .slice tp s.thr.length tc, .slice bp s.bufs.length bc, .int .i64 s.lock] 26)).alloc (.cells #[.slice mp' s'.mem.length mc', .slice tp' s'.thr.length tc', .slice bp' s'.bufs.length bc', .int .i64 s'.lock] 26)) (.cells #[.slice mp2 s2.mem.length mc2, .slice tp2 s2.thr.length tc2, .slice bp2 s2.bufs.length bc2, .int .i64 s2.lock] 26)
  rw [e1] at HC
  rw [e2] at HD
  have LL := l0.trans (l1.trans l2)
  clear l0 l1 l2 e1 e2
  have cG := fun w' (hl : Later w w') => greatState_any w' _ _ _ s (Hs.out.later hl)
  have cG' := fun w' (hl : Later w w') => greatState_any w' _ _ _ s' (Hs'.out.later hl)
  have cG2 := fun w' (hl : Later w w') => greatState_any w' _ _ _ s2 (Hs2.out.later hl)
  have cA := fun w' (hl : Later w w') => stateAlive_any w' (HG.out.later hl)
  go_enter Tryd.func6, Tryd.ntmps6
  go_upto_region 1 with (fail)
  generalize ((w.alloc (.cells #[.slice mp s.mem.length mc, .slice tp s.thr.length tc, .slice bp s.bufs.length bc, .int .i64 s.lock] 26)).alloc (.cells #[.slice mp' s'.mem.length mc', .slice tp' s'.thr.length tc', .slice bp' s'.bufs.length bc', .int .i64 s'.lock] 26)).alloc (.cells #[.slice mp2 s2.mem.length mc2, .slice tp2 s2.thr.length tc2, .slice bp2 s2.bufs.length bc2, .int .i64 s2.lock] 26) = W at *
  obtain ⟨a0, a1, a2, a3, -⟩ := box4_facts HB
  obtain ⟨b0, b1, b2, b3, -⟩ := box4_facts HC
  obtain ⟨c0, c1, c2, c3, -⟩ := box4_facts HD
  cases hg : greatMF s with
  | true =>
    rw [hg] at cG
    clear hg
    go_wp2_with (first
      | (go_at_call 7; apply Calls.mono; (focus (with_reducible (exact cG _ LL))); rintro e w1 ⟨rfl, hl⟩; replace LL := Later.trans LL hl; replace HB := heap_later hl HB; replace HC := heap_later hl HC; replace HD := heap_later hl HD; obtain ⟨b0, b1, b2, b3, -⟩ := box4_facts HC; obtain ⟨c0, c1, c2, c3, -⟩ := box4_facts HD; clear hl cG)
      | (go_at_call 8; apply Calls.mono; (focus (with_reducible (exact cA _ LL))); rintro e w2 ⟨rfl, hl⟩))
    go_ret
    exact ⟨rfl, LL.trans hl⟩
  | false =>
  rw [hg] at cG
  cases hg' : greatMF s' with
  | true =>
    rw [hg'] at cG'
    clear hg hg'
    go_wp2_with (first
      | (go_at_call 7; apply Calls.mono; (focus (with_reducible (exact cG _ LL))); rintro e w1 ⟨rfl, hl⟩; replace LL := Later.trans LL hl; replace HB := heap_later hl HB; replace HC := heap_later hl HC; replace HD := heap_later hl HD; obtain ⟨b0, b1, b2, b3, -⟩ := box4_facts HC; obtain ⟨c0, c1, c2, c3, -⟩ := box4_facts HD; clear hl cG)
      | (go_at_call 7; apply Calls.mono; (focus (with_reducible (exact cG' _ LL))); rintro e w1 ⟨rfl, hl⟩; replace LL := Later.trans LL hl; replace HB := heap_later hl HB; replace HC := heap_later hl HC; replace HD := heap_later hl HD; obtain ⟨b0, b1, b2, b3, -⟩ := box4_facts HC; obtain ⟨c0, c1, c2, c3, -⟩ := box4_facts HD; clear hl cG')
      | (go_at_call 8; apply Calls.mono; (focus (with_reducible (exact cA _ LL))); rintro e w2 ⟨rfl, hl⟩))
    go_ret
    exact ⟨rfl, LL.trans hl⟩
  | false =>
  rw [hg'] at cG'
  cases hg2 : greatMF s2 with
  | true =>
    rw [hg2] at cG2
    clear hg hg' hg2
    go_wp2_with (first
      | (go_at_call 7; apply Calls.mono; (focus (with_reducible (exact cG _ LL))); rintro e w1 ⟨rfl, hl⟩; replace LL := Later.trans LL hl; replace HB := heap_later hl HB; replace HC := heap_later hl HC; replace HD := heap_later hl HD; obtain ⟨b0, b1, b2, b3, -⟩ := box4_facts HC; obtain ⟨c0, c1, c2, c3, -⟩ := box4_facts HD; clear hl cG)
      | (go_at_call 7; apply Calls.mono; (focus (with_reducible (exact cG' _ LL))); rintro e w1 ⟨rfl, hl⟩; replace LL := Later.trans LL hl; replace HB := heap_later hl HB; replace HC := heap_later hl HC; replace HD := heap_later hl HD; obtain ⟨b0, b1, b2, b3, -⟩ := box4_facts HC; obtain ⟨c0, c1, c2, c3, -⟩ := box4_facts HD; clear hl cG')
      | (go_at_call 7; apply Calls.mono; (focus (with_reducible (exact cG2 _ LL))); rintro e w1 ⟨rfl, hl⟩; replace LL := Later.trans LL hl; replace HB := heap_later hl HB; replace HC := heap_later hl HC; replace HD := heap_later hl HD; obtain ⟨b0, b1, b2, b3, -⟩ := box4_facts HC; obtain ⟨c0, c1, c2, c3, -⟩ := box4_facts HD; clear hl cG2)
      | (go_at_call 8; apply Calls.mono; (focus (with_reducible (exact cA _ LL))); rintro e w2 ⟨rfl, hl⟩))
    go_ret
    exact ⟨rfl, LL.trans hl⟩
  | false =>
  rw [hg2] at cG2
  clear hg hg' hg2
  go_upto_region 3 with (first
    | (go_at_call 7; apply Calls.mono; (focus (with_reducible (exact cG _ LL))); rintro e w1 ⟨rfl, hl⟩; replace LL := Later.trans LL hl; replace HB := heap_later hl HB; replace HC := heap_later hl HC; replace HD := heap_later hl HD; obtain ⟨b0, b1, b2, b3, -⟩ := box4_facts HC; obtain ⟨c0, c1, c2, c3, -⟩ := box4_facts HD; clear hl cG)
    | (go_at_call 7; apply Calls.mono; (focus (with_reducible (exact cG' _ LL))); rintro e w1 ⟨rfl, hl⟩; replace LL := Later.trans LL hl; replace HB := heap_later hl HB; replace HC := heap_later hl HC; replace HD := heap_later hl HD; obtain ⟨b0, b1, b2, b3, -⟩ := box4_facts HC; obtain ⟨c0, c1, c2, c3, -⟩ := box4_facts HD; clear hl cG')
    | (go_at_call 7; apply Calls.mono; (focus (with_reducible (exact cG2 _ LL))); rintro e w1 ⟨rfl, hl⟩; replace LL := Later.trans LL hl; replace HB := heap_later hl HB; replace HC := heap_later hl HC; replace HD := heap_later hl HD; obtain ⟨b0, b1, b2, b3, -⟩ := box4_facts HC; obtain ⟨c0, c1, c2, c3, -⟩ := box4_facts HD; clear hl cG2))
  obtain ⟨w2, hw2⟩ : ∃ w2, w1 = w2 := ⟨_, rfl⟩
  rw [hw2] at HB HC HD LL ⊢
  clear hw2 a0 a1 a2 a3 b0 b1 b2 b3 c0 c1 c2 c3
  obtain ⟨a0, a1, a2, a3, -⟩ := box4_facts HB
  obtain ⟨b0, b1, b2, b3, -⟩ := box4_facts HC
  obtain ⟨c0, c1, c2, c3, -⟩ := box4_facts HD
  have ne : Nonempty (After w2) := ⟨⟨w2, Later.refl w2⟩⟩
  have ma0 := fun p : After w2 => cell_after a0 p
  have ma1 := fun p : After w2 => cell_after a1 p
  have ma2 := fun p : After w2 => cell_after a2 p
  have ma3 := fun p : After w2 => cell_after a3 p
  have mb0 := fun p : After w2 => cell_after b0 p
  have mb1 := fun p : After w2 => cell_after b1 p
  have mb2 := fun p : After w2 => cell_after b2 p
  have mb3 := fun p : After w2 => cell_after b3 p
  have mc0 := fun p : After w2 => cell_after c0 p
  have mc1 := fun p : After w2 => cell_after c1 p
  have mc2 := fun p : After w2 => cell_after c2 p
  have mc3 := fun p : After w2 => cell_after c3 p
  have d0 := fun p : After w2 => same_any p.world _ _ _ _ _ _ s s (Hs.out.later (LL.trans p.later)) (Hs.out.later (LL.trans p.later))
  have d1 := fun p : After w2 => same_any p.world _ _ _ _ _ _ s s' (Hs.out.later (LL.trans p.later)) (Hs'.out.later (LL.trans p.later))
  have d2 := fun p : After w2 => same_any p.world _ _ _ _ _ _ s' s (Hs'.out.later (LL.trans p.later)) (Hs.out.later (LL.trans p.later))
  have d3 := fun p : After w2 => same_any p.world _ _ _ _ _ _ s' s2 (Hs'.out.later (LL.trans p.later)) (Hs2.out.later (LL.trans p.later))
  have d4 := fun p : After w2 => same_any p.world _ _ _ _ _ _ s s2 (Hs.out.later (LL.trans p.later)) (Hs2.out.later (LL.trans p.later))
  have d6 := fun p : After w2 => cA p.world (LL.trans p.later)
  rw [msEq_self] at d0
  rw [msEq_symm s' s] at d2
  have HT : Hid (msEq s s' = true → msEq s' s2 = true → msEq s s2 = true) := msEq_trans
  generalize msEq s s' = x0 at *
  generalize msEq s' s2 = x1 at *
  generalize msEq s s2 = x2 at *
  clear a0 a1 a2 a3 b0 b1 b2 b3 c0 c1 c2 c3 cA HB HC HD
  cases x0 with
  | false =>
    clear HT
    refine wp_region_later (by kernel_rfl) (by kernel_rfl) ?_
    repeat (first | go_big_quiet_step ((first | (go_at_call 9; with_reducible (first | exact Calls.after_of (d0 _) | exact Calls.after_of (d1 _) | exact Calls.after_of (d2 _) | exact Calls.after_of (d3 _) | exact Calls.after_of (d4 _))) | (go_at_call 8; with_reducible (exact Calls.after_of (d6 _))))) | quiet_step ((first | (go_at_call 9; with_reducible (first | exact Calls.after_of (d0 _) | exact Calls.after_of (d1 _) | exact Calls.after_of (d2 _) | exact Calls.after_of (d3 _) | exact Calls.after_of (d4 _))) | (go_at_call 8; with_reducible (exact Calls.after_of (d6 _))))))
    refine wpQuiet_nil ?_
    intro _ hw'
    obtain ⟨z, hw''⟩ := hw'
    subst hw''
    clear ma0 ma1 ma2 ma3 mb0 mb1 mb2 mb3 mc0 mc1 mc2 mc3 d0 d1 d2 d3 d4 d6
    go_wp2
    go_ret
    exact ⟨rfl, LL.trans z.later⟩
  | true =>
    cases x1 with
    | false =>
      clear HT
      refine wp_region_later (by kernel_rfl) (by kernel_rfl) ?_
      repeat (first | go_big_quiet_step ((first | (go_at_call 9; with_reducible (first | exact Calls.after_of (d0 _) | exact Calls.after_of (d1 _) | exact Calls.after_of (d2 _) | exact Calls.after_of (d3 _) | exact Calls.after_of (d4 _))) | (go_at_call 8; with_reducible (exact Calls.after_of (d6 _))))) | quiet_step ((first | (go_at_call 9; with_reducible (first | exact Calls.after_of (d0 _) | exact Calls.after_of (d1 _) | exact Calls.after_of (d2 _) | exact Calls.after_of (d3 _) | exact Calls.after_of (d4 _))) | (go_at_call 8; with_reducible (exact Calls.after_of (d6 _))))))
      refine wpQuiet_nil ?_
      intro _ hw'
      obtain ⟨z, hw''⟩ := hw'
      subst hw''
      clear ma0 ma1 ma2 ma3 mb0 mb1 mb2 mb3 mc0 mc1 mc2 mc3 d0 d1 d2 d3 d4 d6
      go_wp2
      go_ret
      exact ⟨rfl, LL.trans z.later⟩
    | true =>
      obtain rfl : x2 = true := HT.out rfl rfl
      clear HT
      refine wp_region_later (by kernel_rfl) (by kernel_rfl) ?_
      repeat (first | go_big_quiet_step ((first | (go_at_call 9; with_reducible (first | exact Calls.after_of (d0 _) | exact Calls.after_of (d1 _) | exact Calls.after_of (d2 _) | exact Calls.after_of (d3 _) | exact Calls.after_of (d4 _))) | (go_at_call 8; with_reducible (exact Calls.after_of (d6 _))))) | quiet_step ((first | (go_at_call 9; with_reducible (first | exact Calls.after_of (d0 _) | exact Calls.after_of (d1 _) | exact Calls.after_of (d2 _) | exact Calls.after_of (d3 _) | exact Calls.after_of (d4 _))) | (go_at_call 8; with_reducible (exact Calls.after_of (d6 _))))))
      refine wpQuiet_nil ?_
      intro _ hw'
      obtain ⟨z, hw''⟩ := hw'
      subst hw''
      clear ma0 ma1 ma2 ma3 mb0 mb1 mb2 mb3 mc0 mc1 mc2 mc3 d0 d1 d2 d3 d4 d6
      go_wp2
      go_ret
      exact ⟨rfl, LL.trans z.later⟩

set_option maxRecDepth 100000 in
theorem lifted (os : Os) (started : os.Started) (H : Type) (enc : TypeId × Value → H) :
    ReturnsInHanded {} Tryd.checked os 6 .any (fun w args => (Rows.stateSameSpec.pre enc Tryd.prog Tryd.f6 [] false w args ∧ laidMetH Tryd.prog theList w) ∧ sizedMet enc Tryd.prog Tryd.f6 (OpenSpec.ofChange Rows.stateSameSpec) false w args)
      (Rows.stateSameSpec.post enc Tryd.prog Tryd.f6 false true false false) := by
  refine returnsInHanded_of_change_and (C := Tryd.checked) (X := fun w _ => laidMetH Tryd.prog theList w) (fun _ _ _ hh h => h.of_heap hh) own started (by kernel_rfl) Tryd.func6
    (ChangeSpec.witness_shaped (enc := enc) (C := Tryd.checked) (os := os) (X := fun w _ => laidMetH Tryd.prog theList w) false (World.laidAll Tryd.prog os theList) #[.agg #[.slice none 0 0, .slice none 0 0, .slice none 0 0, .int .i64 0], .agg #[.slice none 0 0, .slice none 0 0, .slice none 0 0, .int .i64 0], .agg #[.slice none 0 0, .slice none 0 0, .slice none 0 0, .int .i64 0]] 8 (World.laidAll_os _ _ _) (World.shaped_of_ZipB (by kernel_rfl) (by kernel_rfl)) (by kernel_rfl) (by kernel_rfl) (by kernel_rfl) (door_met os _)) ?_
  intro W base args ds gs before hval0 hW _ hsz0 hL _
  have hsz : (DataW.weightsEach Tryd.prog (Tryd.f6.params.toList ++ Rows.stateSameSpec.plain.varTypes Tryd.prog) (ds ++ gs)).all (· ≤ reachBytes) = true := hsz0
  clear hsz0
  have hval : ∀ (j : Nat) t v, Tryd.f6.params[j]? = some t → args[j]? = some v → Value.okWide Tryd.prog W .any base t v := hval0
  have hW' := hW
  obtain ⟨p, q, hA0, hV, rfl, hfz, hnd⟩ := hW
  have hA : DataW.TrodAll enc Tryd.prog W 0 (fun _ => true) true Tryd.f6.params.toList args.toList ds p := hA0
  rw [Tryd.params6] at hA hval hsz
  obtain ⟨v0, vs0, d0, ds0, p0, q0, hargs, rfl, rfl, h0, r0⟩ := trodAll_cons hA
  obtain ⟨v1, vs1, d1, ds1, p1, q1, rfl, rfl, rfl, h1, r1⟩ := trodAll_cons r0
  obtain ⟨v2, vs2, d2, ds2, p2, q2, rfl, rfl, rfl, h2, r2⟩ := trodAll_cons r1
  obtain ⟨rfl, rfl, rfl⟩ := trodAll_nil r2
  obtain rfl : args = #[v0, v1, v2] := by cases args; simp_all
  obtain ⟨rfl, rfl⟩ := trodVars_none hV
  simp only [List.append_nil] at hW'
  have h0k := h0
  have hlt0 : ∀ x ∈ p0, x.block < W.heap.size := fun x hx => by simpa using hW'.lt x (by simp [hx])
  obtain ⟨m0, t0, b0, s0, rfl, is0⟩ := open_state (hval 0 26 v0 rfl rfl) h0
  have h1k := h1
  have hlt1 : ∀ x ∈ p1, x.block < W.heap.size := fun x hx => by simpa using hW'.lt x (by simp [hx])
  obtain ⟨m1, t1, b1, s1, rfl, is1⟩ := open_state (hval 1 26 v1 rfl rfl) h1
  have h2k := h2
  have hlt2 : ∀ x ∈ p2, x.block < W.heap.size := fun x hx => by simpa using hW'.lt x (by simp [hx])
  obtain ⟨m2, t2, b2, s2, rfl, is2⟩ := open_state (hval 2 26 v2 rfl rfl) h2
  clear hA0 hval0
  refine (walk W (Good.of_laid hL) m0 t0 b0 s0 is0 m1 t1 b1 s1 is1 m2 t2 b2 s2 is2).mono fun e W' ⟨he, hnx⟩ => ?_
  subst he
  refine ⟨_, rfl, _, _, _, [], (p0 ++ (p1 ++ (p2 ++ []))), [], hW', ?_, ?_, rfl, Below.frame hnx _, fun h => by cases h⟩
  · exact (trodAll_cons_mk (shut_bool Tryd.underlying4 _) trodAll_mk0)
  · exact (trodAll_cons_mk (Below.trod laidOut (by kernel_rfl) (of_decide_eq_true (by kernel_rfl)) h0k hnx hlt0) (trodAll_cons_mk (Below.trod laidOut (by kernel_rfl) (of_decide_eq_true (by kernel_rfl)) h1k hnx hlt1) (trodAll_cons_mk (Below.trod laidOut (by kernel_rfl) (of_decide_eq_true (by kernel_rfl)) h2k hnx hlt2) trodAll_mk0)))

theorem over : Rows.stateSameRow.holds Tryd.pinned (OpenSpec.ofChange Rows.stateSameSpec) :=
  OpenClaim.holds_of_wide 6 Tryd.f6 rfl rfl rfl rfl rfl rfl rfl ⟨rfl, rfl, rfl, rfl, rfl⟩ rfl rfl rfl rfl rfl (by kernel_rfl) Tryd.func6 (by kernel_rfl)
    (of_decide_eq_true (by kernel_rfl)) (by unfold Func.isWrapper; first | (rw [if_pos (by decide +kernel)]; kernel_rfl) | (rw [if_neg (by decide +kernel)]; exact ⟨rfl, rfl⟩))
    (fun os started H enc _ => lifted os started H enc)

end Go.Proofs.YtpnbpjhoilibcaaDoor.stateSame

namespace Go.Proofs.YtpnbpjhoilibcaaDoor
open Go
/-- The statement: the row, with its listed variables tied to the program's text. -/
theorem stateSame_holds : Rows.StateSameCardSaid :=
  Claim7.holds_tied_plain_at .later [] [.data, .data, .data] true Rows.stateSameCard.stood.harness false
    stateSame.over (fun _ h => by cases h) (by kernel_rfl) (fun _ h => by cases h) stateSame_row_tie rfl ⟨rfl, rfl⟩ (by kernel_rfl) rfl
    (fun f fn hf hfn => by
      obtain rfl : f = 6 := Option.some.inj ((show Tryd.prog.funcNamed Rows.stateSameRow.func = some 6 by kernel_rfl).symm.trans hf) |>.symm
      obtain rfl : fn = Tryd.f6 := (Option.some.inj (Tryd.func6.symm.trans hfn)).symm
      exact ⟨by kernel_rfl, fun j t ht => by
        rw [Tryd.params6] at ht
        have hm : t ∈ [26, 26, 26] := by simpa using Array.mem_of_getElem? ht
        have hall : ([26, 26, 26].all fun u => !Tryd.prog.wantsStandIn u) = true := by kernel_rfl
        exact (show Tryd.prog.wantsStandIn t = false by simpa using List.all_eq_true.1 hall t hm)⟩)
    (by kernel_rfl)
#print axioms stateSame_holds
end Go.Proofs.YtpnbpjhoilibcaaDoor
