/-
  Whether two states are the same, by the document; whether one is drained, by package state and by the document; whether one is too great to be gone through. Nothing that was in memory turns. Conditions: the states lie in memory.
-/
import Derived.Test.YtpnbpjhoilibcaaDoorStateB
import Derived.Test.YtpnbpjhoilibcaaDoorAfter
namespace Go.Proofs.YtpnbpjhoilibcaaDoor
open Go.RowKit
set_option linter.unusedVariables false
set_option linter.unusedSimpArgs false

set_option maxRecDepth 1000000 in
set_option maxHeartbeats 4000000 in
theorem drained_any (w : World) (m t b : Value) (x : MSt) (hx : MsIn w m t b x) :
    Calls Tryd.prog 13 #[.agg #[m, t, b, .int .i64 x.lock]] w fun e w' => e = .returned (.bool (drainedF x)) ∧ Later w w' := by
  obtain ⟨mp, mc, rfl, m1, m2⟩ := RowIn.slice hx.mem
  obtain ⟨tp, tc, rfl, t1, t2⟩ := RowIn.slice hx.thr
  obtain ⟨bp, bc, rfl, b1, b2⟩ := RowIn.slice hx.bufs
  unfold maxLen at m2 t2 b2
  have HX : Hid (MsIn w (.slice mp x.mem.length mc) (.slice tp x.thr.length tc) (.slice bp x.bufs.length bc) x) := hx
  clear hx
  have LL := Later.alloc (Later.refl w) (.cells #[.slice mp x.mem.length mc, .slice tp x.thr.length tc, .slice bp x.bufs.length bc, .int .i64 x.lock] 26)
  obtain ⟨a0, a1, a2, a3, -⟩ := box4_facts (at_new w (.cells #[.slice mp x.mem.length mc, .slice tp x.thr.length tc, .slice bp x.bufs.length bc, .int .i64 x.lock] 26))
  have HD : Hid (drainedF x = (x.bufs.all (fun l => decide (l.length = 0)) && x.lock == 0)) := rfl
  generalize drainedF x = r at *
  go_enter Tryd.func13, Tryd.ntmps13
  go_upto_region 1 with (fail)
  generalize w.alloc (.cells #[.slice mp x.mem.length mc, .slice tp x.thr.length tc, .slice bp x.bufs.length bc, .int .i64 x.lock] 26) = W at *
  go_wp2
  go_loopw [8] (fun vi wr => ∃ i : Nat, vi = .int .i64 (i : Nat) ∧ i ≤ x.bufs.length ∧ wr = W ∧ Hid (∀ k l, k < i → x.bufs[k]? = some l → l.length = 0)) (fun vi _ => x.bufs.length - (intOf vi).toNat)
  case atStart => exact ⟨0, rfl, by omega, rfl, Lib.hid (fun k l hk => by omega)⟩
  case round =>
    obtain ⟨i, rfl, hi, rfl, hF⟩ := hrel
    by_cases h8 : i < x.bufs.length
    · obtain ⟨l, hl⟩ : ∃ l, x.bufs[i]? = some l := ⟨_, List.getElem?_eq_getElem (by omega)⟩
      obtain ⟨g, o, v, rfl, hve, -, v0⟩ := (HX.out.bufs.later LL).get hl
      obtain ⟨vp, vc, rfl, v1, v2⟩ := RowIn.slice hve
      have HL : Hid (x.bufs[i]? = some l) := hl
      clear hl hve
      by_cases h0 : l.length = 0
      · have e0 : ¬ (0 : Int) < l.length := by omega
        go_wp2
        go_roundw
        case rel => exact ⟨i + 1, by go_num, by omega, by first | rfl | trivial, Lib.hid (fun k l' hk hk' => by
          rcases Nat.lt_or_ge k i with h' | h'
          · exact hF.out k l' h' hk'
          · obtain rfl : k = i := by omega
            rw [HL.out] at hk'; cases hk'; exact h0)⟩
        case measure => simp [intOf] <;> omega
      · have e0 : (0 : Int) < l.length := by omega
        go_wp2
        go_ret
        refine ⟨ret_bool ?_, LL⟩
        rw [HD.out]
        have : x.bufs.all (fun l => decide (l.length = 0)) = false := by
          rw [List.all_eq_false]
          exact ⟨l, List.mem_of_getElem? HL.out, by simpa using h0⟩
        rw [this]; rfl
    · obtain rfl : i = x.bufs.length := by omega
      have ha : Hid (x.bufs.all (fun l => decide (l.length = 0)) = true) := Lib.hid (by
        rw [List.all_eq_true]
        intro l hl
        obtain ⟨k, hk, rfl⟩ := List.getElem_of_mem hl
        simpa using hF.out k _ hk (List.getElem?_eq_getElem hk))
      go_wp2
      go_ret
      exact ⟨ret_bool (by rw [HD.out, ha.out]; rfl), LL⟩

set_option maxRecDepth 1000000 in
set_option maxHeartbeats 4000000 in
theorem refDrained_any (w : World) (m t b : Value) (x : MSt) (hx : MsIn w m t b x) :
    Calls Tryd.prog 14 #[.agg #[m, t, b, .int .i64 x.lock]] w fun e w' => e = .returned (.bool (drainedF x)) ∧ Later w w' := by
  obtain ⟨mp, mc, rfl, m1, m2⟩ := RowIn.slice hx.mem
  obtain ⟨tp, tc, rfl, t1, t2⟩ := RowIn.slice hx.thr
  obtain ⟨bp, bc, rfl, b1, b2⟩ := RowIn.slice hx.bufs
  unfold maxLen at m2 t2 b2
  have HX : Hid (MsIn w (.slice mp x.mem.length mc) (.slice tp x.thr.length tc) (.slice bp x.bufs.length bc) x) := hx
  clear hx
  have LL := Later.alloc (Later.refl w) (.cells #[.slice mp x.mem.length mc, .slice tp x.thr.length tc, .slice bp x.bufs.length bc, .int .i64 x.lock] 26)
  obtain ⟨a0, a1, a2, a3, -⟩ := box4_facts (at_new w (.cells #[.slice mp x.mem.length mc, .slice tp x.thr.length tc, .slice bp x.bufs.length bc, .int .i64 x.lock] 26))
  have HD : Hid (drainedF x = (x.bufs.all (fun l => decide (l.length = 0)) && x.lock == 0)) := rfl
  generalize drainedF x = r at *
  go_enter Tryd.func14, Tryd.ntmps14
  go_upto_region 1 with (fail)
  generalize w.alloc (.cells #[.slice mp x.mem.length mc, .slice tp x.thr.length tc, .slice bp x.bufs.length bc, .int .i64 x.lock] 26) = W at *
  go_wp2
  go_loopw [3] (fun vi wr => ∃ i : Nat, vi = .int .i64 (i : Nat) ∧ i ≤ x.bufs.length ∧ wr = W ∧ Hid (∀ k l, k < i → x.bufs[k]? = some l → l.length = 0)) (fun vi _ => x.bufs.length - (intOf vi).toNat)
  case atStart => exact ⟨0, rfl, by omega, rfl, Lib.hid (fun k l hk => by omega)⟩
  case round =>
    obtain ⟨i, rfl, hi, rfl, hF⟩ := hrel
    by_cases h8 : i < x.bufs.length
    · obtain ⟨l, hl⟩ : ∃ l, x.bufs[i]? = some l := ⟨_, List.getElem?_eq_getElem (by omega)⟩
      obtain ⟨g, o, v, rfl, hve, -, v0⟩ := (HX.out.bufs.later LL).get hl
      obtain ⟨vp, vc, rfl, v1, v2⟩ := RowIn.slice hve
      have HL : Hid (x.bufs[i]? = some l) := hl
      clear hl hve
      by_cases h0 : l.length = 0
      · have e0 : ¬ (0 : Int) < l.length := by omega
        go_wp2
        go_roundw
        case rel => exact ⟨i + 1, by go_num, by omega, by first | rfl | trivial, Lib.hid (fun k l' hk hk' => by
          rcases Nat.lt_or_ge k i with h' | h'
          · exact hF.out k l' h' hk'
          · obtain rfl : k = i := by omega
            rw [HL.out] at hk'; cases hk'; exact h0)⟩
        case measure => simp [intOf] <;> omega
      · have e0 : (0 : Int) < l.length := by omega
        go_wp2
        go_ret
        refine ⟨ret_bool ?_, LL⟩
        rw [HD.out]
        have : x.bufs.all (fun l => decide (l.length = 0)) = false := by
          rw [List.all_eq_false]
          exact ⟨l, List.mem_of_getElem? HL.out, by simpa using h0⟩
        rw [this]; rfl
    · obtain rfl : i = x.bufs.length := by omega
      have ha : Hid (x.bufs.all (fun l => decide (l.length = 0)) = true) := Lib.hid (by
        rw [List.all_eq_true]
        intro l hl
        obtain ⟨k, hk, rfl⟩ := List.getElem_of_mem hl
        simpa using hF.out k _ hk (List.getElem?_eq_getElem hk))
      go_wp2
      go_ret
      exact ⟨ret_bool (by rw [HD.out, ha.out]; rfl), LL⟩

set_option maxRecDepth 1000000 in
set_option maxHeartbeats 4000000 in
theorem greatState_any (w : World) (m t b : Value) (x : MSt) (hx : MsIn w m t b x) :
    Calls Tryd.prog 7 #[.agg #[m, t, b, .int .i64 x.lock]] w fun e w' => e = .returned (.bool (greatMF x)) ∧ Later w w' := by
  obtain ⟨mp, mc, rfl, m1, m2⟩ := RowIn.slice hx.mem
  obtain ⟨tp, tc, rfl, t1, t2⟩ := RowIn.slice hx.thr
  obtain ⟨bp, bc, rfl, b1, b2⟩ := RowIn.slice hx.bufs
  unfold maxLen at m2 t2 b2
  have HX : Hid (MsIn w (.slice mp x.mem.length mc) (.slice tp x.thr.length tc) (.slice bp x.bufs.length bc) x) := hx
  clear hx
  have LL := Later.alloc (Later.refl w) (.cells #[.slice mp x.mem.length mc, .slice tp x.thr.length tc, .slice bp x.bufs.length bc, .int .i64 x.lock] 26)
  obtain ⟨a0, a1, a2, a3, -⟩ := box4_facts (at_new w (.cells #[.slice mp x.mem.length mc, .slice tp x.thr.length tc, .slice bp x.bufs.length bc, .int .i64 x.lock] 26))
  have HD : Hid (greatMF x = (decide (30 < x.mem.length) || decide (8 < x.thr.length) || decide (8 < x.bufs.length) || x.bufs.any (fun l => decide (12 < l.length)))) := rfl
  generalize greatMF x = r at *
  go_enter Tryd.func7, Tryd.ntmps7
  go_upto_region 1 with (fail)
  generalize w.alloc (.cells #[.slice mp x.mem.length mc, .slice tp x.thr.length tc, .slice bp x.bufs.length bc, .int .i64 x.lock] 26) = W at *
  by_cases h30 : 30 < x.mem.length
  · have HR : Hid (r = true) := Lib.hid (by rw [HD.out]; simp [h30])
    go_wp2
    go_ret
    exact ⟨ret_bool HR.out.symm, LL⟩
  by_cases h8 : 8 < x.thr.length
  · have HR : Hid (r = true) := Lib.hid (by rw [HD.out]; simp [h8])
    go_wp2
    go_ret
    exact ⟨ret_bool HR.out.symm, LL⟩
  by_cases h9 : 8 < x.bufs.length
  · have HR : Hid (r = true) := Lib.hid (by rw [HD.out]; simp [h9])
    go_wp2
    go_ret
    exact ⟨ret_bool HR.out.symm, LL⟩
  have HD2 : Hid (r = x.bufs.any (fun l => decide (12 < l.length))) := Lib.hid (by rw [HD.out]; simp [h30, h8, h9])
  clear HD
  go_wp2
  go_loopw [3] (fun vi wr => ∃ i : Nat, vi = .int .i64 (i : Nat) ∧ i ≤ x.bufs.length ∧ wr = W ∧ Hid (∀ k l, k < i → x.bufs[k]? = some l → ¬ 12 < l.length)) (fun vi _ => x.bufs.length - (intOf vi).toNat)
  case atStart => exact ⟨0, rfl, by omega, rfl, Lib.hid (fun k l hk => by omega)⟩
  case round =>
    obtain ⟨i, rfl, hi, rfl, hF⟩ := hrel
    by_cases h8 : i < x.bufs.length
    · obtain ⟨l, hl⟩ : ∃ l, x.bufs[i]? = some l := ⟨_, List.getElem?_eq_getElem (by omega)⟩
      obtain ⟨g, o, v, rfl, hve, -, v0⟩ := (HX.out.bufs.later LL).get hl
      obtain ⟨vp, vc, rfl, v1, v2⟩ := RowIn.slice hve
      have HL : Hid (x.bufs[i]? = some l) := hl
      clear hl hve
      by_cases h0 : 12 < l.length
      · have e0 : (12 : Int) < l.length := by omega
        have HR : Hid (r = true) := Lib.hid (by rw [HD2.out, List.any_eq_true]; exact ⟨l, List.mem_of_getElem? HL.out, by simpa using h0⟩)
        go_wp2
        go_ret
        exact ⟨ret_bool HR.out.symm, LL⟩
      · have e0 : ¬ (12 : Int) < l.length := by omega
        go_wp2
        go_roundw
        case rel => exact ⟨i + 1, by go_num, by omega, by first | rfl | trivial, Lib.hid (fun k l' hk hk' => by
          rcases Nat.lt_or_ge k i with h' | h'
          · exact hF.out k l' h' hk'
          · obtain rfl : k = i := by omega
            rw [HL.out] at hk'; cases hk'; exact h0)⟩
        case measure => simp [intOf] <;> omega
    · obtain rfl : i = x.bufs.length := by omega
      have HR : Hid (r = false) := Lib.hid (by
        rw [HD2.out, List.any_eq_false]
        intro l hl
        obtain ⟨k, hk, rfl⟩ := List.getElem_of_mem hl
        simpa using hF.out k _ hk (List.getElem?_eq_getElem hk))
      go_wp2
      go_ret
      exact ⟨ret_bool HR.out.symm, LL⟩

set_option maxRecDepth 1000000 in
set_option maxHeartbeats 4000000 in
theorem refSame_any (w : World) (m t b m' t' b' : Value) (x y : MSt) (hx : MsIn w m t b x) (hy : MsIn w m' t' b' y) :
    Calls Tryd.prog 10 #[.agg #[m, t, b, .int .i64 x.lock], .agg #[m', t', b', .int .i64 y.lock]] w fun e w' => e = .returned (.bool (msEq x y)) ∧ Later w w' := by
  have cI := fun w' (hl : Later w w') => refInts_any w' m m' x.mem y.mem (hx.mem.later hl) (hy.mem.later hl)
  obtain ⟨mp, mc, rfl, m1, m2⟩ := RowIn.slice hx.mem
  obtain ⟨tp, tc, rfl, t1, t2⟩ := RowIn.slice hx.thr
  obtain ⟨bp, bc, rfl, b1, b2⟩ := RowIn.slice hx.bufs
  obtain ⟨mp', mc', rfl, m1', m2'⟩ := RowIn.slice hy.mem
  obtain ⟨tp', tc', rfl, t1', t2'⟩ := RowIn.slice hy.thr
  obtain ⟨bp', bc', rfl, b1', b2'⟩ := RowIn.slice hy.bufs
  unfold maxLen at t2 b2 t2' b2'
  have HX : Hid (MsIn w (.slice mp x.mem.length mc) (.slice tp x.thr.length tc) (.slice bp x.bufs.length bc) x) := hx
  have HY : Hid (MsIn w (.slice mp' y.mem.length mc') (.slice tp' y.thr.length tc') (.slice bp' y.bufs.length bc') y) := hy
  have HE : Hid (msEq x y = (listEq intEq x.mem y.mem && listEq tsEq x.thr y.thr && listEq bufEq x.bufs y.bufs && x.lock == y.lock)) := rfl
  generalize hr0 : msEq x y = r at *
  generalize hr1 : listEq intEq x.mem y.mem = r1 at *
  clear hr0 hr1 hx hy m1 m2 m1' m2'
  have LL := Later.alloc (Later.alloc (Later.refl w) (.cells #[.slice mp x.mem.length mc, .slice tp x.thr.length tc, .slice bp x.bufs.length bc, .int .i64 x.lock] 26)) (.cells #[.slice mp' y.mem.length mc', .slice tp' y.thr.length tc', .slice bp' y.bufs.length bc', .int .i64 y.lock] 26)
  obtain ⟨HB, HC⟩ := two_new2 w (.cells #[.slice mp x.mem.length mc, .slice tp x.thr.length tc, .slice bp x.bufs.length bc, .int .i64 x.lock] 26) (.cells #[.slice mp' y.mem.length mc', .slice tp' y.thr.length tc', .slice bp' y.bufs.length bc', .int .i64 y.lock] 26)
  have hsz : (w.alloc (.cells #[.slice mp x.mem.length mc, .slice tp x.thr.length tc, .slice bp x.bufs.length bc, .int .i64 x.lock] 26)).heap.size = w.heap.size + 1 := by simp
  have q1 := ts_guard
  have q2 := fun (a b : TS) w => equal_ts a b w
  unfold tsV at q2
  go_enter Tryd.func10, Tryd.ntmps10
  go_upto_region 1 with (fail)
  generalize (w.alloc (.cells #[.slice mp x.mem.length mc, .slice tp x.thr.length tc, .slice bp x.bufs.length bc, .int .i64 x.lock] 26)).alloc (.cells #[.slice mp' y.mem.length mc', .slice tp' y.thr.length tc', .slice bp' y.bufs.length bc', .int .i64 y.lock] 26) = W at *
  clear hsz
  obtain ⟨a0, a1, a2, a3, -⟩ := box4_facts HB
  obtain ⟨b0, b1, b2, b3, -⟩ := box4_facts HC
  cases r1 with
  | false =>
    have HR : Hid (r = false) := Lib.hid (by rw [HE.out]; rfl)
    go_wp2_with (go_at_call 22; refine (cI _ LL).mono ?_; rintro e w1 ⟨rfl, hl⟩; replace LL := Later.trans LL hl; replace HB := heap_later hl HB; replace HC := heap_later hl HC; obtain ⟨a0, a1, a2, a3, -⟩ := box4_facts HB; obtain ⟨b0, b1, b2, b3, -⟩ := box4_facts HC)
    go_ret
    exact ⟨ret_bool HR.out.symm, LL⟩
  | true =>
  by_cases hT : x.thr.length = y.thr.length
  case neg =>
    have HR : Hid (r = false) := Lib.hid (by rw [HE.out, listEq_len hT]; rfl)
    have e1 : ((x.thr.length : Int) != (y.thr.length : Int)) = true := by simp; omega
    clear hT
    go_wp2_with (go_at_call 22; refine (cI _ LL).mono ?_; rintro e w1 ⟨rfl, hl⟩; replace LL := Later.trans LL hl; replace HB := heap_later hl HB; replace HC := heap_later hl HC; obtain ⟨a0, a1, a2, a3, -⟩ := box4_facts HB; obtain ⟨b0, b1, b2, b3, -⟩ := box4_facts HC)
    go_ret
    exact ⟨ret_bool HR.out.symm, LL⟩
  case pos =>
  by_cases hU : x.bufs.length = y.bufs.length
  case neg =>
    have HR : Hid (r = false) := Lib.hid (by rw [HE.out, listEq_len hU]; simp)
    have e1 : ((x.thr.length : Int) != (y.thr.length : Int)) = false := by simp; omega
    have e2 : ((x.bufs.length : Int) != (y.bufs.length : Int)) = true := by simp; omega
    clear hT hU
    go_wp2_with (go_at_call 22; refine (cI _ LL).mono ?_; rintro e w1 ⟨rfl, hl⟩; replace LL := Later.trans LL hl; replace HB := heap_later hl HB; replace HC := heap_later hl HC; obtain ⟨a0, a1, a2, a3, -⟩ := box4_facts HB; obtain ⟨b0, b1, b2, b3, -⟩ := box4_facts HC)
    go_ret
    exact ⟨ret_bool HR.out.symm, LL⟩
  case pos =>
  by_cases hK : x.lock = y.lock
  case neg =>
    have HR : Hid (r = false) := Lib.hid (by rw [HE.out]; simp [hK])
    have e1 : ((x.thr.length : Int) != (y.thr.length : Int)) = false := by simp; omega
    have e2 : ((x.bufs.length : Int) != (y.bufs.length : Int)) = false := by simp; omega
    have e3 : (x.lock != y.lock) = true := by simpa using hK
    clear hT hU hK
    go_wp2_with (go_at_call 22; refine (cI _ LL).mono ?_; rintro e w1 ⟨rfl, hl⟩; replace LL := Later.trans LL hl; replace HB := heap_later hl HB; replace HC := heap_later hl HC; obtain ⟨a0, a1, a2, a3, -⟩ := box4_facts HB; obtain ⟨b0, b1, b2, b3, -⟩ := box4_facts HC)
    go_ret
    exact ⟨ret_bool HR.out.symm, LL⟩
  case pos =>
  have HE2 : Hid (r = (listEq tsEq x.thr y.thr && listEq bufEq x.bufs y.bufs)) := Lib.hid (by rw [HE.out]; simp [hK])
  have e1 : ((x.thr.length : Int) != (y.thr.length : Int)) = false := by simp; omega
  have e2 : ((x.bufs.length : Int) != (y.bufs.length : Int)) = false := by simp; omega
  have e3 : (x.lock != y.lock) = false := by simp [hK]
  have HT : Hid (x.thr.length = y.thr.length) := hT
  have HU : Hid (x.bufs.length = y.bufs.length) := hU
  clear HE hT hU hK
  go_wp2_with (go_at_call 22; refine (cI _ LL).mono ?_; rintro e w1 ⟨rfl, hl⟩; replace LL := Later.trans LL hl; replace HB := heap_later hl HB; replace HC := heap_later hl HC; obtain ⟨a0, a1, a2, a3, -⟩ := box4_facts HB; obtain ⟨b0, b1, b2, b3, -⟩ := box4_facts HC)
  clear e1 e2 e3
  have L1 := LL
  go_loopw [5] (fun vi wr => ∃ i : Nat, vi = .int .i64 (i : Nat) ∧ i ≤ x.thr.length ∧ Later w1 wr ∧ Hid (∀ k a b, k < i → x.thr[k]? = some a → y.thr[k]? = some b → tsEq a b = true)) (fun vi _ => x.thr.length - (intOf vi).toNat)
  case atStart => exact ⟨0, rfl, by omega, Later.refl _, Lib.hid (fun k a b hk => by omega)⟩
  case round =>
    obtain ⟨i, rfl, hi, hlw, hF⟩ := hrel
    obtain ⟨w7, rfl⟩ : ∃ w7, w7 = wr := ⟨_, rfl⟩
    obtain ⟨a0, a1, a2, a3, -⟩ := box4_facts (heap_later hlw HB)
    obtain ⟨b0, b1, b2, b3, -⟩ := box4_facts (heap_later hlw HC)
    by_cases h8 : i < x.thr.length
    · have hTT := HT.out
      obtain ⟨p, hp⟩ : ∃ p, x.thr[i]? = some p := ⟨_, List.getElem?_eq_getElem h8⟩
      obtain ⟨q, hq⟩ : ∃ q, y.thr[i]? = some q := ⟨_, List.getElem?_eq_getElem (by omega)⟩
      obtain ⟨g, o, rfl, -, ⟨x0, x1, x2, x3, x4, x5, x6, x7, x8, x9, x10, x11, x12, x13, x14, x15⟩⟩ := (HX.out.thr.later (L1.trans hlw)).get hp
      obtain ⟨g', o', rfl, -, ⟨y0, y1, y2, y3, y4, y5, y6, y7, y8, y9, y10, y11, y12, y13, y14, y15⟩⟩ := (HY.out.thr.later (L1.trans hlw)).get hq
      have HP : Hid (x.thr[i]? = some p) := hp
      have HQ : Hid (y.thr[i]? = some q) := hq
      have n2 : (i : Int) < (y.thr.length : Int) := by omega
      clear hp hq hTT HX HY
      cases hxy : tsEq p q
      · have HR : Hid (r = false) := Lib.hid (by rw [HE2.out, listEq_not HP.out HQ.out hxy]; rfl)
        go_upto_region 6 with (fail)
        go_quiet (fail)
        go_wp2
        go_ret
        exact ⟨ret_bool HR.out.symm, (L1.trans hlw).trans (Later.drewN (Later.refl _) _)⟩
      · go_upto_region 6 with (fail)
        go_quiet (fail)
        go_wp2
        go_roundw
        case rel => exact ⟨i + 1, by go_num, by omega, Later.drewN hlw _, Lib.hid (fun k a b hk ha hb => by
          rcases Nat.lt_or_ge k i with h' | h'
          · exact hF.out k a b h' ha hb
          · obtain rfl : k = i := by omega
            rw [HP.out] at ha; rw [HQ.out] at hb
            cases ha; cases hb; exact hxy)⟩
        case measure => simp [intOf] <;> omega
    · obtain rfl : i = x.thr.length := by omega
      have HE3 : Hid (r = listEq bufEq x.bufs y.bufs) := Lib.hid (by
        rw [HE2.out, listEq_all HT.out (fun k a b ha hb => hF.out k a b (List.getElem?_eq_some_iff.1 ha).1 ha hb)]; rfl)
      clear HE2 hF
      have L2 := L1.trans hlw
      have HB2 := heap_later hlw HB
      have HC2 := heap_later hlw HC
      go_wp2
      go_loopw [6] (fun vi wr => ∃ i : Nat, vi = .int .i64 (i : Nat) ∧ i ≤ x.bufs.length ∧ Later w7 wr ∧ Hid (∀ k a b, k < i → x.bufs[k]? = some a → y.bufs[k]? = some b → bufEq a b = true)) (fun vi _ => x.bufs.length - (intOf vi).toNat)
      case atStart => exact ⟨0, rfl, by omega, Later.refl _, Lib.hid (fun k a b hk => by omega)⟩
      case round =>
        obtain ⟨j, rfl, hj, hlv, hG⟩ := hrel
        obtain ⟨w8, rfl⟩ : ∃ w8, w8 = wr := ⟨_, rfl⟩
        have L3 := L2.trans hlv
        obtain ⟨a0, a1, a2, a3, -⟩ := box4_facts (heap_later hlv HB2)
        obtain ⟨b0, b1, b2, b3, -⟩ := box4_facts (heap_later hlv HC2)
        by_cases h9 : j < x.bufs.length
        · have hUU := HU.out
          obtain ⟨p, hp⟩ : ∃ p, x.bufs[j]? = some p := ⟨_, List.getElem?_eq_getElem h9⟩
          obtain ⟨q, hq⟩ : ∃ q, y.bufs[j]? = some q := ⟨_, List.getElem?_eq_getElem (by omega)⟩
          obtain ⟨g, o, pv, rfl, hpe, -, x0⟩ := (HX.out.bufs.later L3).get hp
          obtain ⟨g', o', qv, rfl, hqe, -, y0⟩ := (HY.out.bufs.later L3).get hq
          have cE : ∀ z : After w8, Calls Tryd.prog 23 #[pv, qv] z.world fun e w' => e = .returned (.bool (bufEq p q)) ∧ Later z.world w' := fun z => refEnts_any z.world pv qv p q (EntRow.later hpe z.later) (EntRow.later hqe z.later)
          obtain ⟨pp, pc, rfl, -, -⟩ := RowIn.slice hpe
          obtain ⟨qp, qc, rfl, -, -⟩ := RowIn.slice hqe
          have HP : Hid (x.bufs[j]? = some p) := hp
          have HQ : Hid (y.bufs[j]? = some q) := hq
          have n2 : (j : Int) < (y.bufs.length : Int) := by omega
          have ne : Nonempty (After w8) := ⟨⟨w8, Later.refl w8⟩⟩
          have k0 := fun z : After w8 => cell_after a2 z
          have k1 := fun z : After w8 => cell_after b2 z
          have k2 := fun z : After w8 => cell_after x0 z
          have k3 := fun z : After w8 => cell_after y0 z
          clear hp hq hUU HX HY hpe hqe
          cases hxy : bufEq p q
          · have HR : Hid (r = false) := Lib.hid (by rw [HE3.out, listEq_not HP.out HQ.out hxy])
            rw [hxy] at cE
            go_upto_region 11 with (fail)
            clear a0 a1 a2 a3 b0 b1 b2 b3 x0 y0
            refine wp_region_later (by kernel_rfl) (by kernel_rfl) ?_
            repeat (first | go_big_quiet_step (((go_at_call 23; with_reducible (exact Calls.after_of (cE _))))) | quiet_step (((go_at_call 23; with_reducible (exact Calls.after_of (cE _))))))
            refine wpQuiet_nil ?_
            intro _ hw'
            obtain ⟨z, hw''⟩ := hw'
            subst hw''
            clear k0 k1 k2 k3 cE
            go_wp2
            go_ret
            exact ⟨ret_bool HR.out.symm, L3.trans z.later⟩
          · rw [hxy] at cE
            go_upto_region 11 with (fail)
            clear a0 a1 a2 a3 b0 b1 b2 b3 x0 y0
            refine wp_region_later (by kernel_rfl) (by kernel_rfl) ?_
            repeat (first | go_big_quiet_step (((go_at_call 23; with_reducible (exact Calls.after_of (cE _))))) | quiet_step (((go_at_call 23; with_reducible (exact Calls.after_of (cE _))))))
            refine wpQuiet_nil ?_
            intro _ hw'
            obtain ⟨z, hw''⟩ := hw'
            subst hw''
            clear k0 k1 k2 k3 cE
            go_wp2
            go_roundw
            case rel => exact ⟨j + 1, by go_num, by omega, hlv.trans z.later, Lib.hid (fun k a b hk ha hb => by
              rcases Nat.lt_or_ge k j with h' | h'
              · exact hG.out k a b h' ha hb
              · obtain rfl : k = j := by omega
                rw [HP.out] at ha; rw [HQ.out] at hb
                cases ha; cases hb; exact hxy)⟩
            case measure => simp [intOf] <;> omega
        · obtain rfl : j = x.bufs.length := by omega
          have HR : Hid (r = true) := Lib.hid (by rw [HE3.out, listEq_all HU.out (fun k a b ha hb => hG.out k a b (List.getElem?_eq_some_iff.1 ha).1 ha hb)])
          go_wp2
          go_ret
          exact ⟨ret_bool HR.out.symm, L3⟩

end Go.Proofs.YtpnbpjhoilibcaaDoor
