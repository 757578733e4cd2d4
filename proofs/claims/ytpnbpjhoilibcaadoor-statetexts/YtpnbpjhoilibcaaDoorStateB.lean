/-
  Whether two states are the same, by package state and by the document; whether one is drained; whether one is too great to be gone through. Nothing that was in memory turns. Conditions: the states lie in memory.
-/
import Derived.Test.YtpnbpjhoilibcaaDoorStateRows
namespace Go.Proofs.YtpnbpjhoilibcaaDoor
open Go.RowKit Go.WideShapes
set_option linter.unusedVariables false
set_option linter.unusedSimpArgs false

set_option maxRecDepth 1000000 in
set_option maxHeartbeats 2000000 in
theorem sameBuf_any (w : World) (u v : Value) (A B : List (Int × Int)) (hA : EntRow w u A) (hB : EntRow w v B) :
    Calls Tryd.prog 21 #[u, v] w fun e w' => e = .returned (.bool (bufEq A B)) ∧ Later w w' := by
  have c := eqEnts_any w u v A B hA hB
  go_enter Tryd.func21, Tryd.ntmps21
  go_wp2_with (go_at_call 38; refine c.mono ?_; rintro e w1 ⟨rfl, hl⟩)
  go_ret
  exact ⟨rfl, hl⟩

set_option maxRecDepth 1000000 in
set_option maxHeartbeats 2000000 in
theorem eqBufs_any (w : World) (u v : Value) (A B : List (List (Int × Int))) (hA : BufRow w u A) (hB : BufRow w v B) :
    Calls Tryd.prog 20 #[u, v, .func (.func 21) #[] #[]] w fun e w' => e = .returned (.bool (listEq bufEq A B)) ∧ Later w w' := by
  obtain ⟨p, cap, rfl, h1, h2⟩ := RowIn.slice hA
  obtain ⟨q, caq, rfl, h3, h4⟩ := RowIn.slice hB
  unfold maxLen at h2 h4
  have HA : Hid (BufRow w (.slice p A.length cap) A) := hA
  have HB : Hid (BufRow w (.slice q B.length caq) B) := hB
  clear hA hB
  obtain ⟨d, hd0⟩ : ∃ d, listEq bufEq A B = d := ⟨_, rfl⟩
  rw [hd0]
  by_cases hl : A.length = B.length
  · rw [hl] at HA h1 ⊢
    go_enter Tryd.func20, Tryd.ntmps20
    go_wp2
    go_loopw [17] (fun vi wr => ∃ i : Nat, vi = .int .i64 (i : Nat) ∧ i ≤ B.length ∧ Later w wr ∧ Hid (∀ k a b, k < i → A[k]? = some a → B[k]? = some b → bufEq a b = true)) (fun vi _ => B.length - (intOf vi).toNat)
    case atStart => exact ⟨0, rfl, by omega, Later.refl _, Lib.hid (fun k a b hk => by omega)⟩
    case round =>
      obtain ⟨i, rfl, hi, hlw, hF⟩ := hrel
      by_cases h8 : i < B.length
      · obtain ⟨x, hx⟩ : ∃ x, A[i]? = some x := ⟨_, List.getElem?_eq_getElem (by omega)⟩
        obtain ⟨y, hy⟩ : ∃ y, B[i]? = some y := ⟨_, List.getElem?_eq_getElem (by omega)⟩
        obtain ⟨g, o, xv, rfl, hxe, -, x0⟩ := (HA.out.later hlw).get hx
        obtain ⟨g', o', yv, rfl, hye, -, y0⟩ := (HB.out.later hlw).get hy
        have c := sameBuf_any wr xv yv x y hxe hye
        obtain ⟨xp, xc, rfl, -, -⟩ := RowIn.slice hxe
        obtain ⟨yp, yc, rfl, -, -⟩ := RowIn.slice hye
        have HX : Hid (A[i]? = some x) := hx
        have HY : Hid (B[i]? = some y) := hy
        clear hx hy HA HB hxe hye
        cases hxy : bufEq x y
        · obtain rfl : false = d := by rw [← hd0]; exact (listEq_not HX.out HY.out hxy).symm
          rw [hxy] at c
          clear hxy hd0
          go_wp2_with (go_at_call 21; refine c.mono ?_; rintro e w1 ⟨rfl, hl1⟩)
          go_ret
          exact ⟨rfl, hlw.trans hl1⟩
        · have HE : Hid (bufEq x y = true) := hxy
          rw [hxy] at c
          clear hxy
          go_wp2_with (go_at_call 21; refine c.mono ?_; rintro e w1 ⟨rfl, hl1⟩)
          go_roundw
          case rel => exact ⟨i + 1, by go_num, by omega, hlw.trans hl1, Lib.hid (fun k a b hk ha hb => by
            rcases Nat.lt_or_ge k i with h' | h'
            · exact hF.out k a b h' ha hb
            · obtain rfl : k = i := by omega
              rw [HX.out] at ha; rw [HY.out] at hb
              cases ha; cases hb; exact HE.out)⟩
          case measure => simp [intOf] <;> omega
      · obtain rfl : i = B.length := by omega
        obtain rfl : true = d := by rw [← hd0]; exact (listEq_all hl (fun k a b ha hb => hF.out k a b (by have := (List.getElem?_eq_some_iff.1 hb).1; omega) ha hb)).symm
        clear HA HB
        go_wp2
        go_ret
        exact ⟨rfl, hlw⟩
  · obtain rfl : false = d := by rw [← hd0]; exact (listEq_len hl).symm
    have hl' : ¬ (A.length : Int) = B.length := by omega
    go_enter Tryd.func20, Tryd.ntmps20
    go_wp2
    go_ret
    exact ⟨rfl, Later.refl _⟩

set_option maxRecDepth 1000000 in
set_option maxHeartbeats 2000000 in
theorem same_any (w : World) (m t b m' t' b' : Value) (x y : MSt) (hx : MsIn w m t b x) (hy : MsIn w m' t' b' y) :
    Calls Tryd.prog 9 #[.agg #[m, t, b, .int .i64 x.lock], .agg #[m', t', b', .int .i64 y.lock]] w fun e w' => e = .returned (.bool (msEq x y)) ∧ Later w w' := by
  have cI := fun w' (hl : Later w w') => eqInts_any w' m m' x.mem y.mem (hx.mem.later hl) (hy.mem.later hl)
  have cT := fun w' (hl : Later w w') => eqTs_any w' t t' x.thr y.thr (hx.thr.later hl) (hy.thr.later hl)
  have cB := fun w' (hl : Later w w') => eqBufs_any w' b b' x.bufs y.bufs (hx.bufs.later hl) (hy.bufs.later hl)
  obtain ⟨mp, mc, rfl, -, -⟩ := RowIn.slice hx.mem
  obtain ⟨tp, tc, rfl, -, -⟩ := RowIn.slice hx.thr
  obtain ⟨bp, bc, rfl, -, -⟩ := RowIn.slice hx.bufs
  obtain ⟨mp', mc', rfl, -, -⟩ := RowIn.slice hy.mem
  obtain ⟨tp', tc', rfl, -, -⟩ := RowIn.slice hy.thr
  obtain ⟨bp', bc', rfl, -, -⟩ := RowIn.slice hy.bufs
  have HE : Hid (msEq x y = (listEq intEq x.mem y.mem && listEq tsEq x.thr y.thr && listEq bufEq x.bufs y.bufs && x.lock == y.lock)) := rfl
  generalize hr0 : msEq x y = r at *
  generalize hr1 : listEq intEq x.mem y.mem = r1 at *
  generalize hr2 : listEq tsEq x.thr y.thr = r2 at *
  generalize hr3 : listEq bufEq x.bufs y.bufs = r3 at *
  clear hr0 hr1 hr2 hr3 hx hy
  have LL := Later.alloc (Later.alloc (Later.refl w) (.cells #[.slice mp x.mem.length mc, .slice tp x.thr.length tc, .slice bp x.bufs.length bc, .int .i64 x.lock] 26)) (.cells #[.slice mp' y.mem.length mc', .slice tp' y.thr.length tc', .slice bp' y.bufs.length bc', .int .i64 y.lock] 26)
  obtain ⟨HB, HC⟩ := two_new2 w (.cells #[.slice mp x.mem.length mc, .slice tp x.thr.length tc, .slice bp x.bufs.length bc, .int .i64 x.lock] 26) (.cells #[.slice mp' y.mem.length mc', .slice tp' y.thr.length tc', .slice bp' y.bufs.length bc', .int .i64 y.lock] 26)
  have hsz : (w.alloc (.cells #[.slice mp x.mem.length mc, .slice tp x.thr.length tc, .slice bp x.bufs.length bc, .int .i64 x.lock] 26)).heap.size = w.heap.size + 1 := by simp
  go_enter Tryd.func9, Tryd.ntmps9
  go_upto_region 1 with (fail)
  generalize (w.alloc (.cells #[.slice mp x.mem.length mc, .slice tp x.thr.length tc, .slice bp x.bufs.length bc, .int .i64 x.lock] 26)).alloc (.cells #[.slice mp' y.mem.length mc', .slice tp' y.thr.length tc', .slice bp' y.bufs.length bc', .int .i64 y.lock] 26) = W at *
  clear hsz
  obtain ⟨a0, a1, a2, a3, -⟩ := box4_facts HB
  obtain ⟨b0, b1, b2, b3, -⟩ := box4_facts HC
  cases r1 with
  | false =>
    go_wp2_with (first
      | (go_at_call 18; refine (cI _ LL).mono ?_; rintro e w1 ⟨rfl, hl⟩; replace LL := Later.trans LL hl; replace HB := heap_later hl HB; replace HC := heap_later hl HC; obtain ⟨a0, a1, a2, a3, -⟩ := box4_facts HB; obtain ⟨b0, b1, b2, b3, -⟩ := box4_facts HC))
    go_ret
    exact ⟨ret_bool (by rw [HE.out]; rfl), LL⟩
  | true =>
    cases r2 with
    | false =>
      go_wp2_with (first
        | (go_at_call 18; refine (cI _ LL).mono ?_; rintro e w1 ⟨rfl, hl⟩; replace LL := Later.trans LL hl; replace HB := heap_later hl HB; replace HC := heap_later hl HC; obtain ⟨a0, a1, a2, a3, -⟩ := box4_facts HB; obtain ⟨b0, b1, b2, b3, -⟩ := box4_facts HC)
        | (go_at_call 19; refine (cT _ LL).mono ?_; rintro e w1 ⟨rfl, hl⟩; replace LL := Later.trans LL hl; replace HB := heap_later hl HB; replace HC := heap_later hl HC; obtain ⟨a0, a1, a2, a3, -⟩ := box4_facts HB; obtain ⟨b0, b1, b2, b3, -⟩ := box4_facts HC))
      go_ret
      exact ⟨ret_bool (by rw [HE.out]; rfl), LL⟩
    | true =>
      cases r3 with
      | false =>
        go_wp2_with (first
          | (go_at_call 18; refine (cI _ LL).mono ?_; rintro e w1 ⟨rfl, hl⟩; replace LL := Later.trans LL hl; replace HB := heap_later hl HB; replace HC := heap_later hl HC; obtain ⟨a0, a1, a2, a3, -⟩ := box4_facts HB; obtain ⟨b0, b1, b2, b3, -⟩ := box4_facts HC)
          | (go_at_call 19; refine (cT _ LL).mono ?_; rintro e w1 ⟨rfl, hl⟩; replace LL := Later.trans LL hl; replace HB := heap_later hl HB; replace HC := heap_later hl HC; obtain ⟨a0, a1, a2, a3, -⟩ := box4_facts HB; obtain ⟨b0, b1, b2, b3, -⟩ := box4_facts HC)
          | (go_at_call 20; refine (cB _ LL).mono ?_; rintro e w1 ⟨rfl, hl⟩; replace LL := Later.trans LL hl; replace HB := heap_later hl HB; replace HC := heap_later hl HC; obtain ⟨a0, a1, a2, a3, -⟩ := box4_facts HB; obtain ⟨b0, b1, b2, b3, -⟩ := box4_facts HC))
        go_ret
        exact ⟨ret_bool (by rw [HE.out]; rfl), LL⟩
      | true =>
        go_wp2_with (first
          | (go_at_call 18; refine (cI _ LL).mono ?_; rintro e w1 ⟨rfl, hl⟩; replace LL := Later.trans LL hl; replace HB := heap_later hl HB; replace HC := heap_later hl HC; obtain ⟨a0, a1, a2, a3, -⟩ := box4_facts HB; obtain ⟨b0, b1, b2, b3, -⟩ := box4_facts HC)
          | (go_at_call 19; refine (cT _ LL).mono ?_; rintro e w1 ⟨rfl, hl⟩; replace LL := Later.trans LL hl; replace HB := heap_later hl HB; replace HC := heap_later hl HC; obtain ⟨a0, a1, a2, a3, -⟩ := box4_facts HB; obtain ⟨b0, b1, b2, b3, -⟩ := box4_facts HC)
          | (go_at_call 20; refine (cB _ LL).mono ?_; rintro e w1 ⟨rfl, hl⟩; replace LL := Later.trans LL hl; replace HB := heap_later hl HB; replace HC := heap_later hl HC; obtain ⟨a0, a1, a2, a3, -⟩ := box4_facts HB; obtain ⟨b0, b1, b2, b3, -⟩ := box4_facts HC))
        go_ret
        exact ⟨ret_bool (by rw [HE.out]; rfl), LL⟩

/-- Whether no buffer has an entry, and nobody holds the lock. -/
def drainedF (x : MSt) : Bool := x.bufs.all (fun l => decide (l.length = 0)) && x.lock == 0
/-- Whether a state is more than is gone through. -/
def greatMF (x : MSt) : Bool := decide (30 < x.mem.length) || decide (8 < x.thr.length) || decide (8 < x.bufs.length) || x.bufs.any (fun l => decide (12 < l.length))

end Go.Proofs.YtpnbpjhoilibcaaDoor
