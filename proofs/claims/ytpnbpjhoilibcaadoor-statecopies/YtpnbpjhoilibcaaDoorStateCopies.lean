/-
  Statement StateCopies of chapter 13 holds: a copy is the same, and shares nothing: written over it leaves the state as it was. Conditions: the listed tables stand as the program's text lays them.
-/
import Derived.Test.YtpnbpjhoilibcaaDoorRows
import Derived.Test.YtpnbpjhoilibcaaDoorCards
import Derived.Test.YtpnbpjhoilibcaaDoorTie
import Derived.Test.YtpnbpjhoilibcaaDoorStateLaid
import Derived.Test.YtpnbpjhoilibcaaDoorOpensState
import Derived.Test.YtpnbpjhoilibcaaDoorStateAlive
import Derived.Test.YtpnbpjhoilibcaaDoorStateSize
import Derived.Test.YtpnbpjhoilibcaaDoorStateCopy
import Derived.Test.YtpnbpjhoilibcaaDoorRefStCopy
import Derived.Test.YtpnbpjhoilibcaaDoorStateOver
import Derived.Test.YtpnbpjhoilibcaaDoorAfter
import Derived.WalkKit
import Derived.ProofKit
import Derived.OpenShut
import Derived.SizedLaws
import Derived.ShutString
import Derived.Carry
import Derived.Stop.Joined
import Derived.SevenTiedAt
namespace Go.Proofs.YtpnbpjhoilibcaaDoor.stateCopies
open Go.ChangeShapes Go.WideShapes Go.ChangeAt Go.RowKit
open Go.ChangeMaps (open_string shut_string)
set_option linter.unusedVariables false
set_option linter.unusedSimpArgs false

theorem own : ownKnob Tryd.prog.godebug = none := by kernel_rfl
theorem laidOut : laidOutB Tryd.prog = true := by kernel_rfl

set_option maxRecDepth 1000000 in
set_option maxHeartbeats 16000000 in
theorem walk (w : World) (g : Good w) (m t b : Value) (s : MSt) (hs : MsIn w m t b s) :
    Calls Tryd.prog 5 #[.agg #[m, t, b, .int .i64 s.lock]] w fun e w' => e = .returned (.bool true) ∧ Later w w' := by
  have HS : Hid (MsIn w m t b s) := hs
  have HG : Hid (TabGood w) := g
  obtain ⟨mp, mc, rfl, -, -⟩ := RowIn.slice hs.mem
  obtain ⟨tp, tc, rfl, -, -⟩ := RowIn.slice hs.thr
  obtain ⟨bp, bc, rfl, -, -⟩ := RowIn.slice hs.bufs
  clear hs g
  have LL := Later.alloc (Later.refl w) (.cells #[.slice mp s.mem.length mc, .slice tp s.thr.length tc, .slice bp s.bufs.length bc, .int .i64 s.lock] 26)
  have HB := at_new w (.cells #[.slice mp s.mem.length mc, .slice tp s.thr.length tc, .slice bp s.bufs.length bc, .int .i64 s.lock] 26)
  have cG := fun w' (hl : Later w w') => greatState_any w' _ _ _ s (HS.out.later hl)
  have cA := fun w' (hl : Later w w') => stateAlive_any w' (HG.out.later hl)
  go_enter Tryd.func5, Tryd.ntmps5
  go_upto_region 1 with (fail)
  generalize w.alloc (.cells #[.slice mp s.mem.length mc, .slice tp s.thr.length tc, .slice bp s.bufs.length bc, .int .i64 s.lock] 26) = W0 at *
  obtain ⟨a0, a1, a2, a3, -⟩ := box4_facts HB
  cases hg : greatMF s with
  | true =>
    rw [hg] at cG
    clear hg
    go_wp2_with (first
      | (go_at_call 7; apply Calls.mono; (focus (with_reducible (exact cG _ LL))); rintro e w1 ⟨rfl, hl⟩; replace LL := Later.trans LL hl; clear hl)
      | (go_at_call 8; apply Calls.mono; (focus (with_reducible (exact cA _ LL))); rintro e w2 ⟨rfl, hl⟩))
    go_ret
    exact ⟨rfl, LL.trans hl⟩
  | false =>
  rw [hg] at cG
  obtain ⟨z1, z2, z3, z4⟩ := great_facts hg
  have h1 : s.mem.length ≤ 1000000 := by omega
  have h2 : s.thr.length ≤ 1000000 := by omega
  have h3 : s.bufs.length ≤ 1000000 := by omega
  have h4 : ∀ l ∈ s.bufs, l.length ≤ 1000000 := fun l hl => by have := z4 l hl; omega
  clear hg z4
  go_upto_region 3 with (go_at_call 7; apply Calls.mono; (focus (with_reducible (exact cG _ LL))); rintro e W ⟨rfl, hl⟩; replace LL := Later.trans LL hl; replace HB := heap_later hl HB; clear hl cG)
  clear a0 a1 a2 a3
  obtain ⟨a0, a1, a2, a3, -⟩ := box4_facts HB
  have cR : ∀ w', Later W w' → Calls Tryd.prog 16 #[.agg #[.slice mp s.mem.length mc, .slice tp s.thr.length tc, .slice bp s.bufs.length bc, .int .i64 s.lock]] w' fun e w'' => ∃ m1 t1 b1 H1 lo hi, e = .returned (.agg #[m1, t1, b1, .int .i64 s.lock]) ∧ w'.heap.size ≤ lo ∧ hi ≤ w''.heap.size ∧ lo ≤ w''.heap.size ∧ MsOwn lo hi w'' m1 t1 b1 s H1 ∧ Later w' w'' := fun w' hl => by
    refine (refStCopy_any w' _ _ _ s (HS.out.later (LL.trans hl)) h1 h2 h3 h4).mono ?_
    rintro e w'' ⟨m1, t1, b1, H1, rfl, k1, k2⟩
    exact ⟨m1, t1, b1, H1, _, _, rfl, Nat.le_refl _, Nat.le_refl _, k2.size, k1, k2⟩
  have cC : ∀ w', Later W w' → Calls Tryd.prog 17 #[.agg #[.slice mp s.mem.length mc, .slice tp s.thr.length tc, .slice bp s.bufs.length bc, .int .i64 s.lock]] w' fun e w'' => ∃ m1 t1 b1 H1 lo hi, e = .returned (.agg #[m1, t1, b1, .int .i64 s.lock]) ∧ w'.heap.size ≤ lo ∧ hi ≤ w''.heap.size ∧ lo ≤ w''.heap.size ∧ MsOwn lo hi w'' m1 t1 b1 s H1 ∧ Later w' w'' := fun w' hl => by
    refine (stCopy_any w' _ _ _ s (HS.out.later (LL.trans hl)) h1 h2 h3 h4).mono ?_
    rintro e w'' ⟨m1, t1, b1, H1, rfl, k1, k2⟩
    exact ⟨m1, t1, b1, H1, _, _, rfl, Nat.le_refl _, Nat.le_refl _, k2.size, k1, k2⟩
  clear h1 h2 h3 h4
  go_cut [3, 4] from 12 to 15 (fun v3 v4 wc => ∃ C D mp1 mc1 tp1 tc1 bp1 bc1 H1 lo1 hi1 mp2 mc2 tp2 tc2 bp2 bc2 H2 lo2, v3 = .pointer (some ⟨C, 0, none⟩) ∧ v4 = .pointer (some ⟨D, 0, none⟩) ∧ Hid (TwoCopies W wc C D s (.slice mp1 s.mem.length mc1) (.slice tp1 s.thr.length tc1) (.slice bp1 s.bufs.length bc1) H1 lo1 hi1 (.slice mp2 s.mem.length mc2) (.slice tp2 s.thr.length tc2) (.slice bp2 s.bufs.length bc2) H2 lo2) ∧ hi1 ≤ wc.heap.size ∧ Hid (MsIn wc (.slice mp2 s.mem.length mc2) (.slice tp2 s.thr.length tc2) (.slice bp2 s.bufs.length bc2) s))
  case first =>
    have L : Later W W.drew := Later.drew (Later.refl W)
    have g0 : W.heap.size ≤ W.drew.heap.size := Nat.le_refl _
    clear HB HS HG LL cA z1 z2 z3
    refine wp_region_chain (fun w' => w'.cell? ⟨w.heap.size, 0, none⟩ = some (.slice mp s.mem.length mc) ∧ w'.cell? ⟨w.heap.size, 1, none⟩ = some (.slice tp s.thr.length tc) ∧ w'.cell? ⟨w.heap.size, 2, none⟩ = some (.slice bp s.bufs.length bc) ∧ w'.cell? ⟨w.heap.size, 3, none⟩ = some (.int .i64 s.lock)) 7 rfl rfl (by kernel_rfl) (by kernel_rfl) rfl (by kernel_rfl) (by kernel_rfl) (by kernel_rfl) (fun hHeld => ?_) ⟨cell_later a0 L, cell_later a1 L, cell_later a2 L, cell_later a3 L⟩
    simp only [List.take_succ_cons, List.take_zero]
    refine wpAnyH_take (i := 0) (v := ?_) rfl (by kernel_rfl) (by kernel_rfl) (by kernel_rfl) (fun _ _ _ h => h) (Or.inl ⟨by rfl, ?_⟩) (by assumption) ?_
    rotate_left
    · intro w hSw
      (try dsimp only at hSw)
      obtain ⟨hSa, hSb, hSc, hSd⟩ := hSw
      simp only [List.getElem_toArray, List.getElem_cons_zero, List.getElem_cons_succ]
      go_simp
      all_goals with_reducible rfl
    simp only [List.getElem_toArray, List.getElem_cons_zero, List.getElem_cons_succ, Act.put, List.setIfInBounds_toArray, List.set_cons_zero, List.set_cons_succ]
    refine wpAnyH_take (i := 2) (v := ?_) rfl (by kernel_rfl) (by kernel_rfl) (by kernel_rfl) (fun _ _ _ h => h) (Or.inl ⟨by rfl, ?_⟩) (by assumption) ?_
    rotate_left
    · intro w hSw
      (try dsimp only at hSw)
      obtain ⟨hSa, hSb, hSc, hSd⟩ := hSw
      simp only [List.getElem_toArray, List.getElem_cons_zero, List.getElem_cons_succ]
      go_simp
      all_goals with_reducible rfl
    simp only [List.getElem_toArray, List.getElem_cons_zero, List.getElem_cons_succ, Act.put, List.setIfInBounds_toArray, List.set_cons_zero, List.set_cons_succ]
    refine wpAnyH_ready (rs := [1, 4, 5]) (by kernel_rfl) (by simp) ?_
    refine AllReadyH.cons (i := 1) rfl (fun K hK => ?_) (AllReadyH.cons (i := 4) rfl (fun K hK => ?_) (AllReadyH.cons (i := 5) rfl (fun K hK => ?_) AllReadyH.nil))
    · rw [if_pos (by rfl)]
      go_simp
      go_at_call 16
      apply Calls.mono
      (focus (with_reducible (exact cR _ L)))
      rintro e w1 ⟨m1, t1, b1, H1, lo1, hi1, rfl, i1, j1, l1, o1, hl⟩
      obtain ⟨mp1, mc1, rfl, -, -⟩ := RowIn.slice o1.isIn.mem
      obtain ⟨tp1, tc1, rfl, -, -⟩ := RowIn.slice o1.isIn.thr
      obtain ⟨bp1, bc1, rfl, -, -⟩ := RowIn.slice o1.isIn.bufs
      have sz := hl.size
      replace L := L.trans hl
      clear hl
      refine hK.out _ _ ⟨cell_later a0 L, cell_later a1 L, cell_later a2 L, cell_later a3 L⟩ (fun hHeld => ?_)
      clear hK
      (try simp only [List.getElem_toArray, List.getElem_cons_zero, List.getElem_cons_succ, Act.put, List.setIfInBounds_toArray, List.set_cons_zero, List.set_cons_succ])
      refine wpAnyH_ready (rs := [3, 4, 5]) (by kernel_rfl) (by simp) ?_
      refine AllReadyH.cons (i := 3) rfl (fun K hK => ?_) (AllReadyH.cons (i := 4) rfl (fun K hK => ?_) (AllReadyH.cons (i := 5) rfl (fun K hK => ?_) AllReadyH.nil))
      · rw [if_pos (by rfl)]
        go_simp
        go_at_call 17
        apply Calls.mono
        (focus (with_reducible (exact cC _ L)))
        rintro e w1 ⟨m2, t2, b2, H2, lo2, hi2, rfl, i2, j2, l2, o2, hl⟩
        obtain ⟨mp2, mc2, rfl, -, -⟩ := RowIn.slice o2.isIn.mem
        obtain ⟨tp2, tc2, rfl, -, -⟩ := RowIn.slice o2.isIn.thr
        obtain ⟨bp2, bc2, rfl, -, -⟩ := RowIn.slice o2.isIn.bufs
        replace o1 := o1.kept (KeptIn.later hl (by omega))
        have sz := hl.size
        replace L := L.trans hl
        clear hl
        refine hK.out _ _ ⟨cell_later a0 L, cell_later a1 L, cell_later a2 L, cell_later a3 L⟩ (fun hHeld => ?_)
        clear hK
        (try simp only [List.getElem_toArray, List.getElem_cons_zero, List.getElem_cons_succ, Act.put, List.setIfInBounds_toArray, List.set_cons_zero, List.set_cons_succ])
        refine wpAnyH_ready (rs := [4, 5]) (by kernel_rfl) (by simp) ?_
        refine AllReadyH.cons (i := 4) rfl (fun K hK => ?_) (AllReadyH.cons (i := 5) rfl (fun K hK => ?_) AllReadyH.nil)
        · rw [if_pos (by rfl)]
          go_simp
          have la := Later.alloc (Later.refl w1) (.cells #[.slice none 0 0, .slice none 0 0, .slice none 0 0, .int .i64 0] 26)
          have hC := at_new w1 (.cells #[.slice none 0 0, .slice none 0 0, .slice none 0 0, .int .i64 0] 26)
          have sz : w1.heap.size < (w1.alloc (.cells #[.slice none 0 0, .slice none 0 0, .slice none 0 0, .int .i64 0] 26)).heap.size := by show _ < (w1.heap.push _).size; simp
          have gC := L.size
          replace L := L.trans la
          replace o1 := o1.kept (KeptIn.later la (by omega))
          replace o2 := o2.kept (KeptIn.later la (by omega))
          have qC : w1.heap.size ≤ w1.heap.size := Nat.le_refl _
          generalize hCC : w1.heap.size = C at *
          have qC2 : w1.heap.size ≤ C := Nat.le_of_eq hCC
          generalize w1.alloc (.cells #[.slice none 0 0, .slice none 0 0, .slice none 0 0, .int .i64 0] 26) = wz at *
          have hCH := Lib.hid hCC
          clear la hCC
          refine hK.out _ _ ⟨cell_later a0 L, cell_later a1 L, cell_later a2 L, cell_later a3 L⟩ (fun hHeld => ?_)
          clear hK
          (try simp only [List.getElem_toArray, List.getElem_cons_zero, List.getElem_cons_succ, Act.put, List.setIfInBounds_toArray, List.set_cons_zero, List.set_cons_succ])
          refine wpAnyH_ready (rs := [5]) (by kernel_rfl) (by simp) ?_
          refine AllReadyH.cons (i := 5) rfl (fun K hK => ?_) AllReadyH.nil
          rw [if_pos (by rfl)]
          go_simp
          have la := Later.alloc (Later.refl wz) (.cells #[.slice none 0 0, .slice none 0 0, .slice none 0 0, .int .i64 0] 26)
          have hD := at_new wz (.cells #[.slice none 0 0, .slice none 0 0, .slice none 0 0, .int .i64 0] 26)
          have sz : wz.heap.size < (wz.alloc (.cells #[.slice none 0 0, .slice none 0 0, .slice none 0 0, .int .i64 0] 26)).heap.size := by show _ < (wz.heap.push _).size; simp
          have gD := L.size
          replace L := L.trans la
          replace o1 := o1.kept (KeptIn.later la (by omega))
          replace o2 := o2.kept (KeptIn.later la (by omega))
          replace hC := heap_later la hC
          have qD : wz.heap.size ≤ wz.heap.size := Nat.le_refl _
          generalize hCC : wz.heap.size = D at *
          have qD2 : wz.heap.size ≤ D := Nat.le_of_eq hCC
          generalize wz.alloc (.cells #[.slice none 0 0, .slice none 0 0, .slice none 0 0, .int .i64 0] 26) = wz at *
          have hCH := Lib.hid hCC
          clear la hCC
          refine hK.out _ _ ⟨cell_later a0 L, cell_later a1 L, cell_later a2 L, cell_later a3 L⟩ (fun hHeld => ?_)
          clear hK
          (try simp only [List.getElem_toArray, List.getElem_cons_zero, List.getElem_cons_succ, Act.put, List.setIfInBounds_toArray, List.set_cons_zero, List.set_cons_succ])
          refine wpAnyH_ready (rs := [6]) (by kernel_rfl) (by simp) ?_
          refine AllReadyH.cons (i := 6) rfl (fun K hK => ?_) AllReadyH.nil
          rw [if_pos (by rfl)]
          obtain ⟨r0, r1, r2, r3, f0, f1, f2, f3⟩ := box4_facts hC
          have neCD : C ≠ D := by omega
          have x1 := put4_box hC (.slice mp1 s.mem.length mc1) (.slice tp1 s.thr.length tc1) (.slice bp1 s.bufs.length bc1) (.int .i64 s.lock)
          have x2 := put4_kept hD neCD (.slice mp1 s.mem.length mc1) (.slice tp1 s.thr.length tc1) (.slice bp1 s.bufs.length bc1) (.int .i64 s.lock)
          have x3 := o1.kept (put4_in (C := C) (lo := lo1) (hi := hi1) (by omega) (.slice mp1 s.mem.length mc1) (.slice tp1 s.thr.length tc1) (.slice bp1 s.bufs.length bc1) (.int .i64 s.lock))
          have x4 := o2.kept (put4_in (C := C) (lo := lo2) (hi := hi2) (by omega) (.slice mp1 s.mem.length mc1) (.slice tp1 s.thr.length tc1) (.slice bp1 s.bufs.length bc1) (.int .i64 s.lock))
          have x5 := put4_later L gC (.slice mp1 s.mem.length mc1) (.slice tp1 s.thr.length tc1) (.slice bp1 s.bufs.length bc1) (.int .i64 s.lock)
          have x6 := Nat.le_of_eq (put4_size wz C (.slice mp1 s.mem.length mc1) (.slice tp1 s.thr.length tc1) (.slice bp1 s.bufs.length bc1) (.int .i64 s.lock)).symm
          go_simp
          unfold put4 at x1 x2 x3 x4 x5 x6
          generalize (((wz.setCell ⟨C, 0, none⟩ (.slice mp1 s.mem.length mc1)).setCell ⟨C, 1, none⟩ (.slice tp1 s.thr.length tc1)).setCell ⟨C, 2, none⟩ (.slice bp1 s.bufs.length bc1)).setCell ⟨C, 3, none⟩ (.int .i64 s.lock) = ws at *
          refine hK.out _ _ ⟨cell_later a0 x5, cell_later a1 x5, cell_later a2 x5, cell_later a3 x5⟩ (fun hHeld => ?_)
          clear hK
          (try simp only [List.getElem_toArray, List.getElem_cons_zero, List.getElem_cons_succ, Act.put, List.setIfInBounds_toArray, List.set_cons_zero, List.set_cons_succ])
          clear r0 r1 r2 r3 f0 f1 f2 f3
          refine wpAnyH_done (by kernel_rfl) ?_ _
          show Oper.wp _ _ _ _ _ _
          obtain ⟨r0, r1, r2, r3, f0, f1, f2, f3⟩ := box4_facts x2
          have y1 := put4_kept x1 (Ne.symm neCD) (.slice mp2 s.mem.length mc2) (.slice tp2 s.thr.length tc2) (.slice bp2 s.bufs.length bc2) (.int .i64 s.lock)
          have y2 := put4_box x2 (.slice mp2 s.mem.length mc2) (.slice tp2 s.thr.length tc2) (.slice bp2 s.bufs.length bc2) (.int .i64 s.lock)
          have y3 := x3.kept (put4_in (C := D) (lo := lo1) (hi := hi1) (by omega) (.slice mp2 s.mem.length mc2) (.slice tp2 s.thr.length tc2) (.slice bp2 s.bufs.length bc2) (.int .i64 s.lock))
          have y4 := x4.kept (put4_in (C := D) (lo := lo2) (hi := hi2) (by omega) (.slice mp2 s.mem.length mc2) (.slice tp2 s.thr.length tc2) (.slice bp2 s.bufs.length bc2) (.int .i64 s.lock))
          have y5 := put4_later x5 gD (.slice mp2 s.mem.length mc2) (.slice tp2 s.thr.length tc2) (.slice bp2 s.bufs.length bc2) (.int .i64 s.lock)
          have y6 := Nat.le_of_eq (put4_size ws D (.slice mp2 s.mem.length mc2) (.slice tp2 s.thr.length tc2) (.slice bp2 s.bufs.length bc2) (.int .i64 s.lock)).symm
          unfold put4 at y1 y2 y3 y4 y5 y6
          go_simp
          go_wp2
          go_meet
          exact ⟨C, D, mp1, mc1, tp1, tc1, bp1, bc1, H1, lo1, hi1, mp2, mc2, tp2, tc2, bp2, bc2, H2, lo2, rfl, rfl, Lib.hid ⟨y5, by omega, by omega, by omega, y1, y2, y3, OwnW.of y4.mem, OwnW.of y4.thr, y4.bufs.1, y4.len, fun i u l hu hx => OwnW.of (y4.each i u l hu hx)⟩, by omega, Lib.hid y4.isIn⟩
        · rw [if_pos (by rfl)]
          go_simp
          have la := Later.alloc (Later.refl w1) (.cells #[.slice none 0 0, .slice none 0 0, .slice none 0 0, .int .i64 0] 26)
          have hD := at_new w1 (.cells #[.slice none 0 0, .slice none 0 0, .slice none 0 0, .int .i64 0] 26)
          have sz : w1.heap.size < (w1.alloc (.cells #[.slice none 0 0, .slice none 0 0, .slice none 0 0, .int .i64 0] 26)).heap.size := by show _ < (w1.heap.push _).size; simp
          have gD := L.size
          replace L := L.trans la
          replace o1 := o1.kept (KeptIn.later la (by omega))
          replace o2 := o2.kept (KeptIn.later la (by omega))
          have qD : w1.heap.size ≤ w1.heap.size := Nat.le_refl _
          generalize hCC : w1.heap.size = D at *
          have qD2 : w1.heap.size ≤ D := Nat.le_of_eq hCC
          generalize w1.alloc (.cells #[.slice none 0 0, .slice none 0 0, .slice none 0 0, .int .i64 0] 26) = wz at *
          have hCH := Lib.hid hCC
          clear la hCC
          refine hK.out _ _ ⟨cell_later a0 L, cell_later a1 L, cell_later a2 L, cell_later a3 L⟩ (fun hHeld => ?_)
          clear hK
          (try simp only [List.getElem_toArray, List.getElem_cons_zero, List.getElem_cons_succ, Act.put, List.setIfInBounds_toArray, List.set_cons_zero, List.set_cons_succ])
          refine wpAnyH_ready (rs := [4]) (by kernel_rfl) (by simp) ?_
          refine AllReadyH.cons (i := 4) rfl (fun K hK => ?_) AllReadyH.nil
          rw [if_pos (by rfl)]
          go_simp
          have la := Later.alloc (Later.refl wz) (.cells #[.slice none 0 0, .slice none 0 0, .slice none 0 0, .int .i64 0] 26)
          have hC := at_new wz (.cells #[.slice none 0 0, .slice none 0 0, .slice none 0 0, .int .i64 0] 26)
          have sz : wz.heap.size < (wz.alloc (.cells #[.slice none 0 0, .slice none 0 0, .slice none 0 0, .int .i64 0] 26)).heap.size := by show _ < (wz.heap.push _).size; simp
          have gC := L.size
          replace L := L.trans la
          replace o1 := o1.kept (KeptIn.later la (by omega))
          replace o2 := o2.kept (KeptIn.later la (by omega))
          replace hD := heap_later la hD
          have qC : wz.heap.size ≤ wz.heap.size := Nat.le_refl _
          generalize hCC : wz.heap.size = C at *
          have qC2 : wz.heap.size ≤ C := Nat.le_of_eq hCC
          generalize wz.alloc (.cells #[.slice none 0 0, .slice none 0 0, .slice none 0 0, .int .i64 0] 26) = wz at *
          have hCH := Lib.hid hCC
          clear la hCC
          refine hK.out _ _ ⟨cell_later a0 L, cell_later a1 L, cell_later a2 L, cell_later a3 L⟩ (fun hHeld => ?_)
          clear hK
          (try simp only [List.getElem_toArray, List.getElem_cons_zero, List.getElem_cons_succ, Act.put, List.setIfInBounds_toArray, List.set_cons_zero, List.set_cons_succ])
          refine wpAnyH_ready (rs := [6]) (by kernel_rfl) (by simp) ?_
          refine AllReadyH.cons (i := 6) rfl (fun K hK => ?_) AllReadyH.nil
          rw [if_pos (by rfl)]
          obtain ⟨r0, r1, r2, r3, f0, f1, f2, f3⟩ := box4_facts hC
          have neCD : C ≠ D := by omega
          have x1 := put4_box hC (.slice mp1 s.mem.length mc1) (.slice tp1 s.thr.length tc1) (.slice bp1 s.bufs.length bc1) (.int .i64 s.lock)
          have x2 := put4_kept hD neCD (.slice mp1 s.mem.length mc1) (.slice tp1 s.thr.length tc1) (.slice bp1 s.bufs.length bc1) (.int .i64 s.lock)
          have x3 := o1.kept (put4_in (C := C) (lo := lo1) (hi := hi1) (by omega) (.slice mp1 s.mem.length mc1) (.slice tp1 s.thr.length tc1) (.slice bp1 s.bufs.length bc1) (.int .i64 s.lock))
          have x4 := o2.kept (put4_in (C := C) (lo := lo2) (hi := hi2) (by omega) (.slice mp1 s.mem.length mc1) (.slice tp1 s.thr.length tc1) (.slice bp1 s.bufs.length bc1) (.int .i64 s.lock))
          have x5 := put4_later L gC (.slice mp1 s.mem.length mc1) (.slice tp1 s.thr.length tc1) (.slice bp1 s.bufs.length bc1) (.int .i64 s.lock)
          have x6 := Nat.le_of_eq (put4_size wz C (.slice mp1 s.mem.length mc1) (.slice tp1 s.thr.length tc1) (.slice bp1 s.bufs.length bc1) (.int .i64 s.lock)).symm
          go_simp
          unfold put4 at x1 x2 x3 x4 x5 x6
          generalize (((wz.setCell ⟨C, 0, none⟩ (.slice mp1 s.mem.length mc1)).setCell ⟨C, 1, none⟩ (.slice tp1 s.thr.length tc1)).setCell ⟨C, 2, none⟩ (.slice bp1 s.bufs.length bc1)).setCell ⟨C, 3, none⟩ (.int .i64 s.lock) = ws at *
          refine hK.out _ _ ⟨cell_later a0 x5, cell_later a1 x5, cell_later a2 x5, cell_later a3 x5⟩ (fun hHeld => ?_)
          clear hK
          (try simp only [List.getElem_toArray, List.getElem_cons_zero, List.getElem_cons_succ, Act.put, List.setIfInBounds_toArray, List.set_cons_zero, List.set_cons_succ])
          clear r0 r1 r2 r3 f0 f1 f2 f3
          refine wpAnyH_done (by kernel_rfl) ?_ _
          show Oper.wp _ _ _ _ _ _
          obtain ⟨r0, r1, r2, r3, f0, f1, f2, f3⟩ := box4_facts x2
          have y1 := put4_kept x1 (Ne.symm neCD) (.slice mp2 s.mem.length mc2) (.slice tp2 s.thr.length tc2) (.slice bp2 s.bufs.length bc2) (.int .i64 s.lock)
          have y2 := put4_box x2 (.slice mp2 s.mem.length mc2) (.slice tp2 s.thr.length tc2) (.slice bp2 s.bufs.length bc2) (.int .i64 s.lock)
          have y3 := x3.kept (put4_in (C := D) (lo := lo1) (hi := hi1) (by omega) (.slice mp2 s.mem.length mc2) (.slice tp2 s.thr.length tc2) (.slice bp2 s.bufs.length bc2) (.int .i64 s.lock))
          have y4 := x4.kept (put4_in (C := D) (lo := lo2) (hi := hi2) (by omega) (.slice mp2 s.mem.length mc2) (.slice tp2 s.thr.length tc2) (.slice bp2 s.bufs.length bc2) (.int .i64 s.lock))
          have y5 := put4_later x5 gD (.slice mp2 s.mem.length mc2) (.slice tp2 s.thr.length tc2) (.slice bp2 s.bufs.length bc2) (.int .i64 s.lock)
          have y6 := Nat.le_of_eq (put4_size ws D (.slice mp2 s.mem.length mc2) (.slice tp2 s.thr.length tc2) (.slice bp2 s.bufs.length bc2) (.int .i64 s.lock)).symm
          unfold put4 at y1 y2 y3 y4 y5 y6
          go_simp
          go_wp2
          go_meet
          exact ⟨C, D, mp1, mc1, tp1, tc1, bp1, bc1, H1, lo1, hi1, mp2, mc2, tp2, tc2, bp2, bc2, H2, lo2, rfl, rfl, Lib.hid ⟨y5, by omega, by omega, by omega, y1, y2, y3, OwnW.of y4.mem, OwnW.of y4.thr, y4.bufs.1, y4.len, fun i u l hu hx => OwnW.of (y4.each i u l hu hx)⟩, by omega, Lib.hid y4.isIn⟩
      · rw [if_pos (by rfl)]
        go_simp
        have la := Later.alloc (Later.refl w1) (.cells #[.slice none 0 0, .slice none 0 0, .slice none 0 0, .int .i64 0] 26)
        have hC := at_new w1 (.cells #[.slice none 0 0, .slice none 0 0, .slice none 0 0, .int .i64 0] 26)
        have sz : w1.heap.size < (w1.alloc (.cells #[.slice none 0 0, .slice none 0 0, .slice none 0 0, .int .i64 0] 26)).heap.size := by show _ < (w1.heap.push _).size; simp
        have gC := L.size
        replace L := L.trans la
        replace o1 := o1.kept (KeptIn.later la (by omega))
        have qC : w1.heap.size ≤ w1.heap.size := Nat.le_refl _
        generalize hCC : w1.heap.size = C at *
        have qC2 : w1.heap.size ≤ C := Nat.le_of_eq hCC
        generalize w1.alloc (.cells #[.slice none 0 0, .slice none 0 0, .slice none 0 0, .int .i64 0] 26) = wz at *
        have hCH := Lib.hid hCC
        clear la hCC
        refine hK.out _ _ ⟨cell_later a0 L, cell_later a1 L, cell_later a2 L, cell_later a3 L⟩ (fun hHeld => ?_)
        clear hK
        (try simp only [List.getElem_toArray, List.getElem_cons_zero, List.getElem_cons_succ, Act.put, List.setIfInBounds_toArray, List.set_cons_zero, List.set_cons_succ])
        refine wpAnyH_ready (rs := [3, 5]) (by kernel_rfl) (by simp) ?_
        refine AllReadyH.cons (i := 3) rfl (fun K hK => ?_) (AllReadyH.cons (i := 5) rfl (fun K hK => ?_) AllReadyH.nil)
        · rw [if_pos (by rfl)]
          go_simp
          go_at_call 17
          apply Calls.mono
          (focus (with_reducible (exact cC _ L)))
          rintro e w1 ⟨m2, t2, b2, H2, lo2, hi2, rfl, i2, j2, l2, o2, hl⟩
          obtain ⟨mp2, mc2, rfl, -, -⟩ := RowIn.slice o2.isIn.mem
          obtain ⟨tp2, tc2, rfl, -, -⟩ := RowIn.slice o2.isIn.thr
          obtain ⟨bp2, bc2, rfl, -, -⟩ := RowIn.slice o2.isIn.bufs
          replace o1 := o1.kept (KeptIn.later hl (by omega))
          replace hC := heap_later hl hC
          have sz := hl.size
          replace L := L.trans hl
          clear hl
          refine hK.out _ _ ⟨cell_later a0 L, cell_later a1 L, cell_later a2 L, cell_later a3 L⟩ (fun hHeld => ?_)
          clear hK
          (try simp only [List.getElem_toArray, List.getElem_cons_zero, List.getElem_cons_succ, Act.put, List.setIfInBounds_toArray, List.set_cons_zero, List.set_cons_succ])
          refine wpAnyH_ready (rs := [5]) (by kernel_rfl) (by simp) ?_
          refine AllReadyH.cons (i := 5) rfl (fun K hK => ?_) AllReadyH.nil
          rw [if_pos (by rfl)]
          go_simp
          have la := Later.alloc (Later.refl w1) (.cells #[.slice none 0 0, .slice none 0 0, .slice none 0 0, .int .i64 0] 26)
          have hD := at_new w1 (.cells #[.slice none 0 0, .slice none 0 0, .slice none 0 0, .int .i64 0] 26)
          have sz : w1.heap.size < (w1.alloc (.cells #[.slice none 0 0, .slice none 0 0, .slice none 0 0, .int .i64 0] 26)).heap.size := by show _ < (w1.heap.push _).size; simp
          have gD := L.size
          replace L := L.trans la
          replace o1 := o1.kept (KeptIn.later la (by omega))
          replace o2 := o2.kept (KeptIn.later la (by omega))
          replace hC := heap_later la hC
          have qD : w1.heap.size ≤ w1.heap.size := Nat.le_refl _
          generalize hCC : w1.heap.size = D at *
          have qD2 : w1.heap.size ≤ D := Nat.le_of_eq hCC
          generalize w1.alloc (.cells #[.slice none 0 0, .slice none 0 0, .slice none 0 0, .int .i64 0] 26) = wz at *
          have hCH := Lib.hid hCC
          clear la hCC
          refine hK.out _ _ ⟨cell_later a0 L, cell_later a1 L, cell_later a2 L, cell_later a3 L⟩ (fun hHeld => ?_)
          clear hK
          (try simp only [List.getElem_toArray, List.getElem_cons_zero, List.getElem_cons_succ, Act.put, List.setIfInBounds_toArray, List.set_cons_zero, List.set_cons_succ])
          refine wpAnyH_ready (rs := [6]) (by kernel_rfl) (by simp) ?_
          refine AllReadyH.cons (i := 6) rfl (fun K hK => ?_) AllReadyH.nil
          rw [if_pos (by rfl)]
          obtain ⟨r0, r1, r2, r3, f0, f1, f2, f3⟩ := box4_facts hC
          have neCD : C ≠ D := by omega
          have x1 := put4_box hC (.slice mp1 s.mem.length mc1) (.slice tp1 s.thr.length tc1) (.slice bp1 s.bufs.length bc1) (.int .i64 s.lock)
          have x2 := put4_kept hD neCD (.slice mp1 s.mem.length mc1) (.slice tp1 s.thr.length tc1) (.slice bp1 s.bufs.length bc1) (.int .i64 s.lock)
          have x3 := o1.kept (put4_in (C := C) (lo := lo1) (hi := hi1) (by omega) (.slice mp1 s.mem.length mc1) (.slice tp1 s.thr.length tc1) (.slice bp1 s.bufs.length bc1) (.int .i64 s.lock))
          have x4 := o2.kept (put4_in (C := C) (lo := lo2) (hi := hi2) (by omega) (.slice mp1 s.mem.length mc1) (.slice tp1 s.thr.length tc1) (.slice bp1 s.bufs.length bc1) (.int .i64 s.lock))
          have x5 := put4_later L gC (.slice mp1 s.mem.length mc1) (.slice tp1 s.thr.length tc1) (.slice bp1 s.bufs.length bc1) (.int .i64 s.lock)
          have x6 := Nat.le_of_eq (put4_size wz C (.slice mp1 s.mem.length mc1) (.slice tp1 s.thr.length tc1) (.slice bp1 s.bufs.length bc1) (.int .i64 s.lock)).symm
          go_simp
          unfold put4 at x1 x2 x3 x4 x5 x6
          generalize (((wz.setCell ⟨C, 0, none⟩ (.slice mp1 s.mem.length mc1)).setCell ⟨C, 1, none⟩ (.slice tp1 s.thr.length tc1)).setCell ⟨C, 2, none⟩ (.slice bp1 s.bufs.length bc1)).setCell ⟨C, 3, none⟩ (.int .i64 s.lock) = ws at *
          refine hK.out _ _ ⟨cell_later a0 x5, cell_later a1 x5, cell_later a2 x5, cell_later a3 x5⟩ (fun hHeld => ?_)
          clear hK
          (try simp only [List.getElem_toArray, List.getElem_cons_zero, List.getElem_cons_succ, Act.put, List.setIfInBounds_toArray, List.set_cons_zero, List.set_cons_succ])
          clear r0 r1 r2 r3 f0 f1 f2 f3
          refine wpAnyH_done (by kernel_rfl) ?_ _
          show Oper.wp _ _ _ _ _ _
          obtain ⟨r0, r1, r2, r3, f0, f1, f2, f3⟩ := box4_facts x2
          have y1 := put4_kept x1 (Ne.symm neCD) (.slice mp2 s.mem.length mc2) (.slice tp2 s.thr.length tc2) (.slice bp2 s.bufs.length bc2) (.int .i64 s.lock)
          have y2 := put4_box x2 (.slice mp2 s.mem.length mc2) (.slice tp2 s.thr.length tc2) (.slice bp2 s.bufs.length bc2) (.int .i64 s.lock)
          have y3 := x3.kept (put4_in (C := D) (lo := lo1) (hi := hi1) (by omega) (.slice mp2 s.mem.length mc2) (.slice tp2 s.thr.length tc2) (.slice bp2 s.bufs.length bc2) (.int .i64 s.lock))
          have y4 := x4.kept (put4_in (C := D) (lo := lo2) (hi := hi2) (by omega) (.slice mp2 s.mem.length mc2) (.slice tp2 s.thr.length tc2) (.slice bp2 s.bufs.length bc2) (.int .i64 s.lock))
          have y5 := put4_later x5 gD (.slice mp2 s.mem.length mc2) (.slice tp2 s.thr.length tc2) (.slice bp2 s.bufs.length bc2) (.int .i64 s.lock)
          have y6 := Nat.le_of_eq (put4_size ws D (.slice mp2 s.mem.length mc2) (.slice tp2 s.thr.length tc2) (.slice bp2 s.bufs.length bc2) (.int .i64 s.lock)).symm
          unfold put4 at y1 y2 y3 y4 y5 y6
          go_simp
          go_wp2
          go_meet
          exact ⟨C, D, mp1, mc1, tp1, tc1, bp1, bc1, H1, lo1, hi1, mp2, mc2, tp2, tc2, bp2, bc2, H2, lo2, rfl, rfl, Lib.hid ⟨y5, by omega, by omega, by omega, y1, y2, y3, OwnW.of y4.mem, OwnW.of y4.thr, y4.bufs.1, y4.len, fun i u l hu hx => OwnW.of (y4.each i u l hu hx)⟩, by omega, Lib.hid y4.isIn⟩
        · rw [if_pos (by rfl)]
          go_simp
          have la := Later.alloc (Later.refl wz) (.cells #[.slice none 0 0, .slice none 0 0, .slice none 0 0, .int .i64 0] 26)
          have hD := at_new wz (.cells #[.slice none 0 0, .slice none 0 0, .slice none 0 0, .int .i64 0] 26)
          have sz : wz.heap.size < (wz.alloc (.cells #[.slice none 0 0, .slice none 0 0, .slice none 0 0, .int .i64 0] 26)).heap.size := by show _ < (wz.heap.push _).size; simp
          have gD := L.size
          replace L := L.trans la
          replace o1 := o1.kept (KeptIn.later la (by omega))
          replace hC := heap_later la hC
          have qD : wz.heap.size ≤ wz.heap.size := Nat.le_refl _
          generalize hCC : wz.heap.size = D at *
          have qD2 : wz.heap.size ≤ D := Nat.le_of_eq hCC
          generalize wz.alloc (.cells #[.slice none 0 0, .slice none 0 0, .slice none 0 0, .int .i64 0] 26) = wz at *
          have hCH := Lib.hid hCC
          clear la hCC
          refine hK.out _ _ ⟨cell_later a0 L, cell_later a1 L, cell_later a2 L, cell_later a3 L⟩ (fun hHeld => ?_)
          clear hK
          (try simp only [List.getElem_toArray, List.getElem_cons_zero, List.getElem_cons_succ, Act.put, List.setIfInBounds_toArray, List.set_cons_zero, List.set_cons_succ])
          refine wpAnyH_ready (rs := [3]) (by kernel_rfl) (by simp) ?_
          refine AllReadyH.cons (i := 3) rfl (fun K hK => ?_) AllReadyH.nil
          rw [if_pos (by rfl)]
          go_simp
          go_at_call 17
          apply Calls.mono
          (focus (with_reducible (exact cC _ L)))
          rintro e w1 ⟨m2, t2, b2, H2, lo2, hi2, rfl, i2, j2, l2, o2, hl⟩
          obtain ⟨mp2, mc2, rfl, -, -⟩ := RowIn.slice o2.isIn.mem
          obtain ⟨tp2, tc2, rfl, -, -⟩ := RowIn.slice o2.isIn.thr
          obtain ⟨bp2, bc2, rfl, -, -⟩ := RowIn.slice o2.isIn.bufs
          replace o1 := o1.kept (KeptIn.later hl (by omega))
          replace hC := heap_later hl hC
          replace hD := heap_later hl hD
          have sz := hl.size
          replace L := L.trans hl
          clear hl
          refine hK.out _ _ ⟨cell_later a0 L, cell_later a1 L, cell_later a2 L, cell_later a3 L⟩ (fun hHeld => ?_)
          clear hK
          (try simp only [List.getElem_toArray, List.getElem_cons_zero, List.getElem_cons_succ, Act.put, List.setIfInBounds_toArray, List.set_cons_zero, List.set_cons_succ])
          refine wpAnyH_ready (rs := [6]) (by kernel_rfl) (by simp) ?_
          refine AllReadyH.cons (i := 6) rfl (fun K hK => ?_) AllReadyH.nil
          rw [if_pos (by rfl)]
          obtain ⟨r0, r1, r2, r3, f0, f1, f2, f3⟩ := box4_facts hC
          have neCD : C ≠ D := by omega
          have x1 := put4_box hC (.slice mp1 s.mem.length mc1) (.slice tp1 s.thr.length tc1) (.slice bp1 s.bufs.length bc1) (.int .i64 s.lock)
          have x2 := put4_kept hD neCD (.slice mp1 s.mem.length mc1) (.slice tp1 s.thr.length tc1) (.slice bp1 s.bufs.length bc1) (.int .i64 s.lock)
          have x3 := o1.kept (put4_in (C := C) (lo := lo1) (hi := hi1) (by omega) (.slice mp1 s.mem.length mc1) (.slice tp1 s.thr.length tc1) (.slice bp1 s.bufs.length bc1) (.int .i64 s.lock))
          have x4 := o2.kept (put4_in (C := C) (lo := lo2) (hi := hi2) (by omega) (.slice mp1 s.mem.length mc1) (.slice tp1 s.thr.length tc1) (.slice bp1 s.bufs.length bc1) (.int .i64 s.lock))
          have x5 := put4_later L gC (.slice mp1 s.mem.length mc1) (.slice tp1 s.thr.length tc1) (.slice bp1 s.bufs.length bc1) (.int .i64 s.lock)
          have x6 := Nat.le_of_eq (put4_size w1 C (.slice mp1 s.mem.length mc1) (.slice tp1 s.thr.length tc1) (.slice bp1 s.bufs.length bc1) (.int .i64 s.lock)).symm
          go_simp
          unfold put4 at x1 x2 x3 x4 x5 x6
          generalize (((w1.setCell ⟨C, 0, none⟩ (.slice mp1 s.mem.length mc1)).setCell ⟨C, 1, none⟩ (.slice tp1 s.thr.length tc1)).setCell ⟨C, 2, none⟩ (.slice bp1 s.bufs.length bc1)).setCell ⟨C, 3, none⟩ (.int .i64 s.lock) = ws at *
          refine hK.out _ _ ⟨cell_later a0 x5, cell_later a1 x5, cell_later a2 x5, cell_later a3 x5⟩ (fun hHeld => ?_)
          clear hK
          (try simp only [List.getElem_toArray, List.getElem_cons_zero, List.getElem_cons_succ, Act.put, List.setIfInBounds_toArray, List.set_cons_zero, List.set_cons_succ])
          clear r0 r1 r2 r3 f0 f1 f2 f3
          refine wpAnyH_done (by kernel_rfl) ?_ _
          show Oper.wp _ _ _ _ _ _
          obtain ⟨r0, r1, r2, r3, f0, f1, f2, f3⟩ := box4_facts x2
          have y1 := put4_kept x1 (Ne.symm neCD) (.slice mp2 s.mem.length mc2) (.slice tp2 s.thr.length tc2) (.slice bp2 s.bufs.length bc2) (.int .i64 s.lock)
          have y2 := put4_box x2 (.slice mp2 s.mem.length mc2) (.slice tp2 s.thr.length tc2) (.slice bp2 s.bufs.length bc2) (.int .i64 s.lock)
          have y3 := x3.kept (put4_in (C := D) (lo := lo1) (hi := hi1) (by omega) (.slice mp2 s.mem.length mc2) (.slice tp2 s.thr.length tc2) (.slice bp2 s.bufs.length bc2) (.int .i64 s.lock))
          have y4 := x4.kept (put4_in (C := D) (lo := lo2) (hi := hi2) (by omega) (.slice mp2 s.mem.length mc2) (.slice tp2 s.thr.length tc2) (.slice bp2 s.bufs.length bc2) (.int .i64 s.lock))
          have y5 := put4_later x5 gD (.slice mp2 s.mem.length mc2) (.slice tp2 s.thr.length tc2) (.slice bp2 s.bufs.length bc2) (.int .i64 s.lock)
          have y6 := Nat.le_of_eq (put4_size ws D (.slice mp2 s.mem.length mc2) (.slice tp2 s.thr.length tc2) (.slice bp2 s.bufs.length bc2) (.int .i64 s.lock)).symm
          unfold put4 at y1 y2 y3 y4 y5 y6
          go_simp
          go_wp2
          go_meet
          exact ⟨C, D, mp1, mc1, tp1, tc1, bp1, bc1, H1, lo1, hi1, mp2, mc2, tp2, tc2, bp2, bc2, H2, lo2, rfl, rfl, Lib.hid ⟨y5, by omega, by omega, by omega, y1, y2, y3, OwnW.of y4.mem, OwnW.of y4.thr, y4.bufs.1, y4.len, fun i u l hu hx => OwnW.of (y4.each i u l hu hx)⟩, by omega, Lib.hid y4.isIn⟩
      · rw [if_pos (by rfl)]
        go_simp
        have la := Later.alloc (Later.refl w1) (.cells #[.slice none 0 0, .slice none 0 0, .slice none 0 0, .int .i64 0] 26)
        have hD := at_new w1 (.cells #[.slice none 0 0, .slice none 0 0, .slice none 0 0, .int .i64 0] 26)
        have sz : w1.heap.size < (w1.alloc (.cells #[.slice none 0 0, .slice none 0 0, .slice none 0 0, .int .i64 0] 26)).heap.size := by show _ < (w1.heap.push _).size; simp
        have gD := L.size
        replace L := L.trans la
        replace o1 := o1.kept (KeptIn.later la (by omega))
        have qD : w1.heap.size ≤ w1.heap.size := Nat.le_refl _
        generalize hCC : w1.heap.size = D at *
        have qD2 : w1.heap.size ≤ D := Nat.le_of_eq hCC
        generalize w1.alloc (.cells #[.slice none 0 0, .slice none 0 0, .slice none 0 0, .int .i64 0] 26) = wz at *
        have hCH := Lib.hid hCC
        clear la hCC
        refine hK.out _ _ ⟨cell_later a0 L, cell_later a1 L, cell_later a2 L, cell_later a3 L⟩ (fun hHeld => ?_)
        clear hK
        (try simp only [List.getElem_toArray, List.getElem_cons_zero, List.getElem_cons_succ, Act.put, List.setIfInBounds_toArray, List.set_cons_zero, List.set_cons_succ])
        refine wpAnyH_ready (rs := [3, 4]) (by kernel_rfl) (by simp) ?_
        refine AllReadyH.cons (i := 3) rfl (fun K hK => ?_) (AllReadyH.cons (i := 4) rfl (fun K hK => ?_) AllReadyH.nil)
        · rw [if_pos (by rfl)]
          go_simp
          go_at_call 17
          apply Calls.mono
          (focus (with_reducible (exact cC _ L)))
          rintro e w1 ⟨m2, t2, b2, H2, lo2, hi2, rfl, i2, j2, l2, o2, hl⟩
          obtain ⟨mp2, mc2, rfl, -, -⟩ := RowIn.slice o2.isIn.mem
          obtain ⟨tp2, tc2, rfl, -, -⟩ := RowIn.slice o2.isIn.thr
          obtain ⟨bp2, bc2, rfl, -, -⟩ := RowIn.slice o2.isIn.bufs
          replace o1 := o1.kept (KeptIn.later hl (by omega))
          replace hD := heap_later hl hD
          have sz := hl.size
          replace L := L.trans hl
          clear hl
          refine hK.out _ _ ⟨cell_later a0 L, cell_later a1 L, cell_later a2 L, cell_later a3 L⟩ (fun hHeld => ?_)
          clear hK
          (try simp only [List.getElem_toArray, List.getElem_cons_zero, List.getElem_cons_succ, Act.put, List.setIfInBounds_toArray, List.set_cons_zero, List.set_cons_succ])
          refine wpAnyH_ready (rs := [4]) (by kernel_rfl) (by simp) ?_
          refine AllReadyH.cons (i := 4) rfl (fun K hK => ?_) AllReadyH.nil
          rw [if_pos (by rfl)]
          go_simp
          have la := Later.alloc (Later.refl w1) (.cells #[.slice none 0 0, .slice none 0 0, .slice none 0 0, .int .i64 0] 26)
          have hC := at_new w1 (.cells #[.slice none 0 0, .slice none 0 0, .slice none 0 0, .int .i64 0] 26)
          have sz : w1.heap.size < (w1.alloc (.cells #[.slice none 0 0, .slice none 0 0, .slice none 0 0, .int .i64 0] 26)).heap.size := by show _ < (w1.heap.push _).size; simp
          have gC := L.size
          replace L := L.trans la
          replace o1 := o1.kept (KeptIn.later la (by omega))
          replace o2 := o2.kept (KeptIn.later la (by omega))
          replace hD := heap_later la hD
          have qC : w1.heap.size ≤ w1.heap.size := Nat.le_refl _
          generalize hCC : w1.heap.size = C at *
          have qC2 : w1.heap.size ≤ C := Nat.le_of_eq hCC
          generalize w1.alloc (.cells #[.slice none 0 0, .slice none 0 0, .slice none 0 0, .int .i64 0] 26) = wz at *
          have hCH := Lib.hid hCC
          clear la hCC
          refine hK.out _ _ ⟨cell_later a0 L, cell_later a1 L, cell_later a2 L, cell_later a3 L⟩ (fun hHeld => ?_)
          clear hK
          (try simp only [List.getElem_toArray, List.getElem_cons_zero, List.getElem_cons_succ, Act.put, List.setIfInBounds_toArray, List.set_cons_zero, List.set_cons_succ])
          refine wpAnyH_ready (rs := [6]) (by kernel_rfl) (by simp) ?_
          refine AllReadyH.cons (i := 6) rfl (fun K hK => ?_) AllReadyH.nil
          rw [if_pos (by rfl)]
          obtain ⟨r0, r1, r2, r3, f0, f1, f2, f3⟩ := box4_facts hC
          have neCD : C ≠ D := by omega
          have x1 := put4_box hC (.slice mp1 s.mem.length mc1) (.slice tp1 s.thr.length tc1) (.slice bp1 s.bufs.length bc1) (.int .i64 s.lock)
          have x2 := put4_kept hD neCD (.slice mp1 s.mem.length mc1) (.slice tp1 s.thr.length tc1) (.slice bp1 s.bufs.length bc1) (.int .i64 s.lock)
          have x3 := o1.kept (put4_in (C := C) (lo := lo1) (hi := hi1) (by omega) (.slice mp1 s.mem.length mc1) (.slice tp1 s.thr.length tc1) (.slice bp1 s.bufs.length bc1) (.int .i64 s.lock))
          have x4 := o2.kept (put4_in (C := C) (lo := lo2) (hi := hi2) (by omega) (.slice mp1 s.mem.length mc1) (.slice tp1 s.thr.length tc1) (.slice bp1 s.bufs.length bc1) (.int .i64 s.lock))
          have x5 := put4_later L gC (.slice mp1 s.mem.length mc1) (.slice tp1 s.thr.length tc1) (.slice bp1 s.bufs.length bc1) (.int .i64 s.lock)
          have x6 := Nat.le_of_eq (put4_size wz C (.slice mp1 s.mem.length mc1) (.slice tp1 s.thr.length tc1) (.slice bp1 s.bufs.length bc1) (.int .i64 s.lock)).symm
          go_simp
          unfold put4 at x1 x2 x3 x4 x5 x6
          generalize (((wz.setCell ⟨C, 0, none⟩ (.slice mp1 s.mem.length mc1)).setCell ⟨C, 1, none⟩ (.slice tp1 s.thr.length tc1)).setCell ⟨C, 2, none⟩ (.slice bp1 s.bufs.length bc1)).setCell ⟨C, 3, none⟩ (.int .i64 s.lock) = ws at *
          refine hK.out _ _ ⟨cell_later a0 x5, cell_later a1 x5, cell_later a2 x5, cell_later a3 x5⟩ (fun hHeld => ?_)
          clear hK
          (try simp only [List.getElem_toArray, List.getElem_cons_zero, List.getElem_cons_succ, Act.put, List.setIfInBounds_toArray, List.set_cons_zero, List.set_cons_succ])
          clear r0 r1 r2 r3 f0 f1 f2 f3
          refine wpAnyH_done (by kernel_rfl) ?_ _
          show Oper.wp _ _ _ _ _ _
          obtain ⟨r0, r1, r2, r3, f0, f1, f2, f3⟩ := box4_facts x2
          have y1 := put4_kept x1 (Ne.symm neCD) (.slice mp2 s.mem.length mc2) (.slice tp2 s.thr.length tc2) (.slice bp2 s.bufs.length bc2) (.int .i64 s.lock)
          have y2 := put4_box x2 (.slice mp2 s.mem.length mc2) (.slice tp2 s.thr.length tc2) (.slice bp2 s.bufs.length bc2) (.int .i64 s.lock)
          have y3 := x3.kept (put4_in (C := D) (lo := lo1) (hi := hi1) (by omega) (.slice mp2 s.mem.length mc2) (.slice tp2 s.thr.length tc2) (.slice bp2 s.bufs.length bc2) (.int .i64 s.lock))
          have y4 := x4.kept (put4_in (C := D) (lo := lo2) (hi := hi2) (by omega) (.slice mp2 s.mem.length mc2) (.slice tp2 s.thr.length tc2) (.slice bp2 s.bufs.length bc2) (.int .i64 s.lock))
          have y5 := put4_later x5 gD (.slice mp2 s.mem.length mc2) (.slice tp2 s.thr.length tc2) (.slice bp2 s.bufs.length bc2) (.int .i64 s.lock)
          have y6 := Nat.le_of_eq (put4_size ws D (.slice mp2 s.mem.length mc2) (.slice tp2 s.thr.length tc2) (.slice bp2 s.bufs.length bc2) (.int .i64 s.lock)).symm
          unfold put4 at y1 y2 y3 y4 y5 y6
          go_simp
          go_wp2
          go_meet
          exact ⟨C, D, mp1, mc1, tp1, tc1, bp1, bc1, H1, lo1, hi1, mp2, mc2, tp2, tc2, bp2, bc2, H2, lo2, rfl, rfl, Lib.hid ⟨y5, by omega, by omega, by omega, y1, y2, y3, OwnW.of y4.mem, OwnW.of y4.thr, y4.bufs.1, y4.len, fun i u l hu hx => OwnW.of (y4.each i u l hu hx)⟩, by omega, Lib.hid y4.isIn⟩
        · rw [if_pos (by rfl)]
          go_simp
          have la := Later.alloc (Later.refl wz) (.cells #[.slice none 0 0, .slice none 0 0, .slice none 0 0, .int .i64 0] 26)
          have hC := at_new wz (.cells #[.slice none 0 0, .slice none 0 0, .slice none 0 0, .int .i64 0] 26)
          have sz : wz.heap.size < (wz.alloc (.cells #[.slice none 0 0, .slice none 0 0, .slice none 0 0, .int .i64 0] 26)).heap.size := by show _ < (wz.heap.push _).size; simp
          have gC := L.size
          replace L := L.trans la
          replace o1 := o1.kept (KeptIn.later la (by omega))
          replace hD := heap_later la hD
          have qC : wz.heap.size ≤ wz.heap.size := Nat.le_refl _
          generalize hCC : wz.heap.size = C at *
          have qC2 : wz.heap.size ≤ C := Nat.le_of_eq hCC
          generalize wz.alloc (.cells #[.slice none 0 0, .slice none 0 0, .slice none 0 0, .int .i64 0] 26) = wz at *
          have hCH := Lib.hid hCC
          clear la hCC
          refine hK.out _ _ ⟨cell_later a0 L, cell_later a1 L, cell_later a2 L, cell_later a3 L⟩ (fun hHeld => ?_)
          clear hK
          (try simp only [List.getElem_toArray, List.getElem_cons_zero, List.getElem_cons_succ, Act.put, List.setIfInBounds_toArray, List.set_cons_zero, List.set_cons_succ])
          refine wpAnyH_ready (rs := [3]) (by kernel_rfl) (by simp) ?_
          refine AllReadyH.cons (i := 3) rfl (fun K hK => ?_) AllReadyH.nil
          rw [if_pos (by rfl)]
          go_simp
          go_at_call 17
          apply Calls.mono
          (focus (with_reducible (exact cC _ L)))
          rintro e w1 ⟨m2, t2, b2, H2, lo2, hi2, rfl, i2, j2, l2, o2, hl⟩
          obtain ⟨mp2, mc2, rfl, -, -⟩ := RowIn.slice o2.isIn.mem
          obtain ⟨tp2, tc2, rfl, -, -⟩ := RowIn.slice o2.isIn.thr
          obtain ⟨bp2, bc2, rfl, -, -⟩ := RowIn.slice o2.isIn.bufs
          replace o1 := o1.kept (KeptIn.later hl (by omega))
          replace hD := heap_later hl hD
          replace hC := heap_later hl hC
          have sz := hl.size
          replace L := L.trans hl
          clear hl
          refine hK.out _ _ ⟨cell_later a0 L, cell_later a1 L, cell_later a2 L, cell_later a3 L⟩ (fun hHeld => ?_)
          clear hK
          (try simp only [List.getElem_toArray, List.getElem_cons_zero, List.getElem_cons_succ, Act.put, List.setIfInBounds_toArray, List.set_cons_zero, List.set_cons_succ])
          refine wpAnyH_ready (rs := [6]) (by kernel_rfl) (by simp) ?_
          refine AllReadyH.cons (i := 6) rfl (fun K hK => ?_) AllReadyH.nil
          rw [if_pos (by rfl)]
          obtain ⟨r0, r1, r2, r3, f0, f1, f2, f3⟩ := box4_facts hC
          have neCD : C ≠ D := by omega
          have x1 := put4_box hC (.slice mp1 s.mem.length mc1) (.slice tp1 s.thr.length tc1) (.slice bp1 s.bufs.length bc1) (.int .i64 s.lock)
          have x2 := put4_kept hD neCD (.slice mp1 s.mem.length mc1) (.slice tp1 s.thr.length tc1) (.slice bp1 s.bufs.length bc1) (.int .i64 s.lock)
          have x3 := o1.kept (put4_in (C := C) (lo := lo1) (hi := hi1) (by omega) (.slice mp1 s.mem.length mc1) (.slice tp1 s.thr.length tc1) (.slice bp1 s.bufs.length bc1) (.int .i64 s.lock))
          have x4 := o2.kept (put4_in (C := C) (lo := lo2) (hi := hi2) (by omega) (.slice mp1 s.mem.length mc1) (.slice tp1 s.thr.length tc1) (.slice bp1 s.bufs.length bc1) (.int .i64 s.lock))
          have x5 := put4_later L gC (.slice mp1 s.mem.length mc1) (.slice tp1 s.thr.length tc1) (.slice bp1 s.bufs.length bc1) (.int .i64 s.lock)
          have x6 := Nat.le_of_eq (put4_size w1 C (.slice mp1 s.mem.length mc1) (.slice tp1 s.thr.length tc1) (.slice bp1 s.bufs.length bc1) (.int .i64 s.lock)).symm
          go_simp
          unfold put4 at x1 x2 x3 x4 x5 x6
          generalize (((w1.setCell ⟨C, 0, none⟩ (.slice mp1 s.mem.length mc1)).setCell ⟨C, 1, none⟩ (.slice tp1 s.thr.length tc1)).setCell ⟨C, 2, none⟩ (.slice bp1 s.bufs.length bc1)).setCell ⟨C, 3, none⟩ (.int .i64 s.lock) = ws at *
          refine hK.out _ _ ⟨cell_later a0 x5, cell_later a1 x5, cell_later a2 x5, cell_later a3 x5⟩ (fun hHeld => ?_)
          clear hK
          (try simp only [List.getElem_toArray, List.getElem_cons_zero, List.getElem_cons_succ, Act.put, List.setIfInBounds_toArray, List.set_cons_zero, List.set_cons_succ])
          clear r0 r1 r2 r3 f0 f1 f2 f3
          refine wpAnyH_done (by kernel_rfl) ?_ _
          show Oper.wp _ _ _ _ _ _
          obtain ⟨r0, r1, r2, r3, f0, f1, f2, f3⟩ := box4_facts x2
          have y1 := put4_kept x1 (Ne.symm neCD) (.slice mp2 s.mem.length mc2) (.slice tp2 s.thr.length tc2) (.slice bp2 s.bufs.length bc2) (.int .i64 s.lock)
          have y2 := put4_box x2 (.slice mp2 s.mem.length mc2) (.slice tp2 s.thr.length tc2) (.slice bp2 s.bufs.length bc2) (.int .i64 s.lock)
          have y3 := x3.kept (put4_in (C := D) (lo := lo1) (hi := hi1) (by omega) (.slice mp2 s.mem.length mc2) (.slice tp2 s.thr.length tc2) (.slice bp2 s.bufs.length bc2) (.int .i64 s.lock))
          have y4 := x4.kept (put4_in (C := D) (lo := lo2) (hi := hi2) (by omega) (.slice mp2 s.mem.length mc2) (.slice tp2 s.thr.length tc2) (.slice bp2 s.bufs.length bc2) (.int .i64 s.lock))
          have y5 := put4_later x5 gD (.slice mp2 s.mem.length mc2) (.slice tp2 s.thr.length tc2) (.slice bp2 s.bufs.length bc2) (.int .i64 s.lock)
          have y6 := Nat.le_of_eq (put4_size ws D (.slice mp2 s.mem.length mc2) (.slice tp2 s.thr.length tc2) (.slice bp2 s.bufs.length bc2) (.int .i64 s.lock)).symm
          unfold put4 at y1 y2 y3 y4 y5 y6
          go_simp
          go_wp2
          go_meet
          exact ⟨C, D, mp1, mc1, tp1, tc1, bp1, bc1, H1, lo1, hi1, mp2, mc2, tp2, tc2, bp2, bc2, H2, lo2, rfl, rfl, Lib.hid ⟨y5, by omega, by omega, by omega, y1, y2, y3, OwnW.of y4.mem, OwnW.of y4.thr, y4.bufs.1, y4.len, fun i u l hu hx => OwnW.of (y4.each i u l hu hx)⟩, by omega, Lib.hid y4.isIn⟩
    · rw [if_pos (by rfl)]
      go_simp
      have hC : (W.alloc (.cells #[.slice none 0 0, .slice none 0 0, .slice none 0 0, .int .i64 0] 26)).drew.heap[W.heap.size]? = some (.cells #[.slice none 0 0, .slice none 0 0, .slice none 0 0, .int .i64 0] 26) := at_new W (.cells #[.slice none 0 0, .slice none 0 0, .slice none 0 0, .int .i64 0] 26)
      have sz : W.heap.size < (W.alloc (.cells #[.slice none 0 0, .slice none 0 0, .slice none 0 0, .int .i64 0] 26)).drew.heap.size := by show _ < (W.heap.push _).size; simp
      have LZ : Later W (W.alloc (.cells #[.slice none 0 0, .slice none 0 0, .slice none 0 0, .int .i64 0] 26)).drew := Later.drew (Later.alloc (Later.refl W) (.cells #[.slice none 0 0, .slice none 0 0, .slice none 0 0, .int .i64 0] 26))
      replace L := LZ
      clear LZ
      generalize (W.alloc (.cells #[.slice none 0 0, .slice none 0 0, .slice none 0 0, .int .i64 0] 26)).drew = wz at *
      obtain ⟨C, hCC⟩ : ∃ C, W.heap.size = C := ⟨_, rfl⟩
      have gC : W.heap.size ≤ C := Nat.le_of_eq hCC
      have kC : C < wz.heap.size := by omega
      rw [hCC] at hC
      rw [hCC]
      have hCH := Lib.hid hCC
      clear hCC sz
      refine hK.out _ _ ⟨cell_later a0 L, cell_later a1 L, cell_later a2 L, cell_later a3 L⟩ (fun hHeld => ?_)
      clear hK
      (try simp only [List.getElem_toArray, List.getElem_cons_zero, List.getElem_cons_succ, Act.put, List.setIfInBounds_toArray, List.set_cons_zero, List.set_cons_succ])
      refine wpAnyH_ready (rs := [1, 5]) (by kernel_rfl) (by simp) ?_
      refine AllReadyH.cons (i := 1) rfl (fun K hK => ?_) (AllReadyH.cons (i := 5) rfl (fun K hK => ?_) AllReadyH.nil)
      · rw [if_pos (by rfl)]
        go_simp
        go_at_call 16
        apply Calls.mono
        (focus (with_reducible (exact cR _ L)))
        rintro e w1 ⟨m1, t1, b1, H1, lo1, hi1, rfl, i1, j1, l1, o1, hl⟩
        obtain ⟨mp1, mc1, rfl, -, -⟩ := RowIn.slice o1.isIn.mem
        obtain ⟨tp1, tc1, rfl, -, -⟩ := RowIn.slice o1.isIn.thr
        obtain ⟨bp1, bc1, rfl, -, -⟩ := RowIn.slice o1.isIn.bufs
        replace hC := heap_later hl hC
        have sz := hl.size
        replace L := L.trans hl
        clear hl
        refine hK.out _ _ ⟨cell_later a0 L, cell_later a1 L, cell_later a2 L, cell_later a3 L⟩ (fun hHeld => ?_)
        clear hK
        (try simp only [List.getElem_toArray, List.getElem_cons_zero, List.getElem_cons_succ, Act.put, List.setIfInBounds_toArray, List.set_cons_zero, List.set_cons_succ])
        refine wpAnyH_ready (rs := [3, 5]) (by kernel_rfl) (by simp) ?_
        refine AllReadyH.cons (i := 3) rfl (fun K hK => ?_) (AllReadyH.cons (i := 5) rfl (fun K hK => ?_) AllReadyH.nil)
        · rw [if_pos (by rfl)]
          go_simp
          go_at_call 17
          apply Calls.mono
          (focus (with_reducible (exact cC _ L)))
          rintro e w1 ⟨m2, t2, b2, H2, lo2, hi2, rfl, i2, j2, l2, o2, hl⟩
          obtain ⟨mp2, mc2, rfl, -, -⟩ := RowIn.slice o2.isIn.mem
          obtain ⟨tp2, tc2, rfl, -, -⟩ := RowIn.slice o2.isIn.thr
          obtain ⟨bp2, bc2, rfl, -, -⟩ := RowIn.slice o2.isIn.bufs
          replace o1 := o1.kept (KeptIn.later hl (by omega))
          replace hC := heap_later hl hC
          have sz := hl.size
          replace L := L.trans hl
          clear hl
          refine hK.out _ _ ⟨cell_later a0 L, cell_later a1 L, cell_later a2 L, cell_later a3 L⟩ (fun hHeld => ?_)
          clear hK
          (try simp only [List.getElem_toArray, List.getElem_cons_zero, List.getElem_cons_succ, Act.put, List.setIfInBounds_toArray, List.set_cons_zero, List.set_cons_succ])
          refine wpAnyH_ready (rs := [5]) (by kernel_rfl) (by simp) ?_
          refine AllReadyH.cons (i := 5) rfl (fun K hK => ?_) AllReadyH.nil
          rw [if_pos (by rfl)]
          go_simp
          have la := Later.alloc (Later.refl w1) (.cells #[.slice none 0 0, .slice none 0 0, .slice none 0 0, .int .i64 0] 26)
          have hD := at_new w1 (.cells #[.slice none 0 0, .slice none 0 0, .slice none 0 0, .int .i64 0] 26)
          have sz : w1.heap.size < (w1.alloc (.cells #[.slice none 0 0, .slice none 0 0, .slice none 0 0, .int .i64 0] 26)).heap.size := by show _ < (w1.heap.push _).size; simp
          have gD := L.size
          replace L := L.trans la
          replace o1 := o1.kept (KeptIn.later la (by omega))
          replace o2 := o2.kept (KeptIn.later la (by omega))
          replace hC := heap_later la hC
          have qD : w1.heap.size ≤ w1.heap.size := Nat.le_refl _
          generalize hCC : w1.heap.size = D at *
          have qD2 : w1.heap.size ≤ D := Nat.le_of_eq hCC
          generalize w1.alloc (.cells #[.slice none 0 0, .slice none 0 0, .slice none 0 0, .int .i64 0] 26) = wz at *
          have hCH := Lib.hid hCC
          clear la hCC
          refine hK.out _ _ ⟨cell_later a0 L, cell_later a1 L, cell_later a2 L, cell_later a3 L⟩ (fun hHeld => ?_)
          clear hK
          (try simp only [List.getElem_toArray, List.getElem_cons_zero, List.getElem_cons_succ, Act.put, List.setIfInBounds_toArray, List.set_cons_zero, List.set_cons_succ])
          refine wpAnyH_ready (rs := [6]) (by kernel_rfl) (by simp) ?_
          refine AllReadyH.cons (i := 6) rfl (fun K hK => ?_) AllReadyH.nil
          rw [if_pos (by rfl)]
          obtain ⟨r0, r1, r2, r3, f0, f1, f2, f3⟩ := box4_facts hC
          have neCD : C ≠ D := by omega
          have x1 := put4_box hC (.slice mp1 s.mem.length mc1) (.slice tp1 s.thr.length tc1) (.slice bp1 s.bufs.length bc1) (.int .i64 s.lock)
          have x2 := put4_kept hD neCD (.slice mp1 s.mem.length mc1) (.slice tp1 s.thr.length tc1) (.slice bp1 s.bufs.length bc1) (.int .i64 s.lock)
          have x3 := o1.kept (put4_in (C := C) (lo := lo1) (hi := hi1) (by omega) (.slice mp1 s.mem.length mc1) (.slice tp1 s.thr.length tc1) (.slice bp1 s.bufs.length bc1) (.int .i64 s.lock))
          have x4 := o2.kept (put4_in (C := C) (lo := lo2) (hi := hi2) (by omega) (.slice mp1 s.mem.length mc1) (.slice tp1 s.thr.length tc1) (.slice bp1 s.bufs.length bc1) (.int .i64 s.lock))
          have x5 := put4_later L gC (.slice mp1 s.mem.length mc1) (.slice tp1 s.thr.length tc1) (.slice bp1 s.bufs.length bc1) (.int .i64 s.lock)
          have x6 := Nat.le_of_eq (put4_size wz C (.slice mp1 s.mem.length mc1) (.slice tp1 s.thr.length tc1) (.slice bp1 s.bufs.length bc1) (.int .i64 s.lock)).symm
          go_simp
          unfold put4 at x1 x2 x3 x4 x5 x6
          generalize (((wz.setCell ⟨C, 0, none⟩ (.slice mp1 s.mem.length mc1)).setCell ⟨C, 1, none⟩ (.slice tp1 s.thr.length tc1)).setCell ⟨C, 2, none⟩ (.slice bp1 s.bufs.length bc1)).setCell ⟨C, 3, none⟩ (.int .i64 s.lock) = ws at *
          refine hK.out _ _ ⟨cell_later a0 x5, cell_later a1 x5, cell_later a2 x5, cell_later a3 x5⟩ (fun hHeld => ?_)
          clear hK
          (try simp only [List.getElem_toArray, List.getElem_cons_zero, List.getElem_cons_succ, Act.put, List.setIfInBounds_toArray, List.set_cons_zero, List.set_cons_succ])
          clear r0 r1 r2 r3 f0 f1 f2 f3
          refine wpAnyH_done (by kernel_rfl) ?_ _
          show Oper.wp _ _ _ _ _ _
          obtain ⟨r0, r1, r2, r3, f0, f1, f2, f3⟩ := box4_facts x2
          have y1 := put4_kept x1 (Ne.symm neCD) (.slice mp2 s.mem.length mc2) (.slice tp2 s.thr.length tc2) (.slice bp2 s.bufs.length bc2) (.int .i64 s.lock)
          have y2 := put4_box x2 (.slice mp2 s.mem.length mc2) (.slice tp2 s.thr.length tc2) (.slice bp2 s.bufs.length bc2) (.int .i64 s.lock)
          have y3 := x3.kept (put4_in (C := D) (lo := lo1) (hi := hi1) (by omega) (.slice mp2 s.mem.length mc2) (.slice tp2 s.thr.length tc2) (.slice bp2 s.bufs.length bc2) (.int .i64 s.lock))
          have y4 := x4.kept (put4_in (C := D) (lo := lo2) (hi := hi2) (by omega) (.slice mp2 s.mem.length mc2) (.slice tp2 s.thr.length tc2) (.slice bp2 s.bufs.length bc2) (.int .i64 s.lock))
          have y5 := put4_later x5 gD (.slice mp2 s.mem.length mc2) (.slice tp2 s.thr.length tc2) (.slice bp2 s.bufs.length bc2) (.int .i64 s.lock)
          have y6 := Nat.le_of_eq (put4_size ws D (.slice mp2 s.mem.length mc2) (.slice tp2 s.thr.length tc2) (.slice bp2 s.bufs.length bc2) (.int .i64 s.lock)).symm
          unfold put4 at y1 y2 y3 y4 y5 y6
          go_simp
          go_wp2
          go_meet
          exact ⟨C, D, mp1, mc1, tp1, tc1, bp1, bc1, H1, lo1, hi1, mp2, mc2, tp2, tc2, bp2, bc2, H2, lo2, rfl, rfl, Lib.hid ⟨y5, by omega, by omega, by omega, y1, y2, y3, OwnW.of y4.mem, OwnW.of y4.thr, y4.bufs.1, y4.len, fun i u l hu hx => OwnW.of (y4.each i u l hu hx)⟩, by omega, Lib.hid y4.isIn⟩
        · rw [if_pos (by rfl)]
          go_simp
          have la := Later.alloc (Later.refl w1) (.cells #[.slice none 0 0, .slice none 0 0, .slice none 0 0, .int .i64 0] 26)
          have hD := at_new w1 (.cells #[.slice none 0 0, .slice none 0 0, .slice none 0 0, .int .i64 0] 26)
          have sz : w1.heap.size < (w1.alloc (.cells #[.slice none 0 0, .slice none 0 0, .slice none 0 0, .int .i64 0] 26)).heap.size := by show _ < (w1.heap.push _).size; simp
          have gD := L.size
          replace L := L.trans la
          replace o1 := o1.kept (KeptIn.later la (by omega))
          replace hC := heap_later la hC
          have qD : w1.heap.size ≤ w1.heap.size := Nat.le_refl _
          generalize hCC : w1.heap.size = D at *
          have qD2 : w1.heap.size ≤ D := Nat.le_of_eq hCC
          generalize w1.alloc (.cells #[.slice none 0 0, .slice none 0 0, .slice none 0 0, .int .i64 0] 26) = wz at *
          have hCH := Lib.hid hCC
          clear la hCC
          refine hK.out _ _ ⟨cell_later a0 L, cell_later a1 L, cell_later a2 L, cell_later a3 L⟩ (fun hHeld => ?_)
          clear hK
          (try simp only [List.getElem_toArray, List.getElem_cons_zero, List.getElem_cons_succ, Act.put, List.setIfInBounds_toArray, List.set_cons_zero, List.set_cons_succ])
          refine wpAnyH_ready (rs := [3]) (by kernel_rfl) (by simp) ?_
          refine AllReadyH.cons (i := 3) rfl (fun K hK => ?_) AllReadyH.nil
          rw [if_pos (by rfl)]
          go_simp
          go_at_call 17
          apply Calls.mono
          (focus (with_reducible (exact cC _ L)))
          rintro e w1 ⟨m2, t2, b2, H2, lo2, hi2, rfl, i2, j2, l2, o2, hl⟩
          obtain ⟨mp2, mc2, rfl, -, -⟩ := RowIn.slice o2.isIn.mem
          obtain ⟨tp2, tc2, rfl, -, -⟩ := RowIn.slice o2.isIn.thr
          obtain ⟨bp2, bc2, rfl, -, -⟩ := RowIn.slice o2.isIn.bufs
          replace o1 := o1.kept (KeptIn.later hl (by omega))
          replace hC := heap_later hl hC
          replace hD := heap_later hl hD
          have sz := hl.size
          replace L := L.trans hl
          clear hl
          refine hK.out _ _ ⟨cell_later a0 L, cell_later a1 L, cell_later a2 L, cell_later a3 L⟩ (fun hHeld => ?_)
          clear hK
          (try simp only [List.getElem_toArray, List.getElem_cons_zero, List.getElem_cons_succ, Act.put, List.setIfInBounds_toArray, List.set_cons_zero, List.set_cons_succ])
          refine wpAnyH_ready (rs := [6]) (by kernel_rfl) (by simp) ?_
          refine AllReadyH.cons (i := 6) rfl (fun K hK => ?_) AllReadyH.nil
          rw [if_pos (by rfl)]
          obtain ⟨r0, r1, r2, r3, f0, f1, f2, f3⟩ := box4_facts hC
          have neCD : C ≠ D := by omega
          have x1 := put4_box hC (.slice mp1 s.mem.length mc1) (.slice tp1 s.thr.length tc1) (.slice bp1 s.bufs.length bc1) (.int .i64 s.lock)
          have x2 := put4_kept hD neCD (.slice mp1 s.mem.length mc1) (.slice tp1 s.thr.length tc1) (.slice bp1 s.bufs.length bc1) (.int .i64 s.lock)
          have x3 := o1.kept (put4_in (C := C) (lo := lo1) (hi := hi1) (by omega) (.slice mp1 s.mem.length mc1) (.slice tp1 s.thr.length tc1) (.slice bp1 s.bufs.length bc1) (.int .i64 s.lock))
          have x4 := o2.kept (put4_in (C := C) (lo := lo2) (hi := hi2) (by omega) (.slice mp1 s.mem.length mc1) (.slice tp1 s.thr.length tc1) (.slice bp1 s.bufs.length bc1) (.int .i64 s.lock))
          have x5 := put4_later L gC (.slice mp1 s.mem.length mc1) (.slice tp1 s.thr.length tc1) (.slice bp1 s.bufs.length bc1) (.int .i64 s.lock)
          have x6 := Nat.le_of_eq (put4_size w1 C (.slice mp1 s.mem.length mc1) (.slice tp1 s.thr.length tc1) (.slice bp1 s.bufs.length bc1) (.int .i64 s.lock)).symm
          go_simp
          unfold put4 at x1 x2 x3 x4 x5 x6
          generalize (((w1.setCell ⟨C, 0, none⟩ (.slice mp1 s.mem.length mc1)).setCell ⟨C, 1, none⟩ (.slice tp1 s.thr.length tc1)).setCell ⟨C, 2, none⟩ (.slice bp1 s.bufs.length bc1)).setCell ⟨C, 3, none⟩ (.int .i64 s.lock) = ws at *
          refine hK.out _ _ ⟨cell_later a0 x5, cell_later a1 x5, cell_later a2 x5, cell_later a3 x5⟩ (fun hHeld => ?_)
          clear hK
          (try simp only [List.getElem_toArray, List.getElem_cons_zero, List.getElem_cons_succ, Act.put, List.setIfInBounds_toArray, List.set_cons_zero, List.set_cons_succ])
          clear r0 r1 r2 r3 f0 f1 f2 f3
          refine wpAnyH_done (by kernel_rfl) ?_ _
          show Oper.wp _ _ _ _ _ _
          obtain ⟨r0, r1, r2, r3, f0, f1, f2, f3⟩ := box4_facts x2
          have y1 := put4_kept x1 (Ne.symm neCD) (.slice mp2 s.mem.length mc2) (.slice tp2 s.thr.length tc2) (.slice bp2 s.bufs.length bc2) (.int .i64 s.lock)
          have y2 := put4_box x2 (.slice mp2 s.mem.length mc2) (.slice tp2 s.thr.length tc2) (.slice bp2 s.bufs.length bc2) (.int .i64 s.lock)
          have y3 := x3.kept (put4_in (C := D) (lo := lo1) (hi := hi1) (by omega) (.slice mp2 s.mem.length mc2) (.slice tp2 s.thr.length tc2) (.slice bp2 s.bufs.length bc2) (.int .i64 s.lock))
          have y4 := x4.kept (put4_in (C := D) (lo := lo2) (hi := hi2) (by omega) (.slice mp2 s.mem.length mc2) (.slice tp2 s.thr.length tc2) (.slice bp2 s.bufs.length bc2) (.int .i64 s.lock))
          have y5 := put4_later x5 gD (.slice mp2 s.mem.length mc2) (.slice tp2 s.thr.length tc2) (.slice bp2 s.bufs.length bc2) (.int .i64 s.lock)
          have y6 := Nat.le_of_eq (put4_size ws D (.slice mp2 s.mem.length mc2) (.slice tp2 s.thr.length tc2) (.slice bp2 s.bufs.length bc2) (.int .i64 s.lock)).symm
          unfold put4 at y1 y2 y3 y4 y5 y6
          go_simp
          go_wp2
          go_meet
          exact ⟨C, D, mp1, mc1, tp1, tc1, bp1, bc1, H1, lo1, hi1, mp2, mc2, tp2, tc2, bp2, bc2, H2, lo2, rfl, rfl, Lib.hid ⟨y5, by omega, by omega, by omega, y1, y2, y3, OwnW.of y4.mem, OwnW.of y4.thr, y4.bufs.1, y4.len, fun i u l hu hx => OwnW.of (y4.each i u l hu hx)⟩, by omega, Lib.hid y4.isIn⟩
      · rw [if_pos (by rfl)]
        go_simp
        have la := Later.alloc (Later.refl wz) (.cells #[.slice none 0 0, .slice none 0 0, .slice none 0 0, .int .i64 0] 26)
        have hD := at_new wz (.cells #[.slice none 0 0, .slice none 0 0, .slice none 0 0, .int .i64 0] 26)
        have sz : wz.heap.size < (wz.alloc (.cells #[.slice none 0 0, .slice none 0 0, .slice none 0 0, .int .i64 0] 26)).heap.size := by show _ < (wz.heap.push _).size; simp
        have gD := L.size
        replace L := L.trans la
        replace hC := heap_later la hC
        have qD : wz.heap.size ≤ wz.heap.size := Nat.le_refl _
        generalize hCC : wz.heap.size = D at *
        have qD2 : wz.heap.size ≤ D := Nat.le_of_eq hCC
        generalize wz.alloc (.cells #[.slice none 0 0, .slice none 0 0, .slice none 0 0, .int .i64 0] 26) = wz at *
        have hCH := Lib.hid hCC
        clear la hCC
        refine hK.out _ _ ⟨cell_later a0 L, cell_later a1 L, cell_later a2 L, cell_later a3 L⟩ (fun hHeld => ?_)
        clear hK
        (try simp only [List.getElem_toArray, List.getElem_cons_zero, List.getElem_cons_succ, Act.put, List.setIfInBounds_toArray, List.set_cons_zero, List.set_cons_succ])
        refine wpAnyH_ready (rs := [1]) (by kernel_rfl) (by simp) ?_
        refine AllReadyH.cons (i := 1) rfl (fun K hK => ?_) AllReadyH.nil
        rw [if_pos (by rfl)]
        go_simp
        go_at_call 16
        apply Calls.mono
        (focus (with_reducible (exact cR _ L)))
        rintro e w1 ⟨m1, t1, b1, H1, lo1, hi1, rfl, i1, j1, l1, o1, hl⟩
        obtain ⟨mp1, mc1, rfl, -, -⟩ := RowIn.slice o1.isIn.mem
        obtain ⟨tp1, tc1, rfl, -, -⟩ := RowIn.slice o1.isIn.thr
        obtain ⟨bp1, bc1, rfl, -, -⟩ := RowIn.slice o1.isIn.bufs
        replace hC := heap_later hl hC
        replace hD := heap_later hl hD
        have sz := hl.size
        replace L := L.trans hl
        clear hl
        refine hK.out _ _ ⟨cell_later a0 L, cell_later a1 L, cell_later a2 L, cell_later a3 L⟩ (fun hHeld => ?_)
        clear hK
        (try simp only [List.getElem_toArray, List.getElem_cons_zero, List.getElem_cons_succ, Act.put, List.setIfInBounds_toArray, List.set_cons_zero, List.set_cons_succ])
        refine wpAnyH_ready (rs := [3]) (by kernel_rfl) (by simp) ?_
        refine AllReadyH.cons (i := 3) rfl (fun K hK => ?_) AllReadyH.nil
        rw [if_pos (by rfl)]
        go_simp
        go_at_call 17
        apply Calls.mono
        (focus (with_reducible (exact cC _ L)))
        rintro e w1 ⟨m2, t2, b2, H2, lo2, hi2, rfl, i2, j2, l2, o2, hl⟩
        obtain ⟨mp2, mc2, rfl, -, -⟩ := RowIn.slice o2.isIn.mem
        obtain ⟨tp2, tc2, rfl, -, -⟩ := RowIn.slice o2.isIn.thr
        obtain ⟨bp2, bc2, rfl, -, -⟩ := RowIn.slice o2.isIn.bufs
        replace o1 := o1.kept (KeptIn.later hl (by omega))
        replace hC := heap_later hl hC
        replace hD := heap_later hl hD
        have sz := hl.size
        replace L := L.trans hl
        clear hl
        refine hK.out _ _ ⟨cell_later a0 L, cell_later a1 L, cell_later a2 L, cell_later a3 L⟩ (fun hHeld => ?_)
        clear hK
        (try simp only [List.getElem_toArray, List.getElem_cons_zero, List.getElem_cons_succ, Act.put, List.setIfInBounds_toArray, List.set_cons_zero, List.set_cons_succ])
        refine wpAnyH_ready (rs := [6]) (by kernel_rfl) (by simp) ?_
        refine AllReadyH.cons (i := 6) rfl (fun K hK => ?_) AllReadyH.nil
        rw [if_pos (by rfl)]
        obtain ⟨r0, r1, r2, r3, f0, f1, f2, f3⟩ := box4_facts hC
        have neCD : C ≠ D := by omega
        have x1 := put4_box hC (.slice mp1 s.mem.length mc1) (.slice tp1 s.thr.length tc1) (.slice bp1 s.bufs.length bc1) (.int .i64 s.lock)
        have x2 := put4_kept hD neCD (.slice mp1 s.mem.length mc1) (.slice tp1 s.thr.length tc1) (.slice bp1 s.bufs.length bc1) (.int .i64 s.lock)
        have x3 := o1.kept (put4_in (C := C) (lo := lo1) (hi := hi1) (by omega) (.slice mp1 s.mem.length mc1) (.slice tp1 s.thr.length tc1) (.slice bp1 s.bufs.length bc1) (.int .i64 s.lock))
        have x4 := o2.kept (put4_in (C := C) (lo := lo2) (hi := hi2) (by omega) (.slice mp1 s.mem.length mc1) (.slice tp1 s.thr.length tc1) (.slice bp1 s.bufs.length bc1) (.int .i64 s.lock))
        have x5 := put4_later L gC (.slice mp1 s.mem.length mc1) (.slice tp1 s.thr.length tc1) (.slice bp1 s.bufs.length bc1) (.int .i64 s.lock)
        have x6 := Nat.le_of_eq (put4_size w1 C (.slice mp1 s.mem.length mc1) (.slice tp1 s.thr.length tc1) (.slice bp1 s.bufs.length bc1) (.int .i64 s.lock)).symm
        go_simp
        unfold put4 at x1 x2 x3 x4 x5 x6
        generalize (((w1.setCell ⟨C, 0, none⟩ (.slice mp1 s.mem.length mc1)).setCell ⟨C, 1, none⟩ (.slice tp1 s.thr.length tc1)).setCell ⟨C, 2, none⟩ (.slice bp1 s.bufs.length bc1)).setCell ⟨C, 3, none⟩ (.int .i64 s.lock) = ws at *
        refine hK.out _ _ ⟨cell_later a0 x5, cell_later a1 x5, cell_later a2 x5, cell_later a3 x5⟩ (fun hHeld => ?_)
        clear hK
        (try simp only [List.getElem_toArray, List.getElem_cons_zero, List.getElem_cons_succ, Act.put, List.setIfInBounds_toArray, List.set_cons_zero, List.set_cons_succ])
        clear r0 r1 r2 r3 f0 f1 f2 f3
        refine wpAnyH_done (by kernel_rfl) ?_ _
        show Oper.wp _ _ _ _ _ _
        obtain ⟨r0, r1, r2, r3, f0, f1, f2, f3⟩ := box4_facts x2
        have y1 := put4_kept x1 (Ne.symm neCD) (.slice mp2 s.mem.length mc2) (.slice tp2 s.thr.length tc2) (.slice bp2 s.bufs.length bc2) (.int .i64 s.lock)
        have y2 := put4_box x2 (.slice mp2 s.mem.length mc2) (.slice tp2 s.thr.length tc2) (.slice bp2 s.bufs.length bc2) (.int .i64 s.lock)
        have y3 := x3.kept (put4_in (C := D) (lo := lo1) (hi := hi1) (by omega) (.slice mp2 s.mem.length mc2) (.slice tp2 s.thr.length tc2) (.slice bp2 s.bufs.length bc2) (.int .i64 s.lock))
        have y4 := x4.kept (put4_in (C := D) (lo := lo2) (hi := hi2) (by omega) (.slice mp2 s.mem.length mc2) (.slice tp2 s.thr.length tc2) (.slice bp2 s.bufs.length bc2) (.int .i64 s.lock))
        have y5 := put4_later x5 gD (.slice mp2 s.mem.length mc2) (.slice tp2 s.thr.length tc2) (.slice bp2 s.bufs.length bc2) (.int .i64 s.lock)
        have y6 := Nat.le_of_eq (put4_size ws D (.slice mp2 s.mem.length mc2) (.slice tp2 s.thr.length tc2) (.slice bp2 s.bufs.length bc2) (.int .i64 s.lock)).symm
        unfold put4 at y1 y2 y3 y4 y5 y6
        go_simp
        go_wp2
        go_meet
        exact ⟨C, D, mp1, mc1, tp1, tc1, bp1, bc1, H1, lo1, hi1, mp2, mc2, tp2, tc2, bp2, bc2, H2, lo2, rfl, rfl, Lib.hid ⟨y5, by omega, by omega, by omega, y1, y2, y3, OwnW.of y4.mem, OwnW.of y4.thr, y4.bufs.1, y4.len, fun i u l hu hx => OwnW.of (y4.each i u l hu hx)⟩, by omega, Lib.hid y4.isIn⟩
    · rw [if_pos (by rfl)]
      go_simp
      have hD : (W.alloc (.cells #[.slice none 0 0, .slice none 0 0, .slice none 0 0, .int .i64 0] 26)).drew.heap[W.heap.size]? = some (.cells #[.slice none 0 0, .slice none 0 0, .slice none 0 0, .int .i64 0] 26) := at_new W (.cells #[.slice none 0 0, .slice none 0 0, .slice none 0 0, .int .i64 0] 26)
      have sz : W.heap.size < (W.alloc (.cells #[.slice none 0 0, .slice none 0 0, .slice none 0 0, .int .i64 0] 26)).drew.heap.size := by show _ < (W.heap.push _).size; simp
      have LZ : Later W (W.alloc (.cells #[.slice none 0 0, .slice none 0 0, .slice none 0 0, .int .i64 0] 26)).drew := Later.drew (Later.alloc (Later.refl W) (.cells #[.slice none 0 0, .slice none 0 0, .slice none 0 0, .int .i64 0] 26))
      replace L := LZ
      clear LZ
      generalize (W.alloc (.cells #[.slice none 0 0, .slice none 0 0, .slice none 0 0, .int .i64 0] 26)).drew = wz at *
      obtain ⟨D, hCC⟩ : ∃ C, W.heap.size = C := ⟨_, rfl⟩
      have gD : W.heap.size ≤ D := Nat.le_of_eq hCC
      have kD : D < wz.heap.size := by omega
      rw [hCC] at hD
      rw [hCC]
      have hCH := Lib.hid hCC
      clear hCC sz
      refine hK.out _ _ ⟨cell_later a0 L, cell_later a1 L, cell_later a2 L, cell_later a3 L⟩ (fun hHeld => ?_)
      clear hK
      (try simp only [List.getElem_toArray, List.getElem_cons_zero, List.getElem_cons_succ, Act.put, List.setIfInBounds_toArray, List.set_cons_zero, List.set_cons_succ])
      refine wpAnyH_ready (rs := [1, 4]) (by kernel_rfl) (by simp) ?_
      refine AllReadyH.cons (i := 1) rfl (fun K hK => ?_) (AllReadyH.cons (i := 4) rfl (fun K hK => ?_) AllReadyH.nil)
      · rw [if_pos (by rfl)]
        go_simp
        go_at_call 16
        apply Calls.mono
        (focus (with_reducible (exact cR _ L)))
        rintro e w1 ⟨m1, t1, b1, H1, lo1, hi1, rfl, i1, j1, l1, o1, hl⟩
        obtain ⟨mp1, mc1, rfl, -, -⟩ := RowIn.slice o1.isIn.mem
        obtain ⟨tp1, tc1, rfl, -, -⟩ := RowIn.slice o1.isIn.thr
        obtain ⟨bp1, bc1, rfl, -, -⟩ := RowIn.slice o1.isIn.bufs
        replace hD := heap_later hl hD
        have sz := hl.size
        replace L := L.trans hl
        clear hl
        refine hK.out _ _ ⟨cell_later a0 L, cell_later a1 L, cell_later a2 L, cell_later a3 L⟩ (fun hHeld => ?_)
        clear hK
        (try simp only [List.getElem_toArray, List.getElem_cons_zero, List.getElem_cons_succ, Act.put, List.setIfInBounds_toArray, List.set_cons_zero, List.set_cons_succ])
        refine wpAnyH_ready (rs := [3, 4]) (by kernel_rfl) (by simp) ?_
        refine AllReadyH.cons (i := 3) rfl (fun K hK => ?_) (AllReadyH.cons (i := 4) rfl (fun K hK => ?_) AllReadyH.nil)
        · rw [if_pos (by rfl)]
          go_simp
          go_at_call 17
          apply Calls.mono
          (focus (with_reducible (exact cC _ L)))
          rintro e w1 ⟨m2, t2, b2, H2, lo2, hi2, rfl, i2, j2, l2, o2, hl⟩
          obtain ⟨mp2, mc2, rfl, -, -⟩ := RowIn.slice o2.isIn.mem
          obtain ⟨tp2, tc2, rfl, -, -⟩ := RowIn.slice o2.isIn.thr
          obtain ⟨bp2, bc2, rfl, -, -⟩ := RowIn.slice o2.isIn.bufs
          replace o1 := o1.kept (KeptIn.later hl (by omega))
          replace hD := heap_later hl hD
          have sz := hl.size
          replace L := L.trans hl
          clear hl
          refine hK.out _ _ ⟨cell_later a0 L, cell_later a1 L, cell_later a2 L, cell_later a3 L⟩ (fun hHeld => ?_)
          clear hK
          (try simp only [List.getElem_toArray, List.getElem_cons_zero, List.getElem_cons_succ, Act.put, List.setIfInBounds_toArray, List.set_cons_zero, List.set_cons_succ])
          refine wpAnyH_ready (rs := [4]) (by kernel_rfl) (by simp) ?_
          refine AllReadyH.cons (i := 4) rfl (fun K hK => ?_) AllReadyH.nil
          rw [if_pos (by rfl)]
          go_simp
          have la := Later.alloc (Later.refl w1) (.cells #[.slice none 0 0, .slice none 0 0, .slice none 0 0, .int .i64 0] 26)
          have hC := at_new w1 (.cells #[.slice none 0 0, .slice none 0 0, .slice none 0 0, .int .i64 0] 26)
          have sz : w1.heap.size < (w1.alloc (.cells #[.slice none 0 0, .slice none 0 0, .slice none 0 0, .int .i64 0] 26)).heap.size := by show _ < (w1.heap.push _).size; simp
          have gC := L.size
          replace L := L.trans la
          replace o1 := o1.kept (KeptIn.later la (by omega))
          replace o2 := o2.kept (KeptIn.later la (by omega))
          replace hD := heap_later la hD
          have qC : w1.heap.size ≤ w1.heap.size := Nat.le_refl _
          generalize hCC : w1.heap.size = C at *
          have qC2 : w1.heap.size ≤ C := Nat.le_of_eq hCC
          generalize w1.alloc (.cells #[.slice none 0 0, .slice none 0 0, .slice none 0 0, .int .i64 0] 26) = wz at *
          have hCH := Lib.hid hCC
          clear la hCC
          refine hK.out _ _ ⟨cell_later a0 L, cell_later a1 L, cell_later a2 L, cell_later a3 L⟩ (fun hHeld => ?_)
          clear hK
          (try simp only [List.getElem_toArray, List.getElem_cons_zero, List.getElem_cons_succ, Act.put, List.setIfInBounds_toArray, List.set_cons_zero, List.set_cons_succ])
          refine wpAnyH_ready (rs := [6]) (by kernel_rfl) (by simp) ?_
          refine AllReadyH.cons (i := 6) rfl (fun K hK => ?_) AllReadyH.nil
          rw [if_pos (by rfl)]
          obtain ⟨r0, r1, r2, r3, f0, f1, f2, f3⟩ := box4_facts hC
          have neCD : C ≠ D := by omega
          have x1 := put4_box hC (.slice mp1 s.mem.length mc1) (.slice tp1 s.thr.length tc1) (.slice bp1 s.bufs.length bc1) (.int .i64 s.lock)
          have x2 := put4_kept hD neCD (.slice mp1 s.mem.length mc1) (.slice tp1 s.thr.length tc1) (.slice bp1 s.bufs.length bc1) (.int .i64 s.lock)
          have x3 := o1.kept (put4_in (C := C) (lo := lo1) (hi := hi1) (by omega) (.slice mp1 s.mem.length mc1) (.slice tp1 s.thr.length tc1) (.slice bp1 s.bufs.length bc1) (.int .i64 s.lock))
          have x4 := o2.kept (put4_in (C := C) (lo := lo2) (hi := hi2) (by omega) (.slice mp1 s.mem.length mc1) (.slice tp1 s.thr.length tc1) (.slice bp1 s.bufs.length bc1) (.int .i64 s.lock))
          have x5 := put4_later L gC (.slice mp1 s.mem.length mc1) (.slice tp1 s.thr.length tc1) (.slice bp1 s.bufs.length bc1) (.int .i64 s.lock)
          have x6 := Nat.le_of_eq (put4_size wz C (.slice mp1 s.mem.length mc1) (.slice tp1 s.thr.length tc1) (.slice bp1 s.bufs.length bc1) (.int .i64 s.lock)).symm
          go_simp
          unfold put4 at x1 x2 x3 x4 x5 x6
          generalize (((wz.setCell ⟨C, 0, none⟩ (.slice mp1 s.mem.length mc1)).setCell ⟨C, 1, none⟩ (.slice tp1 s.thr.length tc1)).setCell ⟨C, 2, none⟩ (.slice bp1 s.bufs.length bc1)).setCell ⟨C, 3, none⟩ (.int .i64 s.lock) = ws at *
          refine hK.out _ _ ⟨cell_later a0 x5, cell_later a1 x5, cell_later a2 x5, cell_later a3 x5⟩ (fun hHeld => ?_)
          clear hK
          (try simp only [List.getElem_toArray, List.getElem_cons_zero, List.getElem_cons_succ, Act.put, List.setIfInBounds_toArray, List.set_cons_zero, List.set_cons_succ])
          clear r0 r1 r2 r3 f0 f1 f2 f3
          refine wpAnyH_done (by kernel_rfl) ?_ _
          show Oper.wp _ _ _ _ _ _
          obtain ⟨r0, r1, r2, r3, f0, f1, f2, f3⟩ := box4_facts x2
          have y1 := put4_kept x1 (Ne.symm neCD) (.slice mp2 s.mem.length mc2) (.slice tp2 s.thr.length tc2) (.slice bp2 s.bufs.length bc2) (.int .i64 s.lock)
          have y2 := put4_box x2 (.slice mp2 s.mem.length mc2) (.slice tp2 s.thr.length tc2) (.slice bp2 s.bufs.length bc2) (.int .i64 s.lock)
          have y3 := x3.kept (put4_in (C := D) (lo := lo1) (hi := hi1) (by omega) (.slice mp2 s.mem.length mc2) (.slice tp2 s.thr.length tc2) (.slice bp2 s.bufs.length bc2) (.int .i64 s.lock))
          have y4 := x4.kept (put4_in (C := D) (lo := lo2) (hi := hi2) (by omega) (.slice mp2 s.mem.length mc2) (.slice tp2 s.thr.length tc2) (.slice bp2 s.bufs.length bc2) (.int .i64 s.lock))
          have y5 := put4_later x5 gD (.slice mp2 s.mem.length mc2) (.slice tp2 s.thr.length tc2) (.slice bp2 s.bufs.length bc2) (.int .i64 s.lock)
          have y6 := Nat.le_of_eq (put4_size ws D (.slice mp2 s.mem.length mc2) (.slice tp2 s.thr.length tc2) (.slice bp2 s.bufs.length bc2) (.int .i64 s.lock)).symm
          unfold put4 at y1 y2 y3 y4 y5 y6
          go_simp
          go_wp2
          go_meet
          exact ⟨C, D, mp1, mc1, tp1, tc1, bp1, bc1, H1, lo1, hi1, mp2, mc2, tp2, tc2, bp2, bc2, H2, lo2, rfl, rfl, Lib.hid ⟨y5, by omega, by omega, by omega, y1, y2, y3, OwnW.of y4.mem, OwnW.of y4.thr, y4.bufs.1, y4.len, fun i u l hu hx => OwnW.of (y4.each i u l hu hx)⟩, by omega, Lib.hid y4.isIn⟩
        · rw [if_pos (by rfl)]
          go_simp
          have la := Later.alloc (Later.refl w1) (.cells #[.slice none 0 0, .slice none 0 0, .slice none 0 0, .int .i64 0] 26)
          have hC := at_new w1 (.cells #[.slice none 0 0, .slice none 0 0, .slice none 0 0, .int .i64 0] 26)
          have sz : w1.heap.size < (w1.alloc (.cells #[.slice none 0 0, .slice none 0 0, .slice none 0 0, .int .i64 0] 26)).heap.size := by show _ < (w1.heap.push _).size; simp
          have gC := L.size
          replace L := L.trans la
          replace o1 := o1.kept (KeptIn.later la (by omega))
          replace hD := heap_later la hD
          have qC : w1.heap.size ≤ w1.heap.size := Nat.le_refl _
          generalize hCC : w1.heap.size = C at *
          have qC2 : w1.heap.size ≤ C := Nat.le_of_eq hCC
          generalize w1.alloc (.cells #[.slice none 0 0, .slice none 0 0, .slice none 0 0, .int .i64 0] 26) = wz at *
          have hCH := Lib.hid hCC
          clear la hCC
          refine hK.out _ _ ⟨cell_later a0 L, cell_later a1 L, cell_later a2 L, cell_later a3 L⟩ (fun hHeld => ?_)
          clear hK
          (try simp only [List.getElem_toArray, List.getElem_cons_zero, List.getElem_cons_succ, Act.put, List.setIfInBounds_toArray, List.set_cons_zero, List.set_cons_succ])
          refine wpAnyH_ready (rs := [3]) (by kernel_rfl) (by simp) ?_
          refine AllReadyH.cons (i := 3) rfl (fun K hK => ?_) AllReadyH.nil
          rw [if_pos (by rfl)]
          go_simp
          go_at_call 17
          apply Calls.mono
          (focus (with_reducible (exact cC _ L)))
          rintro e w1 ⟨m2, t2, b2, H2, lo2, hi2, rfl, i2, j2, l2, o2, hl⟩
          obtain ⟨mp2, mc2, rfl, -, -⟩ := RowIn.slice o2.isIn.mem
          obtain ⟨tp2, tc2, rfl, -, -⟩ := RowIn.slice o2.isIn.thr
          obtain ⟨bp2, bc2, rfl, -, -⟩ := RowIn.slice o2.isIn.bufs
          replace o1 := o1.kept (KeptIn.later hl (by omega))
          replace hD := heap_later hl hD
          replace hC := heap_later hl hC
          have sz := hl.size
          replace L := L.trans hl
          clear hl
          refine hK.out _ _ ⟨cell_later a0 L, cell_later a1 L, cell_later a2 L, cell_later a3 L⟩ (fun hHeld => ?_)
          clear hK
          (try simp only [List.getElem_toArray, List.getElem_cons_zero, List.getElem_cons_succ, Act.put, List.setIfInBounds_toArray, List.set_cons_zero, List.set_cons_succ])
          refine wpAnyH_ready (rs := [6]) (by kernel_rfl) (by simp) ?_
          refine AllReadyH.cons (i := 6) rfl (fun K hK => ?_) AllReadyH.nil
          rw [if_pos (by rfl)]
          obtain ⟨r0, r1, r2, r3, f0, f1, f2, f3⟩ := box4_facts hC
          have neCD : C ≠ D := by omega
          have x1 := put4_box hC (.slice mp1 s.mem.length mc1) (.slice tp1 s.thr.length tc1) (.slice bp1 s.bufs.length bc1) (.int .i64 s.lock)
          have x2 := put4_kept hD neCD (.slice mp1 s.mem.length mc1) (.slice tp1 s.thr.length tc1) (.slice bp1 s.bufs.length bc1) (.int .i64 s.lock)
          have x3 := o1.kept (put4_in (C := C) (lo := lo1) (hi := hi1) (by omega) (.slice mp1 s.mem.length mc1) (.slice tp1 s.thr.length tc1) (.slice bp1 s.bufs.length bc1) (.int .i64 s.lock))
          have x4 := o2.kept (put4_in (C := C) (lo := lo2) (hi := hi2) (by omega) (.slice mp1 s.mem.length mc1) (.slice tp1 s.thr.length tc1) (.slice bp1 s.bufs.length bc1) (.int .i64 s.lock))
          have x5 := put4_later L gC (.slice mp1 s.mem.length mc1) (.slice tp1 s.thr.length tc1) (.slice bp1 s.bufs.length bc1) (.int .i64 s.lock)
          have x6 := Nat.le_of_eq (put4_size w1 C (.slice mp1 s.mem.length mc1) (.slice tp1 s.thr.length tc1) (.slice bp1 s.bufs.length bc1) (.int .i64 s.lock)).symm
          go_simp
          unfold put4 at x1 x2 x3 x4 x5 x6
          generalize (((w1.setCell ⟨C, 0, none⟩ (.slice mp1 s.mem.length mc1)).setCell ⟨C, 1, none⟩ (.slice tp1 s.thr.length tc1)).setCell ⟨C, 2, none⟩ (.slice bp1 s.bufs.length bc1)).setCell ⟨C, 3, none⟩ (.int .i64 s.lock) = ws at *
          refine hK.out _ _ ⟨cell_later a0 x5, cell_later a1 x5, cell_later a2 x5, cell_later a3 x5⟩ (fun hHeld => ?_)
          clear hK
          (try simp only [List.getElem_toArray, List.getElem_cons_zero, List.getElem_cons_succ, Act.put, List.setIfInBounds_toArray, List.set_cons_zero, List.set_cons_succ])
          clear r0 r1 r2 r3 f0 f1 f2 f3
          refine wpAnyH_done (by kernel_rfl) ?_ _
          show Oper.wp _ _ _ _ _ _
          obtain ⟨r0, r1, r2, r3, f0, f1, f2, f3⟩ := box4_facts x2
          have y1 := put4_kept x1 (Ne.symm neCD) (.slice mp2 s.mem.length mc2) (.slice tp2 s.thr.length tc2) (.slice bp2 s.bufs.length bc2) (.int .i64 s.lock)
          have y2 := put4_box x2 (.slice mp2 s.mem.length mc2) (.slice tp2 s.thr.length tc2) (.slice bp2 s.bufs.length bc2) (.int .i64 s.lock)
          have y3 := x3.kept (put4_in (C := D) (lo := lo1) (hi := hi1) (by omega) (.slice mp2 s.mem.length mc2) (.slice tp2 s.thr.length tc2) (.slice bp2 s.bufs.length bc2) (.int .i64 s.lock))
          have y4 := x4.kept (put4_in (C := D) (lo := lo2) (hi := hi2) (by omega) (.slice mp2 s.mem.length mc2) (.slice tp2 s.thr.length tc2) (.slice bp2 s.bufs.length bc2) (.int .i64 s.lock))
          have y5 := put4_later x5 gD (.slice mp2 s.mem.length mc2) (.slice tp2 s.thr.length tc2) (.slice bp2 s.bufs.length bc2) (.int .i64 s.lock)
          have y6 := Nat.le_of_eq (put4_size ws D (.slice mp2 s.mem.length mc2) (.slice tp2 s.thr.length tc2) (.slice bp2 s.bufs.length bc2) (.int .i64 s.lock)).symm
          unfold put4 at y1 y2 y3 y4 y5 y6
          go_simp
          go_wp2
          go_meet
          exact ⟨C, D, mp1, mc1, tp1, tc1, bp1, bc1, H1, lo1, hi1, mp2, mc2, tp2, tc2, bp2, bc2, H2, lo2, rfl, rfl, Lib.hid ⟨y5, by omega, by omega, by omega, y1, y2, y3, OwnW.of y4.mem, OwnW.of y4.thr, y4.bufs.1, y4.len, fun i u l hu hx => OwnW.of (y4.each i u l hu hx)⟩, by omega, Lib.hid y4.isIn⟩
      · rw [if_pos (by rfl)]
        go_simp
        have la := Later.alloc (Later.refl wz) (.cells #[.slice none 0 0, .slice none 0 0, .slice none 0 0, .int .i64 0] 26)
        have hC := at_new wz (.cells #[.slice none 0 0, .slice none 0 0, .slice none 0 0, .int .i64 0] 26)
        have sz : wz.heap.size < (wz.alloc (.cells #[.slice none 0 0, .slice none 0 0, .slice none 0 0, .int .i64 0] 26)).heap.size := by show _ < (wz.heap.push _).size; simp
        have gC := L.size
        replace L := L.trans la
        replace hD := heap_later la hD
        have qC : wz.heap.size ≤ wz.heap.size := Nat.le_refl _
        generalize hCC : wz.heap.size = C at *
        have qC2 : wz.heap.size ≤ C := Nat.le_of_eq hCC
        generalize wz.alloc (.cells #[.slice none 0 0, .slice none 0 0, .slice none 0 0, .int .i64 0] 26) = wz at *
        have hCH := Lib.hid hCC
        clear la hCC
        refine hK.out _ _ ⟨cell_later a0 L, cell_later a1 L, cell_later a2 L, cell_later a3 L⟩ (fun hHeld => ?_)
        clear hK
        (try simp only [List.getElem_toArray, List.getElem_cons_zero, List.getElem_cons_succ, Act.put, List.setIfInBounds_toArray, List.set_cons_zero, List.set_cons_succ])
        refine wpAnyH_ready (rs := [1]) (by kernel_rfl) (by simp) ?_
        refine AllReadyH.cons (i := 1) rfl (fun K hK => ?_) AllReadyH.nil
        rw [if_pos (by rfl)]
        go_simp
        go_at_call 16
        apply Calls.mono
        (focus (with_reducible (exact cR _ L)))
        rintro e w1 ⟨m1, t1, b1, H1, lo1, hi1, rfl, i1, j1, l1, o1, hl⟩
        obtain ⟨mp1, mc1, rfl, -, -⟩ := RowIn.slice o1.isIn.mem
        obtain ⟨tp1, tc1, rfl, -, -⟩ := RowIn.slice o1.isIn.thr
        obtain ⟨bp1, bc1, rfl, -, -⟩ := RowIn.slice o1.isIn.bufs
        replace hD := heap_later hl hD
        replace hC := heap_later hl hC
        have sz := hl.size
        replace L := L.trans hl
        clear hl
        refine hK.out _ _ ⟨cell_later a0 L, cell_later a1 L, cell_later a2 L, cell_later a3 L⟩ (fun hHeld => ?_)
        clear hK
        (try simp only [List.getElem_toArray, List.getElem_cons_zero, List.getElem_cons_succ, Act.put, List.setIfInBounds_toArray, List.set_cons_zero, List.set_cons_succ])
        refine wpAnyH_ready (rs := [3]) (by kernel_rfl) (by simp) ?_
        refine AllReadyH.cons (i := 3) rfl (fun K hK => ?_) AllReadyH.nil
        rw [if_pos (by rfl)]
        go_simp
        go_at_call 17
        apply Calls.mono
        (focus (with_reducible (exact cC _ L)))
        rintro e w1 ⟨m2, t2, b2, H2, lo2, hi2, rfl, i2, j2, l2, o2, hl⟩
        obtain ⟨mp2, mc2, rfl, -, -⟩ := RowIn.slice o2.isIn.mem
        obtain ⟨tp2, tc2, rfl, -, -⟩ := RowIn.slice o2.isIn.thr
        obtain ⟨bp2, bc2, rfl, -, -⟩ := RowIn.slice o2.isIn.bufs
        replace o1 := o1.kept (KeptIn.later hl (by omega))
        replace hD := heap_later hl hD
        replace hC := heap_later hl hC
        have sz := hl.size
        replace L := L.trans hl
        clear hl
        refine hK.out _ _ ⟨cell_later a0 L, cell_later a1 L, cell_later a2 L, cell_later a3 L⟩ (fun hHeld => ?_)
        clear hK
        (try simp only [List.getElem_toArray, List.getElem_cons_zero, List.getElem_cons_succ, Act.put, List.setIfInBounds_toArray, List.set_cons_zero, List.set_cons_succ])
        refine wpAnyH_ready (rs := [6]) (by kernel_rfl) (by simp) ?_
        refine AllReadyH.cons (i := 6) rfl (fun K hK => ?_) AllReadyH.nil
        rw [if_pos (by rfl)]
        obtain ⟨r0, r1, r2, r3, f0, f1, f2, f3⟩ := box4_facts hC
        have neCD : C ≠ D := by omega
        have x1 := put4_box hC (.slice mp1 s.mem.length mc1) (.slice tp1 s.thr.length tc1) (.slice bp1 s.bufs.length bc1) (.int .i64 s.lock)
        have x2 := put4_kept hD neCD (.slice mp1 s.mem.length mc1) (.slice tp1 s.thr.length tc1) (.slice bp1 s.bufs.length bc1) (.int .i64 s.lock)
        have x3 := o1.kept (put4_in (C := C) (lo := lo1) (hi := hi1) (by omega) (.slice mp1 s.mem.length mc1) (.slice tp1 s.thr.length tc1) (.slice bp1 s.bufs.length bc1) (.int .i64 s.lock))
        have x4 := o2.kept (put4_in (C := C) (lo := lo2) (hi := hi2) (by omega) (.slice mp1 s.mem.length mc1) (.slice tp1 s.thr.length tc1) (.slice bp1 s.bufs.length bc1) (.int .i64 s.lock))
        have x5 := put4_later L gC (.slice mp1 s.mem.length mc1) (.slice tp1 s.thr.length tc1) (.slice bp1 s.bufs.length bc1) (.int .i64 s.lock)
        have x6 := Nat.le_of_eq (put4_size w1 C (.slice mp1 s.mem.length mc1) (.slice tp1 s.thr.length tc1) (.slice bp1 s.bufs.length bc1) (.int .i64 s.lock)).symm
        go_simp
        unfold put4 at x1 x2 x3 x4 x5 x6
        generalize (((w1.setCell ⟨C, 0, none⟩ (.slice mp1 s.mem.length mc1)).setCell ⟨C, 1, none⟩ (.slice tp1 s.thr.length tc1)).setCell ⟨C, 2, none⟩ (.slice bp1 s.bufs.length bc1)).setCell ⟨C, 3, none⟩ (.int .i64 s.lock) = ws at *
        refine hK.out _ _ ⟨cell_later a0 x5, cell_later a1 x5, cell_later a2 x5, cell_later a3 x5⟩ (fun hHeld => ?_)
        clear hK
        (try simp only [List.getElem_toArray, List.getElem_cons_zero, List.getElem_cons_succ, Act.put, List.setIfInBounds_toArray, List.set_cons_zero, List.set_cons_succ])
        clear r0 r1 r2 r3 f0 f1 f2 f3
        refine wpAnyH_done (by kernel_rfl) ?_ _
        show Oper.wp _ _ _ _ _ _
        obtain ⟨r0, r1, r2, r3, f0, f1, f2, f3⟩ := box4_facts x2
        have y1 := put4_kept x1 (Ne.symm neCD) (.slice mp2 s.mem.length mc2) (.slice tp2 s.thr.length tc2) (.slice bp2 s.bufs.length bc2) (.int .i64 s.lock)
        have y2 := put4_box x2 (.slice mp2 s.mem.length mc2) (.slice tp2 s.thr.length tc2) (.slice bp2 s.bufs.length bc2) (.int .i64 s.lock)
        have y3 := x3.kept (put4_in (C := D) (lo := lo1) (hi := hi1) (by omega) (.slice mp2 s.mem.length mc2) (.slice tp2 s.thr.length tc2) (.slice bp2 s.bufs.length bc2) (.int .i64 s.lock))
        have y4 := x4.kept (put4_in (C := D) (lo := lo2) (hi := hi2) (by omega) (.slice mp2 s.mem.length mc2) (.slice tp2 s.thr.length tc2) (.slice bp2 s.bufs.length bc2) (.int .i64 s.lock))
        have y5 := put4_later x5 gD (.slice mp2 s.mem.length mc2) (.slice tp2 s.thr.length tc2) (.slice bp2 s.bufs.length bc2) (.int .i64 s.lock)
        have y6 := Nat.le_of_eq (put4_size ws D (.slice mp2 s.mem.length mc2) (.slice tp2 s.thr.length tc2) (.slice bp2 s.bufs.length bc2) (.int .i64 s.lock)).symm
        unfold put4 at y1 y2 y3 y4 y5 y6
        go_simp
        go_wp2
        go_meet
        exact ⟨C, D, mp1, mc1, tp1, tc1, bp1, bc1, H1, lo1, hi1, mp2, mc2, tp2, tc2, bp2, bc2, H2, lo2, rfl, rfl, Lib.hid ⟨y5, by omega, by omega, by omega, y1, y2, y3, OwnW.of y4.mem, OwnW.of y4.thr, y4.bufs.1, y4.len, fun i u l hu hx => OwnW.of (y4.each i u l hu hx)⟩, by omega, Lib.hid y4.isIn⟩
  case rest =>
    clear cR cC
    obtain ⟨C, D, mp1, mc1, tp1, tc1, bp1, bc1, H1, lo1, hi1, mp2, mc2, tp2, tc2, bp2, bc2, H2, lo2, rfl, rfl, HT, hhi, HM⟩ := hcut
    have LC := HT.out.later
    have c1 := refSame_any wc _ _ _ _ _ _ s s (HS.out.later (LL.trans LC)) HM.out
    rw [msEq_self] at c1
    clear a0 a1 a2 a3
    obtain ⟨a0, a1, a2, a3, -⟩ := box4_facts (heap_later LC HB)
    obtain ⟨d0, d1, d2, d3, -⟩ := box4_facts HT.out.boxD
    go_upto_region 6 with (go_at_call 10; apply Calls.mono; (focus (with_reducible (exact c1))); rintro e w1 ⟨rfl, hl⟩)
    have HT1 : Hid (TwoCopies W w1 C D s (.slice mp1 s.mem.length mc1) (.slice tp1 s.thr.length tc1) (.slice bp1 s.bufs.length bc1) H1 lo1 hi1 (.slice mp2 s.mem.length mc2) (.slice tp2 s.thr.length tc2) (.slice bp2 s.bufs.length bc2) H2 lo2) := Lib.hid (HT.out.next hl hhi)
    have HLB : Hid (MsIn w (.slice mp s.mem.length mc) (.slice tp s.thr.length tc) (.slice bp s.bufs.length bc) s) := HS
    clear a0 a1 a2 a3 d0 d1 d2 d3 c1 HM HT LC
    go_wp2
    clear hl hhi
    go_loopw [5] (fun vi wr => ∃ (i : Nat), vi = .int .i64 (i : Nat) ∧ i ≤ s.mem.length ∧ Hid (TwoCopies W wr C D s (.slice mp1 s.mem.length mc1) (.slice tp1 s.thr.length tc1) (.slice bp1 s.bufs.length bc1) H1 lo1 hi1 (.slice mp2 s.mem.length mc2) (.slice tp2 s.thr.length tc2) (.slice bp2 s.bufs.length bc2) H2 lo2)) (fun vi _ => s.mem.length - (intOf vi).toNat)
    case atStart => exact ⟨0, rfl, by omega, HT1⟩
    case round =>
      clear HT1
      obtain ⟨i, rfl, hi, HT⟩ := hrel
      obtain ⟨d0, d1, d2, d3, -⟩ := box4_facts HT.out.boxD
      by_cases h8 : i < s.mem.length
      · obtain ⟨gm, cur, rfl, gl, gh, gat⟩ := HT.out.mem.at h8
        obtain ⟨⟨u0, e0⟩, f0⟩ := gat 0 (by omega)
        simp only [Nat.mul_one, Nat.add_zero] at e0 f0
        go_wp2
        go_roundw
        case rel => exact ⟨i + 1, by go_num, by omega, Lib.hid (HT.out.write gl gh (by decide) (by decide) ((InOne.refl gm _).set _ _))⟩
        case measure => simp [intOf] <;> omega
      · obtain ⟨w2, hw2⟩ : ∃ w2, wr = w2 := ⟨_, rfl⟩
        subst hw2
        go_wp2
        clear d0 d1 d2 d3
        have HT2 := HT
        clear HT
        go_loopw [6] (fun vi wr => ∃ (i : Nat), vi = .int .i64 (i : Nat) ∧ i ≤ s.thr.length ∧ Hid (TwoCopies W wr C D s (.slice mp1 s.mem.length mc1) (.slice tp1 s.thr.length tc1) (.slice bp1 s.bufs.length bc1) H1 lo1 hi1 (.slice mp2 s.mem.length mc2) (.slice tp2 s.thr.length tc2) (.slice bp2 s.bufs.length bc2) H2 lo2)) (fun vi _ => s.thr.length - (intOf vi).toNat)
        case atStart => exact ⟨0, rfl, by omega, HT2⟩
        case round =>
          clear HT2
          obtain ⟨k, rfl, hk, HT⟩ := hrel
          obtain ⟨d0, d1, d2, d3, -⟩ := box4_facts HT.out.boxD
          by_cases h9 : k < s.thr.length
          · obtain ⟨gm, cur, rfl, gl, gh, gth⟩ := HT.out.thr.there h9
            have GTH : Hid (wr.there gm (k * 16) 16) := gth
            clear gth
            go_wp2_with (refine wpList_store_mid (by rfl) _ _ _ (by rfl) gm (k * 16) _ rfl rfl (by exact GTH.out) (by kernel_rfl) (by kernel_rfl) ?_)
            go_roundw
            case rel => exact ⟨k + 1, by go_num, by omega, Lib.hid (HT.out.write gl gh (by decide) (by decide) (InOne.sets _ _ (InOne.refl _ _)))⟩
            case measure => simp [intOf] <;> omega
          · go_wp2
            clear d0 d1 d2 d3
            have HT3 := HT
            clear HT
            go_loopw [7] (fun vi wr => ∃ (i : Nat), vi = .int .i64 (i : Nat) ∧ i ≤ s.bufs.length ∧ Hid (TwoCopies W wr C D s (.slice mp1 s.mem.length mc1) (.slice tp1 s.thr.length tc1) (.slice bp1 s.bufs.length bc1) H1 lo1 hi1 (.slice mp2 s.mem.length mc2) (.slice tp2 s.thr.length tc2) (.slice bp2 s.bufs.length bc2) H2 lo2)) (fun vi _ => s.bufs.length - (intOf vi).toNat)
            case atStart => exact ⟨0, rfl, by omega, HT3⟩
            case round =>
              clear HT3
              obtain ⟨j, rfl, hj, HT⟩ := hrel
              obtain ⟨d0, d1, d2, d3, -⟩ := box4_facts HT.out.boxD
              by_cases h10 : j < s.bufs.length
              · obtain ⟨l, hl⟩ : ∃ l, s.bufs[j]? = some l := ⟨_, List.getElem?_eq_getElem h10⟩
                obtain ⟨u, hu⟩ : ∃ u, H2[j]? = some u := ⟨_, List.getElem?_eq_getElem (by rw [HT.out.len]; exact h10)⟩
                obtain ⟨up, uc, rfl, hum, -⟩ := HT.out.each j u l hu hl
                have HU : Hid (H2[j]? = some (.slice up l.length uc)) := hu
                have HL : Hid (s.bufs[j]? = some l) := hl
                clear hu hl
                have HT4 := HT
                unfold maxLen at hum
                go_wp2
                clear d0 d1 d2 d3 HT
                go_loopw [8] (fun vi wr => ∃ (i : Nat), vi = .int .i64 (i : Nat) ∧ i ≤ l.length ∧ Hid (TwoCopies W wr C D s (.slice mp1 s.mem.length mc1) (.slice tp1 s.thr.length tc1) (.slice bp1 s.bufs.length bc1) H1 lo1 hi1 (.slice mp2 s.mem.length mc2) (.slice tp2 s.thr.length tc2) (.slice bp2 s.bufs.length bc2) H2 lo2)) (fun vi _ => l.length - (intOf vi).toNat)
                case atStart => exact ⟨0, rfl, by omega, HT4⟩
                case round =>
                  clear HT4
                  obtain ⟨q, rfl, hq, HT⟩ := hrel
                  obtain ⟨d0, d1, d2, d3, -⟩ := box4_facts HT.out.boxD
                  obtain ⟨gb, cb, rfl, -, -, -, y0, -⟩ := own_slot HT.out.len (OwnIn.of HT.out.bufs) HU.out
                  by_cases h11 : q < l.length
                  · obtain ⟨gm, cur, rfl, gl, gh, gat⟩ := (HT.out.each j _ l HU.out HL.out).at h11
                    obtain ⟨⟨u0, e0⟩, f0⟩ := gat 0 (by omega)
                    obtain ⟨⟨u1, e1⟩, f1⟩ := gat 1 (by omega)
                    simp only [Nat.add_zero] at e0 f0
                    go_wp2
                    go_roundw
                    case rel => exact ⟨q + 1, by go_num, by omega, Lib.hid (HT.out.write gl gh (by decide) (by decide) (((InOne.refl gm _).set _ _).set _ _))⟩
                    case measure => simp [intOf] <;> omega
                  · go_wp2
                    go_roundw
                    case rel => exact ⟨j + 1, by go_num, by omega, HT⟩
                    case measure => simp [intOf] <;> omega
              · have LC := HT.out.later
                have c1 := refSame_any wr _ _ _ _ _ _ s s (HLB.out.later (LL.trans LC)) HT.out.stay.isIn
                rw [msEq_self] at c1
                obtain ⟨a0, a1, a2, a3, -⟩ := box4_facts (heap_later LC HB)
                obtain ⟨b0, b1, b2, b3, -⟩ := box4_facts HT.out.boxC
                go_wp2_with (first
                  | (go_at_call 10; apply Calls.mono; (focus (with_reducible (exact c1))); rintro e u1 ⟨rfl, hl1⟩)
                  | (go_at_call 8; apply Calls.mono; (focus (with_reducible (exact cA _ (LL.trans (LC.trans hl1))))); rintro e u2 ⟨rfl, hl2⟩))
                go_ret
                exact ⟨rfl, (LL.trans (LC.trans hl1)).trans hl2⟩

set_option maxRecDepth 100000 in
theorem lifted (os : Os) (started : os.Started) (H : Type) (enc : TypeId × Value → H) :
    ReturnsInHanded {} Tryd.checked os 5 .any (fun w args => (Rows.stateCopiesSpec.pre enc Tryd.prog Tryd.f5 [] false w args ∧ laidMetH Tryd.prog theList w) ∧ sizedMet enc Tryd.prog Tryd.f5 (OpenSpec.ofChange Rows.stateCopiesSpec) false w args)
      (Rows.stateCopiesSpec.post enc Tryd.prog Tryd.f5 false true false false) := by
  refine returnsInHanded_of_change_and (C := Tryd.checked) (X := fun w _ => laidMetH Tryd.prog theList w) (fun _ _ _ hh h => h.of_heap hh) own started (by kernel_rfl) Tryd.func5
    (ChangeSpec.witness_shaped (enc := enc) (C := Tryd.checked) (os := os) (X := fun w _ => laidMetH Tryd.prog theList w) false (World.laidAll Tryd.prog os theList) #[.agg #[.slice none 0 0, .slice none 0 0, .slice none 0 0, .int .i64 0]] 8 (World.laidAll_os _ _ _) (World.shaped_of_ZipB (by kernel_rfl) (by kernel_rfl)) (by kernel_rfl) (by kernel_rfl) (by kernel_rfl) (door_met os _)) ?_
  intro W base args ds gs before hval0 hW _ hsz0 hL _
  have hsz : (DataW.weightsEach Tryd.prog (Tryd.f5.params.toList ++ Rows.stateCopiesSpec.plain.varTypes Tryd.prog) (ds ++ gs)).all (· ≤ reachBytes) = true := hsz0
  clear hsz0
  have hval : ∀ (j : Nat) t v, Tryd.f5.params[j]? = some t → args[j]? = some v → Value.okWide Tryd.prog W .any base t v := hval0
  have hW' := hW
  obtain ⟨p, q, hA0, hV, rfl, hfz, hnd⟩ := hW
  have hA : DataW.TrodAll enc Tryd.prog W 0 (fun _ => true) true Tryd.f5.params.toList args.toList ds p := hA0
  rw [Tryd.params5] at hA hval hsz
  obtain ⟨v0, vs0, d0, ds0, p0, q0, hargs, rfl, rfl, h0, r0⟩ := trodAll_cons hA
  obtain ⟨rfl, rfl, rfl⟩ := trodAll_nil r0
  obtain rfl : args = #[v0] := by cases args; simp_all
  obtain ⟨rfl, rfl⟩ := trodVars_none hV
  simp only [List.append_nil] at hW'
  have h0k := h0
  have hlt0 : ∀ x ∈ p0, x.block < W.heap.size := fun x hx => by simpa using hW'.lt x (by simp [hx])
  obtain ⟨m0, t0, b0, s0, rfl, is0⟩ := open_state (hval 0 26 v0 rfl rfl) h0
  clear hA0 hval0
  refine (walk W (Good.of_laid hL) m0 t0 b0 s0 is0).mono fun e W' ⟨he, hnx⟩ => ?_
  subst he
  refine ⟨_, rfl, _, _, _, [], (p0 ++ []), [], hW', ?_, ?_, rfl, Below.frame hnx _, fun h => by cases h⟩
  · exact (trodAll_cons_mk (shut_bool Tryd.underlying4 _) trodAll_mk0)
  · exact (trodAll_cons_mk (Below.trod laidOut (by kernel_rfl) (of_decide_eq_true (by kernel_rfl)) h0k hnx hlt0) trodAll_mk0)

theorem over : Rows.stateCopiesRow.holds Tryd.pinned (OpenSpec.ofChange Rows.stateCopiesSpec) :=
  OpenClaim.holds_of_wide 5 Tryd.f5 rfl rfl rfl rfl rfl rfl rfl ⟨rfl, rfl, rfl, rfl, rfl⟩ rfl rfl rfl rfl rfl (by kernel_rfl) Tryd.func5 (by kernel_rfl)
    (of_decide_eq_true (by kernel_rfl)) (by unfold Func.isWrapper; first | (rw [if_pos (by decide +kernel)]; kernel_rfl) | (rw [if_neg (by decide +kernel)]; exact ⟨rfl, rfl⟩))
    (fun os started H enc _ => lifted os started H enc)

end Go.Proofs.YtpnbpjhoilibcaaDoor.stateCopies

namespace Go.Proofs.YtpnbpjhoilibcaaDoor
open Go
/-- The statement: the row, with its listed variables tied to the program's text. -/
theorem stateCopies_holds : Rows.StateCopiesCardSaid :=
  Claim7.holds_tied_plain_at .later [] [.data, .data, .data] true Rows.stateCopiesCard.stood.harness false
    stateCopies.over (fun _ h => by cases h) (by kernel_rfl) (fun _ h => by cases h) stateCopies_row_tie rfl ⟨rfl, rfl⟩ (by kernel_rfl) rfl
    (fun f fn hf hfn => by
      obtain rfl : f = 5 := Option.some.inj ((show Tryd.prog.funcNamed Rows.stateCopiesRow.func = some 5 by kernel_rfl).symm.trans hf) |>.symm
      obtain rfl : fn = Tryd.f5 := (Option.some.inj (Tryd.func5.symm.trans hfn)).symm
      exact ⟨by kernel_rfl, fun j t ht => by
        rw [Tryd.params5] at ht
        have hm : t ∈ [26] := by simpa using Array.mem_of_getElem? ht
        have hall : ([26].all fun u => !Tryd.prog.wantsStandIn u) = true := by kernel_rfl
        exact (show Tryd.prog.wantsStandIn t = false by simpa using List.all_eq_true.1 hall t hm)⟩)
    (by kernel_rfl)
#print axioms stateCopies_holds
end Go.Proofs.YtpnbpjhoilibcaaDoor
