/-
  A state's copy, by package state: rows of the call's own; nothing that was in memory turns. Conditions: the state lies in memory, no list of it is longer than a million.
-/
import Derived.Test.YtpnbpjhoilibcaaDoorStateCopyP
import Derived.Test.YtpnbpjhoilibcaaDoorLaterOff
import Derived.Deep.CutRange
import Derived.Deep.RegionHeld3
import Derived.Deep.RegionWith
namespace Go.Proofs.YtpnbpjhoilibcaaDoor
open Go.RowKit
set_option linter.unusedVariables false
set_option linter.unusedSimpArgs false

set_option maxRecDepth 1000000 in
set_option maxHeartbeats 4000000 in
theorem stCopy_any (w : World) (m t b : Value) (x : MSt) (hx : MsIn w m t b x) (h1 : x.mem.length ≤ 1000000) (h2 : x.thr.length ≤ 1000000) (h3 : x.bufs.length ≤ 1000000) (h4 : ∀ l ∈ x.bufs, l.length ≤ 1000000) :
    Calls Tryd.prog 17 #[.agg #[m, t, b, .int .i64 x.lock]] w fun e w' => ∃ m' t' b' H, e = .returned (.agg #[m', t', b', .int .i64 x.lock]) ∧ MsOwn w.heap.size w'.heap.size w' m' t' b' x H ∧ Later w w' := by
  have HOK : Hid x.Ok := hx.ok
  have HX : Hid (MsIn w m t b x) := hx
  have H4 : Hid (∀ l ∈ x.bufs, l.length ≤ 1000000) := h4
  have sM := mem_src hx.mem
  have sT := ts_src hx.thr
  obtain ⟨H0, v1, v2, sB⟩ := buf_src hx.bufs
  have HV : Hid (∀ (i : Nat) u l, H0[i]? = some u → x.bufs[i]? = some l → EntRow w u l) := v2
  obtain ⟨mp, mc, rfl, -, -⟩ := RowIn.slice hx.mem
  obtain ⟨tp, tc, rfl, -, -⟩ := RowIn.slice hx.thr
  obtain ⟨bp, bc, rfl, -, -⟩ := RowIn.slice hx.bufs
  clear hx h4 v2
  obtain ⟨n1, hn1⟩ : ∃ n, x.mem.length = n := ⟨_, rfl⟩
  obtain ⟨n2, hn2⟩ : ∃ n, x.thr.length = n := ⟨_, rfl⟩
  obtain ⟨n3, hn3⟩ : ∃ n, x.bufs.length = n := ⟨_, rfl⟩
  rw [hn1] at h1 sM HX ⊢
  rw [hn2] at h2 sT HX ⊢
  rw [hn3] at h3 sB v1 HX ⊢
  have HN1 : Hid (x.mem.length = n1) := hn1
  have HN2 : Hid (x.thr.length = n2) := hn2
  have HN3 : Hid (x.bufs.length = n3) := hn3
  clear hn1 hn2 hn3
  have L0 := Later.alloc (Later.alloc (Later.refl w) (.cells #[.slice mp n1 mc, .slice tp n2 tc, .slice bp n3 bc, .int .i64 x.lock] 26)) (.cells #[.slice none 0 0, .slice none 0 0, .slice none 0 0, .int .i64 0] 26)
  obtain ⟨HB, HR⟩ := two_new2 w (.cells #[.slice mp n1 mc, .slice tp n2 tc, .slice bp n3 bc, .int .i64 x.lock] 26) (.cells #[.slice none 0 0, .slice none 0 0, .slice none 0 0, .int .i64 0] 26)
  have hsz : Hid (((w.alloc (.cells #[.slice mp n1 mc, .slice tp n2 tc, .slice bp n3 bc, .int .i64 x.lock] 26)).alloc (.cells #[.slice none 0 0, .slice none 0 0, .slice none 0 0, .int .i64 0] 26)).heap.size = w.heap.size + 2) := Lib.hid (by simp)
  go_enter Tryd.func17, Tryd.ntmps17
  go_upto_region 1 with (fail)
  generalize ((w.alloc (.cells #[.slice mp n1 mc, .slice tp n2 tc, .slice bp n3 bc, .int .i64 x.lock] 26)).alloc (.cells #[.slice none 0 0, .slice none 0 0, .slice none 0 0, .int .i64 0] 26)) = W at *
  obtain ⟨a0, a1, a2, a3, -⟩ := box4_facts HB
  have cA := fun w' (hl : Later W w') => cloneCInt_any w' (.slice mp n1 mc) n1 (intsC x.mem) (sM.later (L0.trans hl)) h1
  have cB := fun w' (hl : Later W w') => cloneCTst_any w' (.slice tp n2 tc) n2 (flatC tsC x.thr) (sT.later (L0.trans hl)) h2
  have cC := fun w' (hl : Later W w') => cloneCBuf_any w' (.slice bp n3 bc) n3 H0 (sB.later (L0.trans hl)) h3
  go_cut [3] from 6 to 17 (fun v3 wc => ∃ C p1 q1 p2 q2 p3 q3, v3 = .pointer (some ⟨C, 0, none⟩) ∧ W.heap.size ≤ C ∧ Later W wc ∧ Hid (wc.heap[C]? = some (.cells #[.slice p1 n1 q1, .slice p2 n2 q2, .slice p3 n3 q3, .int .i64 x.lock] 26)) ∧ Hid (wc.ownsRow W.heap.size 2 1 (.slice p1 n1 q1) n1 (intsC x.mem)) ∧ Hid (wc.ownsRow W.heap.size 38 16 (.slice p2 n2 q2) n2 (flatC tsC x.thr)) ∧ Hid (wc.ownsRow W.heap.size 39 1 (.slice p3 n3 q3) n3 H0))
  case first =>
    have L : Later W W.drew := Later.drew (Later.refl W)
    have hC0 := hsz
    clear HB HR hsz HX HV HOK H4 HN1 HN2 HN3 sM sT sB v1 hC0
    refine wp_region_chain (fun w' => w'.cell? ⟨w.heap.size, 0, none⟩ = some (.slice mp n1 mc) ∧ w'.cell? ⟨w.heap.size, 1, none⟩ = some (.slice tp n2 tc) ∧ w'.cell? ⟨w.heap.size, 2, none⟩ = some (.slice bp n3 bc) ∧ w'.cell? ⟨w.heap.size, 3, none⟩ = some (.int .i64 x.lock)) 13 rfl rfl (by kernel_rfl) (by kernel_rfl) rfl (by kernel_rfl) (by kernel_rfl) (by kernel_rfl) (fun hHeld => ?_) ⟨cell_later a0 L, cell_later a1 L, cell_later a2 L, cell_later a3 L⟩
    simp only [List.take_succ_cons, List.take_zero]
    refine wpAnyH_take (i := 0) (v := ?_) rfl (by kernel_rfl) (by kernel_rfl) (by kernel_rfl) (fun _ _ _ h => h) (Or.inl ⟨by rfl, ?_⟩) (by assumption) ?_
    rotate_left
    · intro w hSw
      (try dsimp only at hSw)
      obtain ⟨hSa, hSb, hSc, hSd⟩ := hSw
      simp only [List.getElem_toArray, List.getElem_cons_zero, List.getElem_cons_succ]
      go_simp
      all_goals with_reducible rfl
    simp only [List.getElem_toArray, List.getElem_cons_zero, List.getElem_cons_succ, Act.put, List.setIfInBounds_toArray, List.set_cons_zero, List.set_cons_succ]
    refine wpAnyH_take (i := 1) (v := ?_) rfl (by kernel_rfl) (by kernel_rfl) (by kernel_rfl) (fun _ _ _ h => h) (Or.inl ⟨by rfl, ?_⟩) (by assumption) ?_
    rotate_left
    · intro w hSw
      (try dsimp only at hSw)
      obtain ⟨hSa, hSb, hSc, hSd⟩ := hSw
      simp only [List.getElem_toArray, List.getElem_cons_zero, List.getElem_cons_succ]
      go_simp
      all_goals with_reducible rfl
    simp only [List.getElem_toArray, List.getElem_cons_zero, List.getElem_cons_succ, Act.put, List.setIfInBounds_toArray, List.set_cons_zero, List.set_cons_succ]
    refine wpAnyH_take (i := 3) (v := ?_) rfl (by kernel_rfl) (by kernel_rfl) (by kernel_rfl) (fun _ _ _ h => h) (Or.inl ⟨by rfl, ?_⟩) (by assumption) ?_
    rotate_left
    · intro w hSw
      (try dsimp only at hSw)
      obtain ⟨hSa, hSb, hSc, hSd⟩ := hSw
      simp only [List.getElem_toArray, List.getElem_cons_zero, List.getElem_cons_succ]
      go_simp
      all_goals with_reducible rfl
    simp only [List.getElem_toArray, List.getElem_cons_zero, List.getElem_cons_succ, Act.put, List.setIfInBounds_toArray, List.set_cons_zero, List.set_cons_succ]
    refine wpAnyH_take (i := 4) (v := ?_) rfl (by kernel_rfl) (by kernel_rfl) (by kernel_rfl) (fun _ _ _ h => h) (Or.inl ⟨by rfl, ?_⟩) (by assumption) ?_
    rotate_left
    · intro w hSw
      (try dsimp only at hSw)
      obtain ⟨hSa, hSb, hSc, hSd⟩ := hSw
      simp only [List.getElem_toArray, List.getElem_cons_zero, List.getElem_cons_succ]
      go_simp
      all_goals with_reducible rfl
    simp only [List.getElem_toArray, List.getElem_cons_zero, List.getElem_cons_succ, Act.put, List.setIfInBounds_toArray, List.set_cons_zero, List.set_cons_succ]
    refine wpAnyH_take (i := 6) (v := ?_) rfl (by kernel_rfl) (by kernel_rfl) (by kernel_rfl) (fun _ _ _ h => h) (Or.inl ⟨by rfl, ?_⟩) (by assumption) ?_
    rotate_left
    · intro w hSw
      (try dsimp only at hSw)
      obtain ⟨hSa, hSb, hSc, hSd⟩ := hSw
      simp only [List.getElem_toArray, List.getElem_cons_zero, List.getElem_cons_succ]
      go_simp
      all_goals with_reducible rfl
    simp only [List.getElem_toArray, List.getElem_cons_zero, List.getElem_cons_succ, Act.put, List.setIfInBounds_toArray, List.set_cons_zero, List.set_cons_succ]
    refine wpAnyH_take (i := 7) (v := ?_) rfl (by kernel_rfl) (by kernel_rfl) (by kernel_rfl) (fun _ _ _ h => h) (Or.inl ⟨by rfl, ?_⟩) (by assumption) ?_
    rotate_left
    · intro w hSw
      (try dsimp only at hSw)
      obtain ⟨hSa, hSb, hSc, hSd⟩ := hSw
      simp only [List.getElem_toArray, List.getElem_cons_zero, List.getElem_cons_succ]
      go_simp
      all_goals with_reducible rfl
    simp only [List.getElem_toArray, List.getElem_cons_zero, List.getElem_cons_succ, Act.put, List.setIfInBounds_toArray, List.set_cons_zero, List.set_cons_succ]
    refine wpAnyH_take (i := 9) (v := ?_) rfl (by kernel_rfl) (by kernel_rfl) (by kernel_rfl) (fun _ _ _ h => h) (Or.inl ⟨by rfl, ?_⟩) (by assumption) ?_
    rotate_left
    · intro w hSw
      (try dsimp only at hSw)
      obtain ⟨hSa, hSb, hSc, hSd⟩ := hSw
      simp only [List.getElem_toArray, List.getElem_cons_zero, List.getElem_cons_succ]
      go_simp
      all_goals with_reducible rfl
    simp only [List.getElem_toArray, List.getElem_cons_zero, List.getElem_cons_succ, Act.put, List.setIfInBounds_toArray, List.set_cons_zero, List.set_cons_succ]
    refine wpAnyH_take (i := 10) (v := ?_) rfl (by kernel_rfl) (by kernel_rfl) (by kernel_rfl) (fun _ _ _ h => h) (Or.inl ⟨by rfl, ?_⟩) (by assumption) ?_
    rotate_left
    · intro w hSw
      (try dsimp only at hSw)
      obtain ⟨hSa, hSb, hSc, hSd⟩ := hSw
      simp only [List.getElem_toArray, List.getElem_cons_zero, List.getElem_cons_succ]
      go_simp
      all_goals with_reducible rfl
    simp only [List.getElem_toArray, List.getElem_cons_zero, List.getElem_cons_succ, Act.put, List.setIfInBounds_toArray, List.set_cons_zero, List.set_cons_succ]
    refine wpAnyH_ready (rs := [2, 12]) (by kernel_rfl) (by simp) ?_
    refine AllReadyH.cons (i := 2) rfl (fun K hK => ?_) (AllReadyH.cons (i := 12) rfl (fun K hK => ?_) AllReadyH.nil)
    · rw [if_pos (by rfl)]
      go_simp
      go_at_call 34
      apply Calls.mono
      (focus (with_reducible (exact cA _ L)))
      rintro e w1 ⟨v, rfl, ho, hl⟩
      obtain ⟨p1, q1, rfl⟩ := owns_slice ho
      have o1 := owns_base ho L.size
      clear ho
      replace L := L.trans hl
      clear hl
      obtain ⟨wn, hwn⟩ : ∃ wn, w1 = wn := ⟨_, rfl⟩
      subst hwn
      refine hK.out _ _ ⟨cell_later a0 L, cell_later a1 L, cell_later a2 L, cell_later a3 L⟩ (fun hHeld => ?_)
      clear hK
      (try simp only [List.getElem_toArray, List.getElem_cons_zero, List.getElem_cons_succ, Act.put, List.setIfInBounds_toArray, List.set_cons_zero, List.set_cons_succ])
      refine wpAnyH_ready (rs := [5, 12]) (by kernel_rfl) (by simp) ?_
      refine AllReadyH.cons (i := 5) rfl (fun K hK => ?_) (AllReadyH.cons (i := 12) rfl (fun K hK => ?_) AllReadyH.nil)
      · rw [if_pos (by rfl)]
        go_simp
        go_at_call 35
        apply Calls.mono
        (focus (with_reducible (exact cB _ L)))
        rintro e w1 ⟨v, rfl, ho, hl⟩
        obtain ⟨p2, q2, rfl⟩ := owns_slice ho
        have o2 := owns_base ho L.size
        clear ho
        replace o1 := ownsC_later o1 hl
        replace L := L.trans hl
        clear hl
        obtain ⟨wn, hwn⟩ : ∃ wn, w1 = wn := ⟨_, rfl⟩
        subst hwn
        refine hK.out _ _ ⟨cell_later a0 L, cell_later a1 L, cell_later a2 L, cell_later a3 L⟩ (fun hHeld => ?_)
        clear hK
        (try simp only [List.getElem_toArray, List.getElem_cons_zero, List.getElem_cons_succ, Act.put, List.setIfInBounds_toArray, List.set_cons_zero, List.set_cons_succ])
        refine wpAnyH_ready (rs := [8, 12]) (by kernel_rfl) (by simp) ?_
        refine AllReadyH.cons (i := 8) rfl (fun K hK => ?_) (AllReadyH.cons (i := 12) rfl (fun K hK => ?_) AllReadyH.nil)
        · rw [if_pos (by rfl)]
          go_simp
          go_at_call 36
          apply Calls.mono
          (focus (with_reducible (exact cC _ L)))
          rintro e w1 ⟨v, rfl, ho, hl⟩
          obtain ⟨p3, q3, rfl⟩ := owns_slice ho
          have o3 := owns_base ho L.size
          clear ho
          replace o1 := ownsC_later o1 hl
          replace o2 := ownsC_later o2 hl
          replace L := L.trans hl
          clear hl
          obtain ⟨wn, hwn⟩ : ∃ wn, w1 = wn := ⟨_, rfl⟩
          subst hwn
          refine hK.out _ _ ⟨cell_later a0 L, cell_later a1 L, cell_later a2 L, cell_later a3 L⟩ (fun hHeld => ?_)
          clear hK
          (try simp only [List.getElem_toArray, List.getElem_cons_zero, List.getElem_cons_succ, Act.put, List.setIfInBounds_toArray, List.set_cons_zero, List.set_cons_succ])
          refine wpAnyH_take (i := 11) (v := ?_) rfl (by kernel_rfl) (by kernel_rfl) (by kernel_rfl) (fun _ _ _ h => h) (Or.inl ⟨by rfl, ?_⟩) (by assumption) ?_
          rotate_left
          · intro w hSw
            simp only [List.getElem_toArray, List.getElem_cons_zero, List.getElem_cons_succ]
            go_simp
            all_goals with_reducible rfl
          simp only [List.getElem_toArray, List.getElem_cons_zero, List.getElem_cons_succ, Act.put, List.setIfInBounds_toArray, List.set_cons_zero, List.set_cons_succ]
          refine wpAnyH_ready (rs := [12]) (by kernel_rfl) (by simp) ?_
          refine AllReadyH.cons (i := 12) rfl (fun K hK => ?_) AllReadyH.nil
          rw [if_pos (by rfl)]
          go_simp
          have la := Later.alloc (Later.refl (w1)) (.cells #[.slice none 0 0, .slice none 0 0, .slice none 0 0, .int .i64 0] 26)
          have hC := at_new (w1) (.cells #[.slice none 0 0, .slice none 0 0, .slice none 0 0, .int .i64 0] 26)
          have gC := L.size
          replace L := L.trans la
          replace o1 := ownsC_later o1 la
          replace o2 := ownsC_later o2 la
          replace o3 := ownsC_later o3 la
          generalize hCC : (w1).heap.size = C at *
          generalize (w1).alloc (.cells #[.slice none 0 0, .slice none 0 0, .slice none 0 0, .int .i64 0] 26) = wz at *
          clear la
          refine hK.out _ _ ⟨cell_later a0 L, cell_later a1 L, cell_later a2 L, cell_later a3 L⟩ (fun hHeld => ?_)
          clear hK
          (try simp only [List.getElem_toArray, List.getElem_cons_zero, List.getElem_cons_succ, Act.put, List.setIfInBounds_toArray, List.set_cons_zero, List.set_cons_succ])
          refine wpAnyH_done (by kernel_rfl) ?_ _
          show Oper.wp _ _ _ _ _ _
          obtain ⟨r0, r1, r2, r3, f0, f1, f2, f3⟩ := box4_facts hC
          go_simp
          go_wp2
          go_meet
          have s1 := setCell_block hC 0 (.slice p1 n1 q1)
          have s2 := setCell_block s1 1 (.slice p2 n2 q2)
          have s3 := setCell_block s2 2 (.slice p3 n3 q3)
          have t1 := owns_set_other (owns_set_other (owns_set_other (owns_set_other o1 hC (fun cs fz e0 => by cases e0) 0 _) s1 (fun cs fz e0 => by cases e0) 1 _) s2 (fun cs fz e0 => by cases e0) 2 _) s3 (fun cs fz e0 => by cases e0) 3 (.int .i64 x.lock)
          have t2 := owns_set_other (owns_set_other (owns_set_other (owns_set_other o2 hC (fun cs fz e0 => by cases e0) 0 _) s1 (fun cs fz e0 => by cases e0) 1 _) s2 (fun cs fz e0 => by cases e0) 2 _) s3 (fun cs fz e0 => by cases e0) 3 (.int .i64 x.lock)
          have t3 := owns_set_other (owns_set_other (owns_set_other (owns_set_other o3 hC (fun cs fz e0 => by cases e0) 0 _) s1 (fun cs fz e0 => by cases e0) 1 _) s2 (fun cs fz e0 => by cases e0) 2 _) s3 (fun cs fz e0 => by cases e0) 3 (.int .i64 x.lock)
          exact ⟨C, p1, q1, p2, q2, p3, q3, rfl, gC, Later.setCell (Later.setCell (Later.setCell (Later.setCell L gC 0 _) gC 1 _) gC 2 _) gC 3 _, box4_stored hC _ _ _ _, t1, t2, t3⟩
        · rw [if_pos (by rfl)]
          go_simp
          have la := Later.alloc (Later.refl (w1)) (.cells #[.slice none 0 0, .slice none 0 0, .slice none 0 0, .int .i64 0] 26)
          have hC := at_new (w1) (.cells #[.slice none 0 0, .slice none 0 0, .slice none 0 0, .int .i64 0] 26)
          have gC := L.size
          replace L := L.trans la
          replace o1 := ownsC_later o1 la
          replace o2 := ownsC_later o2 la
          generalize hCC : (w1).heap.size = C at *
          generalize (w1).alloc (.cells #[.slice none 0 0, .slice none 0 0, .slice none 0 0, .int .i64 0] 26) = wz at *
          clear la
          refine hK.out _ _ ⟨cell_later a0 L, cell_later a1 L, cell_later a2 L, cell_later a3 L⟩ (fun hHeld => ?_)
          clear hK
          (try simp only [List.getElem_toArray, List.getElem_cons_zero, List.getElem_cons_succ, Act.put, List.setIfInBounds_toArray, List.set_cons_zero, List.set_cons_succ])
          refine wpAnyH_ready (rs := [8]) (by kernel_rfl) (by simp) ?_
          refine AllReadyH.cons (i := 8) rfl (fun K hK => ?_) AllReadyH.nil
          rw [if_pos (by rfl)]
          go_simp
          go_at_call 36
          apply Calls.mono
          (focus (with_reducible (exact cC _ L)))
          rintro e w1 ⟨v, rfl, ho, hl⟩
          obtain ⟨p3, q3, rfl⟩ := owns_slice ho
          have o3 := owns_base ho L.size
          clear ho
          replace o1 := ownsC_later o1 hl
          replace o2 := ownsC_later o2 hl
          replace hC := heap_later hl hC
          replace L := L.trans hl
          clear hl
          obtain ⟨wn, hwn⟩ : ∃ wn, w1 = wn := ⟨_, rfl⟩
          subst hwn
          refine hK.out _ _ ⟨cell_later a0 L, cell_later a1 L, cell_later a2 L, cell_later a3 L⟩ (fun hHeld => ?_)
          clear hK
          (try simp only [List.getElem_toArray, List.getElem_cons_zero, List.getElem_cons_succ, Act.put, List.setIfInBounds_toArray, List.set_cons_zero, List.set_cons_succ])
          refine wpAnyH_take (i := 11) (v := ?_) rfl (by kernel_rfl) (by kernel_rfl) (by kernel_rfl) (fun _ _ _ h => h) (Or.inl ⟨by rfl, ?_⟩) (by assumption) ?_
          rotate_left
          · intro w hSw
            simp only [List.getElem_toArray, List.getElem_cons_zero, List.getElem_cons_succ]
            go_simp
            all_goals with_reducible rfl
          simp only [List.getElem_toArray, List.getElem_cons_zero, List.getElem_cons_succ, Act.put, List.setIfInBounds_toArray, List.set_cons_zero, List.set_cons_succ]
          refine wpAnyH_done (by kernel_rfl) ?_ _
          show Oper.wp _ _ _ _ _ _
          obtain ⟨r0, r1, r2, r3, f0, f1, f2, f3⟩ := box4_facts hC
          go_simp
          go_wp2
          go_meet
          have s1 := setCell_block hC 0 (.slice p1 n1 q1)
          have s2 := setCell_block s1 1 (.slice p2 n2 q2)
          have s3 := setCell_block s2 2 (.slice p3 n3 q3)
          have t1 := owns_set_other (owns_set_other (owns_set_other (owns_set_other o1 hC (fun cs fz e0 => by cases e0) 0 _) s1 (fun cs fz e0 => by cases e0) 1 _) s2 (fun cs fz e0 => by cases e0) 2 _) s3 (fun cs fz e0 => by cases e0) 3 (.int .i64 x.lock)
          have t2 := owns_set_other (owns_set_other (owns_set_other (owns_set_other o2 hC (fun cs fz e0 => by cases e0) 0 _) s1 (fun cs fz e0 => by cases e0) 1 _) s2 (fun cs fz e0 => by cases e0) 2 _) s3 (fun cs fz e0 => by cases e0) 3 (.int .i64 x.lock)
          have t3 := owns_set_other (owns_set_other (owns_set_other (owns_set_other o3 hC (fun cs fz e0 => by cases e0) 0 _) s1 (fun cs fz e0 => by cases e0) 1 _) s2 (fun cs fz e0 => by cases e0) 2 _) s3 (fun cs fz e0 => by cases e0) 3 (.int .i64 x.lock)
          exact ⟨C, p1, q1, p2, q2, p3, q3, rfl, gC, Later.setCell (Later.setCell (Later.setCell (Later.setCell L gC 0 _) gC 1 _) gC 2 _) gC 3 _, box4_stored hC _ _ _ _, t1, t2, t3⟩
      · rw [if_pos (by rfl)]
        go_simp
        have la := Later.alloc (Later.refl (w1)) (.cells #[.slice none 0 0, .slice none 0 0, .slice none 0 0, .int .i64 0] 26)
        have hC := at_new (w1) (.cells #[.slice none 0 0, .slice none 0 0, .slice none 0 0, .int .i64 0] 26)
        have gC := L.size
        replace L := L.trans la
        replace o1 := ownsC_later o1 la
        generalize hCC : (w1).heap.size = C at *
        generalize (w1).alloc (.cells #[.slice none 0 0, .slice none 0 0, .slice none 0 0, .int .i64 0] 26) = wz at *
        clear la
        refine hK.out _ _ ⟨cell_later a0 L, cell_later a1 L, cell_later a2 L, cell_later a3 L⟩ (fun hHeld => ?_)
        clear hK
        (try simp only [List.getElem_toArray, List.getElem_cons_zero, List.getElem_cons_succ, Act.put, List.setIfInBounds_toArray, List.set_cons_zero, List.set_cons_succ])
        refine wpAnyH_ready (rs := [5]) (by kernel_rfl) (by simp) ?_
        refine AllReadyH.cons (i := 5) rfl (fun K hK => ?_) AllReadyH.nil
        rw [if_pos (by rfl)]
        go_simp
        go_at_call 35
        apply Calls.mono
        (focus (with_reducible (exact cB _ L)))
        rintro e w1 ⟨v, rfl, ho, hl⟩
        obtain ⟨p2, q2, rfl⟩ := owns_slice ho
        have o2 := owns_base ho L.size
        clear ho
        replace o1 := ownsC_later o1 hl
        replace hC := heap_later hl hC
        replace L := L.trans hl
        clear hl
        obtain ⟨wn, hwn⟩ : ∃ wn, w1 = wn := ⟨_, rfl⟩
        subst hwn
        refine hK.out _ _ ⟨cell_later a0 L, cell_later a1 L, cell_later a2 L, cell_later a3 L⟩ (fun hHeld => ?_)
        clear hK
        (try simp only [List.getElem_toArray, List.getElem_cons_zero, List.getElem_cons_succ, Act.put, List.setIfInBounds_toArray, List.set_cons_zero, List.set_cons_succ])
        refine wpAnyH_ready (rs := [8]) (by kernel_rfl) (by simp) ?_
        refine AllReadyH.cons (i := 8) rfl (fun K hK => ?_) AllReadyH.nil
        rw [if_pos (by rfl)]
        go_simp
        go_at_call 36
        apply Calls.mono
        (focus (with_reducible (exact cC _ L)))
        rintro e w1 ⟨v, rfl, ho, hl⟩
        obtain ⟨p3, q3, rfl⟩ := owns_slice ho
        have o3 := owns_base ho L.size
        clear ho
        replace o1 := ownsC_later o1 hl
        replace o2 := ownsC_later o2 hl
        replace hC := heap_later hl hC
        replace L := L.trans hl
        clear hl
        obtain ⟨wn, hwn⟩ : ∃ wn, w1 = wn := ⟨_, rfl⟩
        subst hwn
        refine hK.out _ _ ⟨cell_later a0 L, cell_later a1 L, cell_later a2 L, cell_later a3 L⟩ (fun hHeld => ?_)
        clear hK
        (try simp only [List.getElem_toArray, List.getElem_cons_zero, List.getElem_cons_succ, Act.put, List.setIfInBounds_toArray, List.set_cons_zero, List.set_cons_succ])
        refine wpAnyH_take (i := 11) (v := ?_) rfl (by kernel_rfl) (by kernel_rfl) (by kernel_rfl) (fun _ _ _ h => h) (Or.inl ⟨by rfl, ?_⟩) (by assumption) ?_
        rotate_left
        · intro w hSw
          simp only [List.getElem_toArray, List.getElem_cons_zero, List.getElem_cons_succ]
          go_simp
          all_goals with_reducible rfl
        simp only [List.getElem_toArray, List.getElem_cons_zero, List.getElem_cons_succ, Act.put, List.setIfInBounds_toArray, List.set_cons_zero, List.set_cons_succ]
        refine wpAnyH_done (by kernel_rfl) ?_ _
        show Oper.wp _ _ _ _ _ _
        obtain ⟨r0, r1, r2, r3, f0, f1, f2, f3⟩ := box4_facts hC
        go_simp
        go_wp2
        go_meet
        have s1 := setCell_block hC 0 (.slice p1 n1 q1)
        have s2 := setCell_block s1 1 (.slice p2 n2 q2)
        have s3 := setCell_block s2 2 (.slice p3 n3 q3)
        have t1 := owns_set_other (owns_set_other (owns_set_other (owns_set_other o1 hC (fun cs fz e0 => by cases e0) 0 _) s1 (fun cs fz e0 => by cases e0) 1 _) s2 (fun cs fz e0 => by cases e0) 2 _) s3 (fun cs fz e0 => by cases e0) 3 (.int .i64 x.lock)
        have t2 := owns_set_other (owns_set_other (owns_set_other (owns_set_other o2 hC (fun cs fz e0 => by cases e0) 0 _) s1 (fun cs fz e0 => by cases e0) 1 _) s2 (fun cs fz e0 => by cases e0) 2 _) s3 (fun cs fz e0 => by cases e0) 3 (.int .i64 x.lock)
        have t3 := owns_set_other (owns_set_other (owns_set_other (owns_set_other o3 hC (fun cs fz e0 => by cases e0) 0 _) s1 (fun cs fz e0 => by cases e0) 1 _) s2 (fun cs fz e0 => by cases e0) 2 _) s3 (fun cs fz e0 => by cases e0) 3 (.int .i64 x.lock)
        exact ⟨C, p1, q1, p2, q2, p3, q3, rfl, gC, Later.setCell (Later.setCell (Later.setCell (Later.setCell L gC 0 _) gC 1 _) gC 2 _) gC 3 _, box4_stored hC _ _ _ _, t1, t2, t3⟩
    · rw [if_pos (by rfl)]
      go_simp
      have hC : (W.alloc (.cells #[.slice none 0 0, .slice none 0 0, .slice none 0 0, .int .i64 0] 26)).drew.heap[W.heap.size]? = some (.cells #[.slice none 0 0, .slice none 0 0, .slice none 0 0, .int .i64 0] 26) := at_new W (.cells #[.slice none 0 0, .slice none 0 0, .slice none 0 0, .int .i64 0] 26)
      have LZ : Later W (W.alloc (.cells #[.slice none 0 0, .slice none 0 0, .slice none 0 0, .int .i64 0] 26)).drew := Later.drew (Later.alloc (Later.refl W) (.cells #[.slice none 0 0, .slice none 0 0, .slice none 0 0, .int .i64 0] 26))
      replace L := LZ
      clear LZ
      generalize (W.alloc (.cells #[.slice none 0 0, .slice none 0 0, .slice none 0 0, .int .i64 0] 26)).drew = wz at *
      obtain ⟨C, hCC⟩ : ∃ C, W.heap.size = C := ⟨_, rfl⟩
      have gC : W.heap.size ≤ C := Nat.le_of_eq hCC
      rw [hCC] at hC
      refine hK.out _ _ ⟨cell_later a0 L, cell_later a1 L, cell_later a2 L, cell_later a3 L⟩ (fun hHeld => ?_)
      clear hK
      (try simp only [List.getElem_toArray, List.getElem_cons_zero, List.getElem_cons_succ, Act.put, List.setIfInBounds_toArray, List.set_cons_zero, List.set_cons_succ])
      refine wpAnyH_ready (rs := [2]) (by kernel_rfl) (by simp) ?_
      refine AllReadyH.cons (i := 2) rfl (fun K hK => ?_) AllReadyH.nil
      rw [if_pos (by rfl)]
      go_simp
      go_at_call 34
      apply Calls.mono
      (focus (with_reducible (exact cA _ L)))
      rintro e w1 ⟨v, rfl, ho, hl⟩
      obtain ⟨p1, q1, rfl⟩ := owns_slice ho
      have o1 := owns_base ho L.size
      clear ho
      replace hC := heap_later hl hC
      replace L := L.trans hl
      clear hl
      obtain ⟨wn, hwn⟩ : ∃ wn, w1 = wn := ⟨_, rfl⟩
      subst hwn
      refine hK.out _ _ ⟨cell_later a0 L, cell_later a1 L, cell_later a2 L, cell_later a3 L⟩ (fun hHeld => ?_)
      clear hK
      (try simp only [List.getElem_toArray, List.getElem_cons_zero, List.getElem_cons_succ, Act.put, List.setIfInBounds_toArray, List.set_cons_zero, List.set_cons_succ])
      refine wpAnyH_ready (rs := [5]) (by kernel_rfl) (by simp) ?_
      refine AllReadyH.cons (i := 5) rfl (fun K hK => ?_) AllReadyH.nil
      rw [if_pos (by rfl)]
      go_simp
      go_at_call 35
      apply Calls.mono
      (focus (with_reducible (exact cB _ L)))
      rintro e w1 ⟨v, rfl, ho, hl⟩
      obtain ⟨p2, q2, rfl⟩ := owns_slice ho
      have o2 := owns_base ho L.size
      clear ho
      replace o1 := ownsC_later o1 hl
      replace hC := heap_later hl hC
      replace L := L.trans hl
      clear hl
      obtain ⟨wn, hwn⟩ : ∃ wn, w1 = wn := ⟨_, rfl⟩
      subst hwn
      refine hK.out _ _ ⟨cell_later a0 L, cell_later a1 L, cell_later a2 L, cell_later a3 L⟩ (fun hHeld => ?_)
      clear hK
      (try simp only [List.getElem_toArray, List.getElem_cons_zero, List.getElem_cons_succ, Act.put, List.setIfInBounds_toArray, List.set_cons_zero, List.set_cons_succ])
      refine wpAnyH_ready (rs := [8]) (by kernel_rfl) (by simp) ?_
      refine AllReadyH.cons (i := 8) rfl (fun K hK => ?_) AllReadyH.nil
      rw [if_pos (by rfl)]
      go_simp
      go_at_call 36
      apply Calls.mono
      (focus (with_reducible (exact cC _ L)))
      rintro e w1 ⟨v, rfl, ho, hl⟩
      obtain ⟨p3, q3, rfl⟩ := owns_slice ho
      have o3 := owns_base ho L.size
      clear ho
      replace o1 := ownsC_later o1 hl
      replace o2 := ownsC_later o2 hl
      replace hC := heap_later hl hC
      replace L := L.trans hl
      clear hl
      obtain ⟨wn, hwn⟩ : ∃ wn, w1 = wn := ⟨_, rfl⟩
      subst hwn
      refine hK.out _ _ ⟨cell_later a0 L, cell_later a1 L, cell_later a2 L, cell_later a3 L⟩ (fun hHeld => ?_)
      clear hK
      (try simp only [List.getElem_toArray, List.getElem_cons_zero, List.getElem_cons_succ, Act.put, List.setIfInBounds_toArray, List.set_cons_zero, List.set_cons_succ])
      refine wpAnyH_take (i := 11) (v := ?_) rfl (by kernel_rfl) (by kernel_rfl) (by kernel_rfl) (fun _ _ _ h => h) (Or.inl ⟨by rfl, ?_⟩) (by assumption) ?_
      rotate_left
      · intro w hSw
        simp only [List.getElem_toArray, List.getElem_cons_zero, List.getElem_cons_succ]
        go_simp
        all_goals with_reducible rfl
      simp only [List.getElem_toArray, List.getElem_cons_zero, List.getElem_cons_succ, Act.put, List.setIfInBounds_toArray, List.set_cons_zero, List.set_cons_succ]
      refine wpAnyH_done (by kernel_rfl) ?_ _
      show Oper.wp _ _ _ _ _ _
      obtain ⟨r0, r1, r2, r3, f0, f1, f2, f3⟩ := box4_facts hC
      go_simp
      go_wp2
      go_meet
      have s1 := setCell_block hC 0 (.slice p1 n1 q1)
      have s2 := setCell_block s1 1 (.slice p2 n2 q2)
      have s3 := setCell_block s2 2 (.slice p3 n3 q3)
      have t1 := owns_set_other (owns_set_other (owns_set_other (owns_set_other o1 hC (fun cs fz e0 => by cases e0) 0 _) s1 (fun cs fz e0 => by cases e0) 1 _) s2 (fun cs fz e0 => by cases e0) 2 _) s3 (fun cs fz e0 => by cases e0) 3 (.int .i64 x.lock)
      have t2 := owns_set_other (owns_set_other (owns_set_other (owns_set_other o2 hC (fun cs fz e0 => by cases e0) 0 _) s1 (fun cs fz e0 => by cases e0) 1 _) s2 (fun cs fz e0 => by cases e0) 2 _) s3 (fun cs fz e0 => by cases e0) 3 (.int .i64 x.lock)
      have t3 := owns_set_other (owns_set_other (owns_set_other (owns_set_other o3 hC (fun cs fz e0 => by cases e0) 0 _) s1 (fun cs fz e0 => by cases e0) 1 _) s2 (fun cs fz e0 => by cases e0) 2 _) s3 (fun cs fz e0 => by cases e0) 3 (.int .i64 x.lock)
      exact ⟨C, p1, q1, p2, q2, p3, q3, rfl, gC, Later.setCell (Later.setCell (Later.setCell (Later.setCell L gC 0 _) gC 1 _) gC 2 _) gC 3 _, box4_stored hC _ _ _ _, t1, t2, t3⟩
  case rest =>
    obtain ⟨C, p1, q1, p2, q2, p3, q3, rfl, gC, LC, HC, HO1, HO2, HO3⟩ := hcut
    have HB0 : Hid (HalfB w wc W.heap.size (.slice p3 n3 q3) x.bufs H0 0) := Lib.hid ⟨by rw [HN3.out]; exact HO3.out, by rw [v1, HN3.out], fun j l hj => by
      have hjl := (List.getElem?_eq_some_iff.1 hj).1
      have hv : H0[j]? = some (H0[j]'(by rw [v1, ← HN3.out]; exact hjl)) := List.getElem?_eq_getElem _
      exact ⟨_, hv, fun h => absurd h (Nat.not_lt_zero _), fun _ => HV.out j _ l hv hj⟩⟩
    clear HO3 cA cB cC sM sT sB v1 HV a0 a1 a2 a3
    obtain ⟨b0, b1, b2, b3, -⟩ := box4_facts HC.out
    go_wp2
    go_loopw [21] (fun vi wr => ∃ (i : Nat) (H : List Value), vi = .int .i64 (i : Nat) ∧ i ≤ n3 ∧ Later W wr ∧ Hid (wr.heap[C]? = some (.cells #[.slice p1 n1 q1, .slice p2 n2 q2, .slice p3 n3 q3, .int .i64 x.lock] 26)) ∧ Hid (wr.ownsRow W.heap.size 2 1 (.slice p1 n1 q1) n1 (intsC x.mem)) ∧ Hid (wr.ownsRow W.heap.size 38 16 (.slice p2 n2 q2) n2 (flatC tsC x.thr)) ∧ Hid (HalfB w wr W.heap.size (.slice p3 n3 q3) x.bufs H i)) (fun vi _ => n3 - (intOf vi).toNat)
    case atStart => exact ⟨0, H0, rfl, by omega, LC, HC, HO1, HO2, HB0⟩
    case round =>
      clear HC HO1 HO2 HB0 b0 b1 b2 b3 LC
      obtain ⟨i, H, rfl, hi, hlw, HCr, HO1, HO2, HBr⟩ := hrel
      obtain ⟨b0, b1, b2, b3, -⟩ := box4_facts HCr.out
      have hH : H.length = n3 := by rw [HBr.out.len, HN3.out]
      have hrow : OwnIn W.heap.size wr.heap.size wr 39 1 (.slice p3 n3 q3) n3 H := OwnIn.of (by have := HBr.out.row; rwa [HN3.out] at this)
      by_cases h8 : i < n3
      · obtain ⟨l, hx⟩ : ∃ l, x.bufs[i]? = some l := ⟨_, List.getElem?_eq_getElem (by rw [HN3.out]; exact h8)⟩
        obtain ⟨u, t1, -, t3⟩ := HBr.out.each i l hx
        have ht3 := t3 (Nat.le_refl _)
        obtain ⟨g, cur, rfl, hg0, -, hg, c2, f2⟩ := own_slot hH hrow t1
        have hl4 := H4.out l (List.mem_of_getElem? hx)
        have cE := cloneCEnt_any wr.drew u l.length (flatC entC l) ((ent_src ht3).later ((L0.trans hlw).trans (Later.drew (Later.refl wr)))) hl4
        obtain ⟨up, uc, rfl, -, -⟩ := RowIn.slice ht3
        have hne : g ≠ C := by
          rintro rfl
          rw [HCr.out] at hg
          cases hg
        have LD : Later wr wr.drew := Later.drew (Later.refl wr)
        have HXI : Hid (x.bufs[i]? = some l) := hx
        clear t1 t3 ht3 hrow hx
        go_upto_region 5 with (fail)
        go_region_with (go_at_call 37; apply Calls.mono; (focus (with_reducible (exact cE))); rintro e w2 ⟨iv, rfl, ho2, hl2⟩; obtain ⟨p9, q9, rfl⟩ := owns_slice ho2; have l2 := LD.trans hl2; have e2 := cell_later c2 l2; have d2 := cell_later b2 l2; have hg2 := heap_later l2 hg; have k2 : w2.frozen? ⟨g, i, none⟩ = false := (by simp [World.frozen?, hg2]))
        all_goals
          go_wp2
          go_roundw
          case rel => exact ⟨i + 1, _, by go_num, by omega, Later.setCell (hlw.trans l2) hg0 _ _, set_kept (heap_later l2 HCr.out) hne, owns_set_other (ownsC_later HO1.out l2) hg2 (fun cs fz e0 => by cases e0) _ _, owns_set_other (ownsC_later HO2.out l2) hg2 (fun cs fz e0 => by cases e0) _ _, (HBr.out.later l2).next HXI.out (owns_base ho2 hlw.size) hg2 HN3.out⟩
          case measure => simp [intOf] <;> omega
      · obtain rfl : i = n3 := by omega
        have hR := heap_later hlw HR
        obtain ⟨z0, z1, z2, z3, z4, z5, z6, z7⟩ := box4_facts hR
        have s1 := setCell_block hR 0 (.slice p1 n1 q1)
        have s2 := setCell_block s1 1 (.slice p2 n2 q2)
        have s3 := setCell_block s2 2 (.slice p3 i q3)
        have u1 := owns_set_other (owns_set_other (owns_set_other (owns_set_other HO1.out hR (fun cs fz e0 => by cases e0) 0 _) s1 (fun cs fz e0 => by cases e0) 1 _) s2 (fun cs fz e0 => by cases e0) 2 _) s3 (fun cs fz e0 => by cases e0) 3 (.int .i64 x.lock)
        have u2 := owns_set_other (owns_set_other (owns_set_other (owns_set_other HO2.out hR (fun cs fz e0 => by cases e0) 0 _) s1 (fun cs fz e0 => by cases e0) 1 _) s2 (fun cs fz e0 => by cases e0) 2 _) s3 (fun cs fz e0 => by cases e0) 3 (.int .i64 x.lock)
        have u3 := (((HBr.out.off hR (fun cs fz e0 => by cases e0) (fun cs fz e0 => by cases e0) 0 (.slice p1 n1 q1)).off s1 (fun cs fz e0 => by cases e0) (fun cs fz e0 => by cases e0) 1 (.slice p2 n2 q2)).off s2 (fun cs fz e0 => by cases e0) (fun cs fz e0 => by cases e0) 2 (.slice p3 i q3)).off s3 (fun cs fz e0 => by cases e0) (fun cs fz e0 => by cases e0) 3 (.int .i64 x.lock)
        have HU1 := Lib.hid u1
        have HU2 := Lib.hid u2
        have HU3 := Lib.hid u3
        have HS4 := Lib.hid (box4_stored hR (.slice p1 n1 q1) (.slice p2 n2 q2) (.slice p3 i q3) (.int .i64 x.lock))
        have gR : w.heap.size ≤ w.heap.size + 1 := Nat.le_succ _
        have HLF := Lib.hid (Later.setCell (Later.setCell (Later.setCell (Later.setCell (L0.trans hlw) gR 0 (.slice p1 n1 q1)) gR 1 (.slice p2 n2 q2)) gR 2 (.slice p3 i q3)) gR 3 (.int .i64 x.lock))
        have HLE : Hid (w.heap.size ≤ W.heap.size) := L0.size
        clear s1 s2 s3 u1 u2 u3 hrow
        go_wp2
        obtain ⟨r0, r1, r2, r3, -⟩ := box4_facts HS4.out
        refine bodyPost_ret (by simp [results, Tryd.results17, go_sem, r0, r1, r2, r3]; try rfl) rfl ?_
        refine ⟨_, _, _, H, rfl, ⟨?_, ?_, ?_, by rw [hH, HN3.out], fun k u l hu hl => ?_, HOK.out⟩, HLF.out⟩
        · rw [HN1.out]; exact (OwnIn.of HU1.out).wide HLE.out (Nat.le_refl _)
        · rw [HN2.out]; exact (OwnIn.of HU2.out).wide HLE.out (Nat.le_refl _)
        · exact (OwnIn.of HU3.out.row).wide HLE.out (Nat.le_refl _)
        · exact (OwnIn.of (HalfB.done HN3.out HU3.out k u l hu hl)).wide HLE.out (Nat.le_refl _)

end Go.Proofs.YtpnbpjhoilibcaaDoor
