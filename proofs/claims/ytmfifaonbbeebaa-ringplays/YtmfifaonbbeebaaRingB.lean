/-
  A ring's calls that change it: Push and Pop. Conditions: as each theorem names them.
-/
import Derived.Test.YtmfifaonbbeebaaRingA
namespace Go.Proofs.Ytmfifaonbbeebaa
open Go.RowKit Go.WideShapes
set_option linter.unusedVariables false
set_option linter.unusedSimpArgs false

theorem push_nil (w : World) (x : Int × Int) : Calls Try.prog 11 #[.pointer none, entV x] w fun e w' => e = .returned (.tuple #[]) ∧ Later w w' := by
  unfold entV
  go_enter Try.func11, Try.ntmps11
  go_wp2
  refine bodyPost_end (results_none rfl _ _ _) rfl ?_
  exact ⟨rfl, Later.alloc (Later.refl w) _⟩

theorem after_push {w W w3 : World} {o : Obj} {p : Nat} {v : Value} {cs : Array Value} {t : TypeId} (hl : Later w W) (h2 : W.heap[p]? = some (.cells cs t)) (hn : v.ownBlock ≠ some p) (hg : (W.alloc o).drew.grownBy w3 v.ownBlock) :
    Aside (w3.heap[p]? = some (.cells cs t) ∧ Touch p v.ownBlock w w3) := by
  refine ⟨?_, ?_⟩
  · rw [hg.block p (by have := lt_block h2; simp; omega) hn.symm]
    exact heap_later (Later.drew (Later.alloc (Later.refl W) o)) h2
  · exact (Touch.of_later (Later.drew (Later.alloc hl o))).grown hg (.inl rfl)

set_option maxRecDepth 1000000 in
set_option maxHeartbeats 4000000 in
theorem push_any (n0 : Nat) (w : World) (p : Nat) (b : Option Nat) (x : Int × Int) (L : List (Int × Int)) (N : Nat) (h : RingAt n0 w p b L N) (hN : N < 1000000) :
    Calls Try.prog 11 #[.pointer (some ⟨p, 0, none⟩), entV x] w fun e w' => e = .returned (.tuple #[]) ∧ ∃ b', RingAt n0 w' p b' (L ++ [x]) (N + 1) ∧ Touch p b w w' ∧ Same w b b' := by
  obtain ⟨i0, hi0, hz0, hz1, hz2⟩ := info_parts infoEnt
  have hnot := h.not_own
  obtain ⟨hg1, hg2, hg3, hg4⟩ := h.ge
  obtain ⟨v, pre, h1, h2, rfl, h4, h5⟩ := h
  obtain ⟨a, cap, rfl⟩ := owns_slice h5
  obtain ⟨n, hn⟩ : ∃ n, (pre ++ L).length = n := ⟨_, rfl⟩
  rw [hn] at h2 h4 h5 hnot hg2 hg4 ⊢
  unfold entV
  have LL := Later.alloc (Later.refl w) (.cells #[.int .i64 x.1, .int .i64 x.2] 31)
  have hB := at_new w (.cells #[.int .i64 x.1, .int .i64 x.2] 31)
  have H2 : Hid ((w.alloc (.cells #[.int .i64 x.1, .int .i64 x.2] 31)).heap[p]? = some (.cells #[.slice a n cap, .int .i64 (pre.length : Nat)] 47)) := heap_later LL h2
  have H5 : Hid ((w.alloc (.cells #[.int .i64 x.1, .int .i64 x.2] 31)).ownsRow n0 31 2 (.slice a n cap) n (flatC entC (pre ++ L))) := ownsC_later h5 LL
  have hsz : (w.alloc (.cells #[.int .i64 x.1, .int .i64 x.2] 31)).heap.size = w.heap.size + 1 := by simp
  clear h2 h5
  obtain ⟨B, hBe⟩ : ∃ B, w.heap.size = B := ⟨_, rfl⟩
  go_enter Try.func11, Try.ntmps11
  go_upto_region 1 with (fail)
  generalize w.alloc (.cells #[.int .i64 x.1, .int .i64 x.2] 31) = W at *
  obtain ⟨c0, c1, f0, f1⟩ := box2_facts H2.out
  obtain ⟨e0, e1, -⟩ := box2_facts hB
  go_upto_region 2 with (fail)
  have d0 : W.drew.cell? ⟨p, 0, none⟩ = some (.slice a n cap) := c0
  have d2 : (W.alloc (.cells #[.int .i64 x.1, .int .i64 x.2] 31)).drew.cell? ⟨p, 0, none⟩ = some (.slice a n cap) := cell_later c0 (Later.drew (Later.alloc (Later.refl W) _))
  have g0 : W.drew.frozen? ⟨p, 0, none⟩ = false := f0
  have k0 : W.drew.cell? ⟨B, 0, none⟩ = some (.int .i64 x.1) := by rw [← hBe]; exact e0
  have k1 : W.drew.cell? ⟨B, 1, none⟩ = some (.int .i64 x.2) := by rw [← hBe]; exact e1
  go_region_law (go_loud (refine step_append_lies _ rfl (.tmp 10) (.tmp 12) 26 rfl n0 31 i0 (.agg #[.int .i64 0, .int .i64 0]) 2 16 Try.underlying26 hi0 hz0 hz1 hz2 rfl (by decide) (.slice a n cap) n (flatC entC (pre ++ L)) (by simp [Act.eval, Act.put]) (show (W.alloc (.cells #[.int .i64 x.1, .int .i64 x.2] 31)).drew.ownsRow n0 31 2 (.slice a n cap) n (flatC entC (pre ++ L)) from World.ownsRow.alloc H5.out _) ⟨B + 1, 0, none⟩ 1 1 [.int .i64 x.1, .int .i64 x.2] (by simp [Act.eval, Act.put]) rfl (news_at2 W _ _ (by omega)) (fun u hu => by simp at hu; rcases hu with rfl | rfl <;> rfl) (by omega) (by unfold maxLen; omega) (by omega) (by simp; omega) (B + 2) (by simp; omega) ?_; intro g' cap' w3 hown3 hgrow3 hat3 hlt3; have X3 := after_push LL H2.out hnot hgrow3; obtain ⟨m0, m1, l0, l1⟩ := box2_facts X3.out.1))
  all_goals
    go_wp2
    refine bodyPost_end (results_none rfl _ _ _) rfl ?_
    have hlen2 : (pre ++ (L ++ [x])).length = n + 1 := by rw [← List.append_assoc, List.length_append, hn]; rfl
    refine ⟨rfl, some g', ⟨.slice (some ⟨g', 0, none⟩) (n + 1) cap', pre, h1, setCell_block X3.out.1 0 _, rfl, by omega, ?_⟩, X3.out.2.set (.inl rfl) 0 _, ?_⟩
    · rw [hlen2, ← List.append_assoc, flatC_append, flatC_one]
      exact owns_set hown3 (owns_not hown3 X3.out.1 (by decide)) 0 _
    · rcases hat3 with h6 | h6
      · exact .inl h6.symm
      · exact .inr (.inr ⟨g', rfl, by omega⟩)

theorem pop_nil (w : World) : Calls Try.prog 12 #[.pointer none] w fun e w' => e = .returned (.tuple #[entV (0, 0), .bool false]) ∧ Later w w' := by
  have c := fun w => waiting_nil w
  have LL := Later.alloc (Later.refl w) (.cells #[.int .i64 0, .int .i64 0] 31)
  have HB := at_new w (.cells #[.int .i64 0, .int .i64 0] 31)
  unfold entV
  go_enter Try.func12, Try.ntmps12
  go_upto_region 1 with (fail)
  generalize w.alloc (.cells #[.int .i64 0, .int .i64 0] 31) = W at *
  go_wp2_with (go_at_call 19; refine (c _).mono ?_; rintro e w1 ⟨rfl, hl1⟩; have HB1 := heap_later hl1 HB; obtain ⟨e0, e1, f0, f1⟩ := box2_facts HB1)
  obtain ⟨r0, r1, -⟩ := box2_facts (setCell_block (setCell_block HB1 0 (.int .i64 0)) 1 (.int .i64 0))
  refine bodyPost_ret (by simp [results, Try.results12, go_sem, r0, r1]; try rfl) rfl ?_
  exact ⟨rfl, Later.setCell (Later.setCell (LL.trans hl1) (Nat.le_refl _) 0 _) (Nat.le_refl _) 1 _⟩

set_option maxRecDepth 1000000 in
set_option maxHeartbeats 4000000 in
theorem pop_some (n0 : Nat) (w : World) (p : Nat) (b : Option Nat) (x : Int × Int) (L : List (Int × Int)) (N : Nat) (h : RingAt n0 w p b (x :: L) N) (hN : N ≤ 1000000) :
    Calls Try.prog 12 #[.pointer (some ⟨p, 0, none⟩)] w fun e w' => e = .returned (.tuple #[entV x, .bool true]) ∧ ∃ b', RingAt n0 w' p b' L N ∧ Touch p b w w' ∧ Same w b b' := by
  have LL := Later.alloc (Later.refl w) (.cells #[.int .i64 0, .int .i64 0] 31)
  have HB := at_new w (.cells #[.int .i64 0, .int .i64 0] 31)
  have HR : Hid (RingAt n0 (w.alloc (.cells #[.int .i64 0, .int .i64 0] 31)) p b (x :: L) N) := h.later LL
  obtain ⟨v, hv, c⟩ := waiting_any n0 _ p b (x :: L) N HR.out hN
  obtain ⟨a, cap, rfl, hc1, hc2⟩ := hv.slice
  unfold maxLen at hc2
  obtain ⟨g, o, rfl, x0, x1⟩ := hv.get (i := 0) rfl
  rw [Nat.zero_mul, Nat.add_zero] at x0 x1
  obtain ⟨n, hn⟩ : ∃ n, L.length = n := ⟨_, rfl⟩
  rw [List.length_cons, hn] at c hc1
  have hsz : (w.alloc (.cells #[.int .i64 0, .int .i64 0] 31)).heap.size = w.heap.size + 1 := by simp
  obtain ⟨hg1, hg2, hg3, hg4⟩ := h.ge
  clear hv h
  unfold entV
  go_enter Try.func12, Try.ntmps12
  go_upto_region 1 with (fail)
  generalize w.alloc (.cells #[.int .i64 0, .int .i64 0] 31) = W at *
  go_upto_region 5 with (go_at_call 19; refine c.mono ?_; rintro e w1 ⟨rfl, hl1⟩; have y0 := cell_later x0 hl1; have y1 := cell_later x1 hl1)
  have L5 := Later.alloc (Later.refl w1) (.cells #[.int .i64 x.1, .int .i64 x.2] 31)
  have HB5 := at_new w1 (.cells #[.int .i64 x.1, .int .i64 x.2] 31)
  have HB2 := heap_later (hl1.trans L5) HB
  have hs1 := hl1.size
  obtain ⟨v, pre, h1, h2, hvb, h4, h5⟩ := HR.out.later (hl1.trans L5)
  have hown := owns_not h5 h2 (by decide)
  have LT := LL.trans (hl1.trans L5)
  generalize w1.alloc (.cells #[.int .i64 x.1, .int .i64 x.2] 31) = W5 at *
  have H5 : Hid (W5.ownsRow n0 31 2 v (pre ++ x :: L).length (flatC entC (pre ++ x :: L))) := h5
  have hlen : (pre ++ x :: L).length = pre.length + n + 1 := by rw [List.length_append, List.length_cons, hn]; omega
  rw [hlen] at h4
  have HV : Hid (v.ownBlock = b ∧ v.ownBlock ≠ some p) := ⟨hvb, hown⟩
  clear h5 hlen HR hvb hown x0 x1 y0 y1 c
  obtain ⟨l, hl⟩ : ∃ l, pre.length = l := ⟨_, rfl⟩
  rw [hl] at h2 h4
  obtain ⟨a0, a1, f0, f1⟩ := box2_facts h2
  go_upto_region 6 with (fail)
  have K2 : (W5.setCell ⟨p, 1, none⟩ (.int .i64 ((l : Int) + 1))).heap[p]? = some (.cells #[v, .int .i64 ((l : Int) + 1)] 47) := setCell_block h2 1 _
  have K5 : (W5.setCell ⟨p, 1, none⟩ (.int .i64 ((l : Int) + 1))).heap[w1.heap.size]? = _ := set_kept HB5 (show p ≠ w1.heap.size by omega)
  have K0 : (W5.setCell ⟨p, 1, none⟩ (.int .i64 ((l : Int) + 1))).heap[w.heap.size]? = _ := set_kept HB2 (show p ≠ w.heap.size by omega)
  have HR6 : Hid (RingAt n0 (W5.setCell ⟨p, 1, none⟩ (.int .i64 ((l : Int) + 1))) p b L N) := by
    refine ⟨v, pre ++ [x], h1, ?_, HV.out.1, by rw [List.append_assoc, List.length_append, hl]; simp [hn]; omega, ?_⟩
    · rw [List.length_append, hl]; exact K2
    · rw [List.append_assoc]; exact owns_set H5.out HV.out.2 1 _
  have T6 : Touch p b w (W5.setCell ⟨p, 1, none⟩ (.int .i64 ((l : Int) + 1))) := (Touch.of_later LT).set (.inl rfl) 1 _
  have L5s := lt_block K5
  generalize W5.setCell ⟨p, 1, none⟩ (.int .i64 ((l : Int) + 1)) = W6 at *
  have cL := len_any n0 W6.drew p b L N (HR6.out.later (Later.drew (Later.refl W6))) hN
  rw [hn] at cL
  have d1 : W6.drew.cell? ⟨p, 1, none⟩ = some (.int .i64 ((l : Int) + 1)) := (box2_facts K2).2.1
  clear a0 a1 f0 f1 h2 H5 HV HB5 HB2 L5 LT HB hl
  by_cases hge : (n : Int) ≤ (l : Int) + 1
  · go_region_with (go_simp; go_at_call 14; apply Calls.mono; (focus (with_reducible (exact cL))); rintro e w7 ⟨rfl, hl7⟩; have d7 := cell_later d1 hl7)
    all_goals
      have l7 := (Later.drew (Later.refl W6)).trans hl7
      obtain ⟨v7, hv7, c7⟩ := waiting_any n0 w7 p b L N (HR6.out.later l7) hN
      have HV7 : Hid (EntRow w7 v7 L) := hv7
      have c9 := fun w8 (hl8 : Later w7 w8) => clone_any w8 v7 L (HV7.out.later hl8) (by omega)
      clear hv7 d1 d7 cL
      go_upto_region 7 with (fail)
      go_upto_region 8 with (first
        | (go_at_call 19; refine c7.mono ?_; rintro e w8 ⟨rfl, hl8⟩; clear c7)
        | (go_at_call 20; refine (c9 _ hl8).mono ?_; rintro e w9 ⟨v9, rfl, ho9, hl9⟩; obtain ⟨p9, q9, rfl⟩ := owns_slice ho9; have l9 := l7.trans (hl8.trans hl9); obtain ⟨m0, m1, u0, u1⟩ := box2_facts (heap_later l9 K2)))
      have hs8 := hl8.size
      have hs7 := l7.size
      have hs6 := T6.size
      have hs5 := L5s
      rw [hn] at ho9
      have hno := owns_not ho9 (heap_later l9 K2) (by decide)
      have X9 : ∃ W9 b9, W9 = (w9.setCell ⟨p, 0, none⟩ (.slice p9 n q9)).setCell ⟨p, 1, none⟩ (.int .i64 0) ∧ Aside (W9.heap[w1.heap.size]? = some (.cells #[.int .i64 x.1, .int .i64 x.2] 31) ∧ W9.heap[w.heap.size]? = some (.cells #[.int .i64 0, .int .i64 0] 31) ∧ RingAt n0 W9 p b9 L N ∧ Touch p b w W9 ∧ Same w b b9 ∧ b9 ≠ some w.heap.size) := by
        refine ⟨_, (Value.slice p9 n q9).ownBlock, rfl, set_kept (set_kept (heap_later l9 K5) (by omega)) (by omega), set_kept (set_kept (heap_later l9 K0) (by omega)) (by omega), ⟨.slice p9 n q9, [], h1, setCell_block (setCell_block (heap_later l9 K2) 0 _) 1 _, rfl, by simp [hn]; omega, by rw [List.nil_append, hn]; exact owns_set (owns_set (owns_base ho9 (by omega)) hno 0 _) hno 1 _⟩, ((T6.later l9).set (.inl rfl) 0 _).set (.inl rfl) 1 _, ?_, ?_⟩
        · cases hb : (Value.slice p9 n q9).ownBlock with
          | none => exact .inr (.inl rfl)
          | some k => exact .inr (.inr ⟨k, rfl, by have := (ho9.lt k hb).1; omega⟩)
        · intro hb
          have := (ho9.lt _ hb).1
          omega
      obtain ⟨W9, b9, hW9, X9⟩ := X9
      rw [← hW9]
      clear hW9
      obtain ⟨z0, z1, -⟩ := box2_facts X9.out.1
      obtain ⟨y0, y1, y2, y3⟩ := box2_facts X9.out.2.1
      go_wp2
      obtain ⟨r0, r1, -⟩ := box2_facts (show ((W9.setCell ⟨w.heap.size, 0, none⟩ (.int .i64 x.1)).setCell ⟨w.heap.size, 1, none⟩ (.int .i64 x.2)).heap[w.heap.size]? = some (.cells #[.int .i64 x.1, .int .i64 x.2] 31) from setCell_block (setCell_block X9.out.2.1 0 _) 1 _)
      refine bodyPost_ret (by simp [results, Try.results12, go_sem, r0, r1]; try rfl) rfl ?_
      exact ⟨rfl, b9, RingAt.set (RingAt.set X9.out.2.2.1 (by omega) X9.out.2.2.2.2.2 0 _) (by omega) X9.out.2.2.2.2.2 1 _, Touch.set (Touch.set X9.out.2.2.2.1 (.inr (Nat.le_refl _)) 0 _) (.inr (Nat.le_refl _)) 1 _, X9.out.2.2.2.2.1⟩
  · go_region_with (go_simp; go_at_call 14; apply Calls.mono; (focus (with_reducible (exact cL))); rintro e w7 ⟨rfl, hl7⟩; have d7 := cell_later d1 hl7)
    all_goals
      have l7 := (Later.drew (Later.refl W6)).trans hl7
      have X9 : ∃ W9 b9, W9 = w7 ∧ Aside (W9.heap[w1.heap.size]? = some (.cells #[.int .i64 x.1, .int .i64 x.2] 31) ∧ W9.heap[w.heap.size]? = some (.cells #[.int .i64 0, .int .i64 0] 31) ∧ RingAt n0 W9 p b9 L N ∧ Touch p b w W9 ∧ Same w b b9 ∧ b9 ≠ some w.heap.size) :=
        ⟨w7, b, rfl, heap_later l7 K5, heap_later l7 K0, HR6.out.later l7, T6.later l7, .inl rfl, fun hb => by have := hg4 _ hb; omega⟩
      obtain ⟨W9, b9, hW9, X9⟩ := X9
      subst hW9
      clear d1 d7 cL
      obtain ⟨z0, z1, -⟩ := box2_facts X9.out.1
      obtain ⟨y0, y1, y2, y3⟩ := box2_facts X9.out.2.1
      go_wp2
      obtain ⟨r0, r1, -⟩ := box2_facts (show ((W9.setCell ⟨w.heap.size, 0, none⟩ (.int .i64 x.1)).setCell ⟨w.heap.size, 1, none⟩ (.int .i64 x.2)).heap[w.heap.size]? = some (.cells #[.int .i64 x.1, .int .i64 x.2] 31) from setCell_block (setCell_block X9.out.2.1 0 _) 1 _)
      refine bodyPost_ret (by simp [results, Try.results12, go_sem, r0, r1]; try rfl) rfl ?_
      exact ⟨rfl, b9, RingAt.set (RingAt.set X9.out.2.2.1 (by omega) X9.out.2.2.2.2.2 0 _) (by omega) X9.out.2.2.2.2.2 1 _, Touch.set (Touch.set X9.out.2.2.2.1 (.inr (Nat.le_refl _)) 0 _) (.inr (Nat.le_refl _)) 1 _, X9.out.2.2.2.2.1⟩

set_option maxRecDepth 1000000 in
set_option maxHeartbeats 4000000 in
theorem pop_none (n0 : Nat) (w : World) (p : Nat) (b : Option Nat) (N : Nat) (h : RingAt n0 w p b [] N) (hN : N ≤ 1000000) :
    Calls Try.prog 12 #[.pointer (some ⟨p, 0, none⟩)] w fun e w' => e = .returned (.tuple #[entV (0, 0), .bool false]) ∧ Later w w' := by
  have LL := Later.alloc (Later.refl w) (.cells #[.int .i64 0, .int .i64 0] 31)
  have HB := at_new w (.cells #[.int .i64 0, .int .i64 0] 31)
  obtain ⟨v, hv, c⟩ := waiting_any n0 _ p b [] N (h.later LL) hN
  obtain ⟨a, cap, rfl, hc1, hc2⟩ := hv.slice
  clear hv h
  unfold entV
  go_enter Try.func12, Try.ntmps12
  go_upto_region 1 with (fail)
  generalize w.alloc (.cells #[.int .i64 0, .int .i64 0] 31) = W at *
  go_wp2_with (go_at_call 19; refine c.mono ?_; rintro e w1 ⟨rfl, hl1⟩; have HB1 := heap_later hl1 HB; obtain ⟨e0, e1, f0, f1⟩ := box2_facts HB1)
  obtain ⟨r0, r1, -⟩ := box2_facts (setCell_block (setCell_block HB1 0 (.int .i64 0)) 1 (.int .i64 0))
  refine bodyPost_ret (by simp [results, Try.results12, go_sem, r0, r1]; try rfl) rfl ?_
  exact ⟨rfl, Later.setCell (Later.setCell (LL.trans hl1) (Nat.le_refl _) 0 _) (Nat.le_refl _) 1 _⟩

end Go.Proofs.Ytmfifaonbbeebaa
