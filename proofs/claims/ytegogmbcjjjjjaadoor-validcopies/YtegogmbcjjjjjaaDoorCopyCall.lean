/-
  valid.Copy: the walk. Conditions: the texts are no longer than 1000, no list is longer than a million.
-/
import Derived.Test.YtegogmbcjjjjjaaDoorCopyAny
import Derived.Test.YtegogmbcjjjjjaaDoorJl
namespace Go.Proofs.YtegogmbcjjjjjaaDoor
open Go.RowKit Go.WideShapes
set_option linter.unusedVariables false
set_option linter.unusedSimpArgs false

/-- A program in memory of the call's own, the same as another one but for where its lists lie. -/
structure Copied (w : World) (N : Nat) (u v : Value) (S : Syms) (P : List Thr) : Prop where
  syms : ∃ S', HalfS w N u S S' S.length
  threads : ∃ W vs, HalfP W w N v P vs P.length

theorem Copied.later {w w' : World} {N : Nat} {u v : Value} {S : Syms} {P : List Thr} (h : Copied w N u v S P) (hl : Later w w') : Copied w' N u v S P := by
  obtain ⟨⟨S', h1⟩, W, vs, h2⟩ := h
  exact ⟨⟨S', h1.later hl⟩, W, vs, h2.later hl⟩

set_option maxRecDepth 1000000 in
set_option maxHeartbeats 8000000 in
theorem copy_any (u v : Value) (S : Syms) (P : List Thr) (w : World) (hS : SymRow w u S) (hP : ThrRow w v P) (f : FineP S P) (hs : S.length ≤ 1000000) (hp : P.length ≤ 1000000) (hT : ∀ T ∈ P, T.length ≤ 1000000) (hI : ∀ s ∈ S, s.2.length ≤ 1000000) :
    Calls Tryd.prog 8 #[.agg #[u, v]] w fun e w' => ∃ u' v', e = .returned (.agg #[u', v']) ∧ Copied w' (w.heap.size + 2) u' v' S P ∧ Later w w' := by
  obtain ⟨pu, cu, rfl, -, -⟩ := RowIn.slice hS
  obtain ⟨pv, cv, rfl, -, -⟩ := RowIn.slice hP
  obtain ⟨n, hn⟩ : ∃ n, S.length = n := ⟨_, rfl⟩
  obtain ⟨m, hm⟩ : ∃ m, P.length = m := ⟨_, rfl⟩
  rw [hn] at hs hS ⊢
  rw [hm] at hp hP ⊢
  obtain ⟨vs0, v1, v2, v3⟩ := thr_src hP
  rw [hm] at v3 v1
  have L0 := Later.alloc (Later.alloc (Later.refl w) (.cells #[.slice pu n cu, .slice pv m cv] 25)) (.cells #[.slice none 0 0, .slice none 0 0] 25)
  obtain ⟨HB, HC⟩ := two_new2 w (.cells #[.slice pu n cu, .slice pv m cv] 25) (.cells #[.slice none 0 0, .slice none 0 0] 25)
  have sS := sym_src hS
  rw [hn] at sS
  have HS : Hid (SymRow w (.slice pu n cu) S) := hS
  have HV2 : Hid (∀ (i : Nat) u T, vs0[i]? = some u → P[i]? = some T → InsRow w u T) := v2
  have HI : Hid (∀ s ∈ S, s.2.length ≤ 1000000) := hI
  have HT : Hid (∀ T ∈ P, T.length ≤ 1000000) := hT
  have HF : Hid (FineP S P) := f
  have hsz : Hid (((w.alloc (.cells #[.slice pu n cu, .slice pv m cv] 25)).alloc (.cells #[.slice none 0 0, .slice none 0 0] 25)).heap.size = w.heap.size + 2) := by show _ = _; simp
  clear hS hP v2 hI hT f
  go_enter Tryd.func8, Tryd.ntmps8
  go_upto_region 1 with (fail)
  generalize (w.alloc (.cells #[.slice pu n cu, .slice pv m cv] 25)).alloc (.cells #[.slice none 0 0, .slice none 0 0] 25) = W at *
  obtain ⟨a0, a1, -⟩ := box2_facts HB
  have cS := fun w' (hl : Later W w') => cloneCSym_any w' (.slice pu n cu) n (flatC symCells S) (sS.later (L0.trans hl)) hs
  have cP := fun w' (hl : Later W w') => cloneCThr_any w' (.slice pv m cv) m (flatC oneV vs0) (v3.later (L0.trans hl)) hp
  go_cut [3] from 6 to 12 (fun v3 wc => ∃ C sv tv, v3 = .pointer (some ⟨C, 0, none⟩) ∧ Later W wc ∧ W.heap.size ≤ C ∧ Hid (wc.heap[C]? = some (.cells #[sv, tv] 25)) ∧ Hid (wc.ownsRow W.heap.size 42 3 sv n (flatC symCells S)) ∧ Hid (wc.ownsRow W.heap.size 34 1 tv m (flatC oneV vs0)))
  case first =>
    have L1 : Later W W.drew := Later.drew (Later.refl W)
    have L2 : Later W (W.drew.alloc (.cells #[.slice none 0 0, .slice none 0 0] 25)) := Later.alloc L1 _
    have L3 : Later W (W.alloc (.cells #[.slice none 0 0, .slice none 0 0] 25)).drew := Later.drew (Later.alloc (Later.refl W) _)
    have z1 := at_new W (.cells #[.slice none 0 0, .slice none 0 0] 25)
    have a0b := cell_later a0 L3
    have a1b := cell_later a1 L3
    go_region_with (first
      | (go_at_call 18; apply Calls.mono; (focus (with_reducible (first | exact cS _ L1 | exact cS _ L2 | exact cS _ L3))); rintro e w1 ⟨x1, rfl, ho1, hl1⟩; obtain ⟨p1, q1, rfl⟩ := owns_slice ho1; have k1 : Later W w1 := (by first | exact L1.trans hl1 | exact L2.trans hl1 | exact L3.trans hl1); have e1 := cell_later a1 k1; have e1b := cell_later e1 (Later.alloc (Later.refl w1) (.cells #[.slice none 0 0, .slice none 0 0] 25)); (first | (have y1 : w1.heap[W.heap.size]? = some (.cells #[.slice none 0 0, .slice none 0 0] 25) := heap_later (w := W.drew.alloc (.cells #[.slice none 0 0, .slice none 0 0] 25)) hl1 z1; obtain ⟨y2, y3, y4, y5⟩ := box2_facts y1) | (have y1 : w1.heap[W.heap.size]? = some (.cells #[.slice none 0 0, .slice none 0 0] 25) := heap_later (w := (W.alloc (.cells #[.slice none 0 0, .slice none 0 0] 25)).drew) hl1 z1; obtain ⟨y2, y3, y4, y5⟩ := box2_facts y1) | skip); clear cS)
      | (go_at_call 19; apply Calls.mono; (focus (with_reducible (first | exact cP _ k1 | exact cP _ (Later.alloc k1 _)))); rintro e w2 ⟨x2, rfl, ho2, hl2⟩; obtain ⟨p2, q2, rfl⟩ := owns_slice ho2; have k2 : Later W w2 := (by first | exact k1.trans hl2 | exact (Later.alloc k1 _).trans hl2); (first | (have r1 : w2.heap[W.heap.size]? = some (.cells #[.slice none 0 0, .slice none 0 0] 25) := heap_later hl2 y1; obtain ⟨r2, r3, r4, r5⟩ := box2_facts r1) | (have r1 : w2.heap[w1.heap.size]? = some (.cells #[.slice none 0 0, .slice none 0 0] 25) := heap_later hl2 (at_new w1 (.cells #[.slice none 0 0, .slice none 0 0] 25)); obtain ⟨r2, r3, r4, r5⟩ := box2_facts r1) | skip); clear cP))
    all_goals go_wp2
    all_goals go_meet
    all_goals
      have m1 : w1.ownsRow W.heap.size 42 3 (.slice p1 n q1) n (flatC symCells S) := owns_base ho1 (by first | exact L1.size | exact L2.size | exact L3.size)
      have m2 : w2.ownsRow W.heap.size 34 1 (.slice p2 m q2) m (flatC oneV vs0) := owns_base ho2 (by first | exact k1.size | exact (Later.alloc k1 _).size)
      have l12 : Later w1 w2 := (by first | exact hl2 | exact (Later.alloc (Later.refl w1) _).trans hl2)
      have m3 := ownsC_later m1 l12
      have g1 : W.heap.size ≤ w1.heap.size := k1.size
      have g2 : W.heap.size ≤ W.heap.size := Nat.le_refl _
      first
        | exact ⟨w2.heap.size, _, _, rfl, Later.alloc k2 _, k2.size, at_new _ _, ownsC_later m3 (Later.alloc (Later.refl w2) _), ownsC_later m2 (Later.alloc (Later.refl w2) _)⟩
        | exact ⟨w1.heap.size, _, _, rfl, Later.setCell (Later.setCell k2 g1 0 _) g1 1 _, g1, setCell_block (setCell_block r1 0 _) 1 _, owns_set_other (owns_set_other m3 r1 (fun cs fz e0 => by cases e0) 0 _) (setCell_block r1 0 _) (fun cs fz e0 => by cases e0) 1 _, owns_set_other (owns_set_other m2 r1 (fun cs fz e0 => by cases e0) 0 _) (setCell_block r1 0 _) (fun cs fz e0 => by cases e0) 1 _⟩
        | exact ⟨W.heap.size, _, _, rfl, Later.setCell (Later.setCell k2 g2 0 _) g2 1 _, g2, setCell_block (setCell_block r1 0 _) 1 _, owns_set_other (owns_set_other m3 r1 (fun cs fz e0 => by cases e0) 0 _) (setCell_block r1 0 _) (fun cs fz e0 => by cases e0) 1 _, owns_set_other (owns_set_other m2 r1 (fun cs fz e0 => by cases e0) 0 _) (setCell_block r1 0 _) (fun cs fz e0 => by cases e0) 1 _⟩
  case rest =>
    clear cS cP a0 a1
    obtain ⟨C, sv, tv, rfl, hlc, hC, HCc, HSs, HTt⟩ := hcut
    obtain ⟨sp, sc, rfl⟩ := owns_slice HSs.out
    obtain ⟨tp, tc, rfl⟩ := owns_slice HTt.out
    have HS0 : Hid (HalfS wc W.heap.size (.slice sp n sc) S S 0) := HalfS.start (by rw [hn]; exact HSs.out)
    obtain ⟨b0, b1, -⟩ := box2_facts HCc.out
    clear HSs
    go_wp2
    go_loopw [16] (fun vi wr => ∃ (i : Nat) (S' : Syms), vi = .int .i64 (i : Nat) ∧ i ≤ n ∧ Later W wr ∧ Hid (wr.heap[C]? = some (.cells #[.slice sp n sc, .slice tp m tc] 25)) ∧ Hid (HalfS wr W.heap.size (.slice sp n sc) S S' i) ∧ Hid (wr.ownsRow W.heap.size 34 1 (.slice tp m tc) m (flatC oneV vs0))) (fun vi _ => n - (intOf vi).toNat)
    case atStart => exact ⟨0, S, rfl, by omega, hlc, HCc, HS0, HTt⟩
    case round =>
      clear HCc HS0 HTt b0 b1 hlc
      obtain ⟨i, S', rfl, hi, hlw, HCr, HSr, HTr⟩ := hrel
      obtain ⟨b0, b1, -⟩ := box2_facts HCr.out
      by_cases h8 : i < n
      · obtain ⟨⟨x, I⟩, hx⟩ : ∃ x, S[i]? = some x := ⟨_, List.getElem?_eq_getElem (by omega)⟩
        obtain ⟨l0, t1, -, t3⟩ := HSr.out.each i x I hx
        have ht3 := t3 (Nat.le_refl _)
        subst ht3
        obtain ⟨g, cur, rfl, hg0, hg, hcell⟩ := owns_cellF symCells_len (by rw [HSr.out.len, hn]) (by have := HSr.out.row; rwa [hn] at this) t1 (by omega)
        obtain ⟨c2, f2⟩ := hcell 2 x.init rfl
        obtain ⟨g9, o9, -, -, -, hin, -⟩ := HS.out.get hx
        have hIn : I.length ≤ 1000000 := HI.out _ (List.mem_of_getElem? hx)
        have cI := cloneCInt_any wr.drew x.init I.length (I.map (Value.int .i64)) ((nums_src hin).later ((L0.trans hlw).trans (Later.drew (Later.refl wr)))) hIn
        have hne : g ≠ C := by
          rintro rfl
          rw [HCr.out] at hg
          cases hg
        have LD : Later wr wr.drew := Later.drew (Later.refl wr)
        clear hcell t3 t1 hin
        go_upto_region 5 with (fail)
        go_region_with (go_at_call 20; apply Calls.mono; (focus (with_reducible (exact cI))); rintro e w2 ⟨iv, rfl, ho2, hl2⟩; obtain ⟨p2, q2, rfl⟩ := owns_slice ho2; have l2 := LD.trans hl2; have e0 := cell_later b0 l2; have e2 := cell_later c2 l2; have hg2 := heap_later l2 hg; have k2 : w2.frozen? ⟨g, i * 3 + 2, none⟩ = false := (by simp [World.frozen?, hg2]))
        all_goals
          go_wp2
          go_roundw
          case rel => exact ⟨i + 1, _, by go_num, by omega, Later.setCell (hlw.trans l2) hg0 _ _, set_kept (heap_later l2 HCr.out) hne, (HSr.out.later l2).next hx (owns_base ho2 hlw.size) hg2 hn, owns_set_other (ownsC_later HTr.out l2) hg2 (fun cs fz e0 => by cases e0) _ _⟩
          case measure => simp [intOf] <;> omega
      · obtain rfl : i = n := by omega
        have HSn : Hid (HalfS wr W.heap.size (.slice sp i sc) S S' S.length) := by show HalfS _ _ _ _ _ _; rw [hn]; exact HSr.out
        have HP0 : Hid (HalfP w wr W.heap.size (.slice tp m tc) P vs0 0) := ⟨by rw [hm]; exact HTr.out, by rw [v1, hm], fun j T hj => by
          have hjl := (List.getElem?_eq_some_iff.1 hj).1
          have hv : vs0[j]? = some (vs0[j]'(by omega)) := List.getElem?_eq_getElem (by omega)
          exact ⟨_, hv, fun h => absurd h (Nat.not_lt_zero _), fun _ => HV2.out j _ T hv hj⟩⟩
        clear HSr HTr HV2
        go_wp2
        go_loopw [35] (fun vi wr => ∃ (j : Nat) (vs : List Value), vi = .int .i64 (j : Nat) ∧ j ≤ m ∧ Later W wr ∧ Hid (wr.heap[C]? = some (.cells #[.slice sp i sc, .slice tp m tc] 25)) ∧ Hid (HalfS wr W.heap.size (.slice sp i sc) S S' S.length) ∧ Hid (HalfP w wr W.heap.size (.slice tp m tc) P vs j)) (fun vi _ => m - (intOf vi).toNat)
        case atStart => exact ⟨0, vs0, rfl, by omega, hlw, HCr, HSn, HP0⟩
        case round =>
          clear HCr HSn HP0 hlw b0 b1
          obtain ⟨j, vs, rfl, hj, hlw, HCr, HSr, HPr⟩ := hrel
          obtain ⟨b0, b1, -⟩ := box2_facts HCr.out
          by_cases h9 : j < m
          · obtain ⟨T, hx⟩ : ∃ T, P[j]? = some T := ⟨_, List.getElem?_eq_getElem (by omega)⟩
            obtain ⟨l0, t1, -, t3⟩ := HPr.out.each j T hx
            have ht3 := t3 (Nat.le_refl _)
            obtain ⟨g, cur, rfl, hg0, hg, hcell⟩ := owns_cellF oneV_len (by rw [HPr.out.len, hm]) (by have := HPr.out.row; rwa [hm] at this) t1 (by omega)
            obtain ⟨c2, f2⟩ := hcell 0 l0 rfl
            rw [Nat.mul_one, Nat.add_zero] at c2 f2
            have hmem := List.mem_of_getElem? hx
            have cT := copyRow_any l0 T wr.drew (ht3.kept ((L0.trans hlw).trans (Later.drew (Later.refl wr))).kept) (HF.out.threads T hmem) (HT.out T hmem)
            have hne : g ≠ C := by
              rintro rfl
              rw [HCr.out] at hg
              cases hg
            have LD : Later wr wr.drew := Later.drew (Later.refl wr)
            clear hcell t3 ht3
            go_upto_region 10 with (fail)
            go_region_with (go_at_call 21; apply Calls.mono; (focus (with_reducible (exact cT))); rintro e w2 ⟨lv, T', rfl, ho2, hc2, hl2⟩; obtain ⟨p2, q2, rfl⟩ := owns_slice ho2.row; have l2 := LD.trans hl2; have e0 := cell_later b1 l2; have e2 := cell_later c2 l2; have hg2 := heap_later l2 hg; have k2 : w2.frozen? ⟨g, j, none⟩ = false := (by simp [World.frozen?, hg2]))
            all_goals
              go_wp2
              go_roundw
              case rel => exact ⟨j + 1, _, by go_num, by omega, Later.setCell (hlw.trans l2) hg0 _ _, set_kept (heap_later l2 HCr.out) hne, (HSr.out.later l2).off hg2 (fun cs fz e0 => by cases e0) (fun cs fz e0 => by cases e0) _ _, by have h := (HPr.out.later l2).next hx (ho2.mono hlw.size) hc2 hg2 hm; rw [Nat.mul_one, Nat.add_zero] at h; exact h⟩
              case measure => simp [intOf] <;> omega
          · obtain rfl : j = m := by omega
            have hC2 := heap_later hlw HC
            obtain ⟨z0, z1, z2, z3⟩ := box2_facts hC2
            go_wp2
            obtain ⟨r0, r1, -⟩ := box2_facts (setCell_block (setCell_block hC2 0 (.slice sp i sc)) 1 (.slice tp j tc))
            refine bodyPost_ret (by simp [results, Tryd.results8, go_sem, r0, r1]; try rfl) rfl ?_
            have hB1 : w.heap.size ≤ w.heap.size + 1 := Nat.le_succ _
            have NB : w.heap.size + 1 < W.heap.size := by rw [hsz.out]; omega
            exact ⟨_, _, rfl, ⟨⟨S', by rw [← hsz.out]; exact ((HSr.out.off hC2 (fun cs fz e0 => by cases e0) (fun cs fz e0 => by cases e0) 0 _).off (setCell_block hC2 0 _) (fun cs fz e0 => by cases e0) (fun cs fz e0 => by cases e0) 1 _)⟩, w, vs, by rw [← hsz.out, hm]; exact ((HPr.out.off hC2 (fun cs fz e0 => by cases e0) (fun cs fz e0 => by cases e0) (fun cs fz e0 => by cases e0) 0 _).off (setCell_block hC2 0 _) (fun cs fz e0 => by cases e0) (fun cs fz e0 => by cases e0) (fun cs fz e0 => by cases e0) 1 _)⟩, Later.setCell (Later.setCell (L0.trans hlw) hB1 _ _) hB1 _ _⟩

end Go.Proofs.YtegogmbcjjjjjaaDoor
