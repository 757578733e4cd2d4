/-
  What the statements' own maker of programs returns: the three symbols, and of each thread the instructions of its raw acts, an hlt, and a label where one is jumped to; all of it in memory of its own. Nothing that was in memory turns. Conditions: the raw acts lie in memory; at most 90 instructions a thread, at most 60 threads.
-/
import Derived.Test.YtegogmbcjjjjjaaDoorBookProgPlain
import Derived.Test.YtegogmbcjjjjjaaDoorJh
import Derived.Test.YtegogmbcjjjjjaaDoorJj
import Derived.Deep.RegionLaw
namespace Go.Proofs.YtegogmbcjjjjjaaDoor
open Go.RowKit Go.WideShapes
set_option linter.unusedVariables false
set_option linter.unusedSimpArgs false

set_option maxRecDepth 1000000 in
set_option maxHeartbeats 16000000 in
theorem bookProg_any (v : Value) (l : List (List Act5)) (th mn : Nat) (hth : th ≤ 60) (hmn : mn ≤ 90) (w : World) (hl : ActsRow w v l) :
    Calls Tryd.prog 6 #[v, .int .i64 th, .int .i64 mn] w fun e w' => ∃ (tv : Value) (vs : List Value) (P : List Thr), e = .returned (.agg #[.slice (some ⟨w.heap.size + 1 + 1 + 1, 0, none⟩) 3 3, tv]) ∧ Later w w' ∧ XYZ w' w.heap.size ∧ w'.ownsRow w.heap.size 34 1 tv (min l.length th) (flatC oneV vs) ∧ MadeThrs w' w.heap.size mn l (min l.length th) vs P := by
  obtain ⟨p, cap, rfl, h1, h2⟩ := RowIn.slice hl
  unfold maxLen at h2
  have HL : Hid (ActsRow w (.slice p l.length cap) l) := hl
  obtain ⟨i0, hi0, hz0, hz1, hz2⟩ := info_parts infoIns
  obtain ⟨j0, hj0, hy0, hy1, hy2⟩ := info_parts infoThr
  clear hl
  go_enter Tryd.func6, Tryd.ntmps6
  go_upto_region 2 with (fail)
  have H0 : XYZ ((((w.alloc (.cells #[.slice none 0 0, .slice none 0 0] 25)).alloc (.cells #[.int .i64 1] 2)).alloc (.cells #[.int .i64 0] 2)).alloc (.cells #[.string ⟨#[120]⟩, .int .i64 1, .slice none 0 0, .string ⟨#[121]⟩, .int .i64 2, .slice (some ⟨w.heap.size + 1, 0, none⟩) 1 1, .string ⟨#[122]⟩, .int .i64 1, .slice (some ⟨w.heap.size + 1 + 1, 0, none⟩) 1 1] 42)) w.heap.size := by
    refine ⟨?_, ?_, ?_⟩
    · exact heap_later (Later.alloc (Later.alloc (Later.refl _) _) _) (two_new2 w _ _).2
    · exact heap_later (Later.alloc (Later.refl _) _) (three_new3 w _ _ _).2.2
    · have := at_new (((w.alloc (.cells #[.slice none 0 0, .slice none 0 0] 25)).alloc (.cells #[.int .i64 1] 2)).alloc (.cells #[.int .i64 0] 2)) (.cells (symsCells w.heap.size) 42)
      rw [show (((w.alloc (.cells #[.slice none 0 0, .slice none 0 0] 25)).alloc (.cells #[.int .i64 1] 2)).alloc (.cells #[.int .i64 0] 2)).heap.size = w.heap.size + 1 + 1 + 1 by simp] at this
      exact this
  have HR0 := heap_later (Later.alloc (Later.alloc (Later.alloc (Later.refl _) (.cells #[.int .i64 1] 2)) (.cells #[.int .i64 0] 2)) (.cells #[.string ⟨#[120]⟩, .int .i64 1, .slice none 0 0, .string ⟨#[121]⟩, .int .i64 2, .slice (some ⟨w.heap.size + 1, 0, none⟩) 1 1, .string ⟨#[122]⟩, .int .i64 1, .slice (some ⟨w.heap.size + 1 + 1, 0, none⟩) 1 1] 42)) (at_new w (.cells #[.slice none 0 0, .slice none 0 0] 25))
  have L0 := Later.alloc (Later.alloc (Later.alloc (Later.alloc (Later.refl w) (.cells #[.slice none 0 0, .slice none 0 0] 25)) (.cells #[.int .i64 1] 2)) (.cells #[.int .i64 0] 2)) (.cells #[.string ⟨#[120]⟩, .int .i64 1, .slice none 0 0, .string ⟨#[121]⟩, .int .i64 2, .slice (some ⟨w.heap.size + 1, 0, none⟩) 1 1, .string ⟨#[122]⟩, .int .i64 1, .slice (some ⟨w.heap.size + 1 + 1, 0, none⟩) 1 1] 42)
  have hs0 : ((((w.alloc (.cells #[.slice none 0 0, .slice none 0 0] 25)).alloc (.cells #[.int .i64 1] 2)).alloc (.cells #[.int .i64 0] 2)).alloc (.cells #[.string ⟨#[120]⟩, .int .i64 1, .slice none 0 0, .string ⟨#[121]⟩, .int .i64 2, .slice (some ⟨w.heap.size + 1, 0, none⟩) 1 1, .string ⟨#[122]⟩, .int .i64 1, .slice (some ⟨w.heap.size + 1 + 1, 0, none⟩) 1 1] 42)).heap.size = w.heap.size + 1 + 1 + 1 + 1 := by simp
  generalize (((w.alloc (.cells #[.slice none 0 0, .slice none 0 0] 25)).alloc (.cells #[.int .i64 1] 2)).alloc (.cells #[.int .i64 0] 2)).alloc (.cells #[.string ⟨#[120]⟩, .int .i64 1, .slice none 0 0, .string ⟨#[121]⟩, .int .i64 2, .slice (some ⟨w.heap.size + 1, 0, none⟩) 1 1, .string ⟨#[122]⟩, .int .i64 1, .slice (some ⟨w.heap.size + 1 + 1, 0, none⟩) 1 1] 42) = W0 at *
  have HXYZ : Hid (XYZ W0 w.heap.size) := H0
  have HB0 : Hid ((W0.alloc (.cells #[.slice (some ⟨w.heap.size + 1 + 1 + 1, 0, none⟩) 3 3, .slice none 0 0] 25)).heap[w.heap.size + 1 + 1 + 1 + 1]? = some (.cells #[.slice (some ⟨w.heap.size + 1 + 1 + 1, 0, none⟩) 3 3, .slice none 0 0] 25)) := by
    have := at_new W0 (.cells #[.slice (some ⟨w.heap.size + 1 + 1 + 1, 0, none⟩) 3 3, .slice none 0 0] 25)
    rw [hs0] at this
    exact this
  have HO0 : Hid ((W0.alloc (.cells #[.slice (some ⟨w.heap.size + 1 + 1 + 1, 0, none⟩) 3 3, .slice none 0 0] 25)).ownsRow (w.heap.size + 1 + 1 + 1 + 1 + 1) 34 1 (.slice none 0 0) 0 (flatC oneV [])) := World.ownsRow_nil _ _ _ _
  have LP := Later.alloc (Later.refl W0) (.cells #[.slice (some ⟨w.heap.size + 1 + 1 + 1, 0, none⟩) 3 3, .slice none 0 0] 25)
  have HR : Hid (W0.heap[w.heap.size]? = some (.cells #[.slice none 0 0, .slice none 0 0] 25)) := HR0
  clear H0 HR0
  generalize W0.alloc (.cells #[.slice (some ⟨w.heap.size + 1 + 1 + 1, 0, none⟩) 3 3, .slice none 0 0] 25) = W1 at *
  obtain ⟨sp, hsp⟩ : ∃ sp, sp = w.heap.size + 1 + 1 + 1 + 1 := ⟨_, rfl⟩
  rw [← hsp] at HB0 HO0 hs0 ⊢
  have HSP : Hid (sp = w.heap.size + 1 + 1 + 1 + 1) := hsp
  clear hsp
  go_wp2
  go_loopw [8] (fun vt wr => ∃ (t : Nat) (tv : Value) (vs : List Value) (P : List Thr), vt = .int .i64 (t : Nat) ∧ t ≤ l.length ∧ t ≤ th ∧ Later W0 wr ∧ Hid (wr.heap[sp]? = some (.cells #[.slice (some ⟨w.heap.size + 1 + 1 + 1, 0, none⟩) 3 3, tv] 25)) ∧ Hid (wr.ownsRow (sp + 1) 34 1 tv t (flatC oneV vs)) ∧ Hid (MadeThrs wr (sp + 1) mn l t vs P)) (fun vt _ => l.length - (intOf vt).toNat)
  case atStart => exact ⟨0, _, [], [], rfl, by omega, by omega, LP, HB0, HO0, MadeThrs.nil _ _ _ _⟩
  case round =>
    clear HB0 HO0 LP
    obtain ⟨t, tv, vs, P, rfl, ht1, ht2, hlw, hBk, hOw, hMd⟩ := hrel
    obtain ⟨tp, tcap, rfl⟩ := owns_slice hOw.out
    by_cases h8 : t < l.length ∧ t < th
    · obtain ⟨acts, hac⟩ : ∃ a, l[t]? = some a := ⟨_, List.getElem?_eq_getElem h8.1⟩
      obtain ⟨ga, oa, av, rfl, hrow, ca⟩ := (ActsRow.kept HL.out (L0.trans hlw).kept).get hac
      obtain ⟨ap, acap, rfl, a1, a2⟩ := RowIn.slice hrow
      unfold maxLen at a2
      have HAC : Hid (l[t]? = some acts) := hac
      have HAR : Hid (ActRow wr (.slice ap acts.length acap) acts) := hrow
      obtain ⟨n, hn, hn1, hn2⟩ : ∃ n : Nat, min acts.length mn = n ∧ n ≤ acts.length ∧ n ≤ mn := ⟨_, rfl, Nat.min_le_left _ _, Nat.min_le_right _ _⟩
      have HN : Hid (min acts.length mn = n) := hn
      have hmin : min (acts.length : Int) (mn : Int) = (n : Int) := by omega
      have h81 : (t : Int) < l.length := by omega
      have h82 : (t : Int) < th := by omega
      clear hac hrow hn
      go_upto_region 7 with (fail)
      have LX := Later.alloc (Later.refl wr) (.cells #[.slice none 0 0] 34)
      have HX0 : Hid ((wr.alloc (.cells #[.slice none 0 0] 34)).heap[wr.heap.size]? = some (.cells #[.slice none 0 0] 34)) := at_new _ _
      have HOX0 : Hid ((wr.alloc (.cells #[.slice none 0 0] 34)).ownsRow (wr.heap.size + 1) 39 13 (.slice none 0 0) 0 (flatC insC (firstI acts n 0))) := World.ownsRow_nil _ _ _ _
      generalize wr.alloc (.cells #[.slice none 0 0] 34) = W2 at *
      obtain ⟨w6, rfl⟩ : ∃ w6, w6 = wr := ⟨_, rfl⟩
      go_wp2
      go_loopw [11] (fun vi wy => ∃ (i : Nat) (v : Value), vi = .int .i64 (i : Nat) ∧ i ≤ n ∧ Later w6 wy ∧ Hid (wy.heap[w6.heap.size]? = some (.cells #[v] 34)) ∧ Hid (wy.ownsRow (w6.heap.size + 1) 39 13 v i (flatC insC (firstI acts n i)))) (fun vi _ => n - (intOf vi).toNat)
      case atStart => exact ⟨0, _, rfl, by omega, LX, HX0, HOX0⟩
      case round =>
        clear HX0 HOX0 LX
        obtain ⟨i, v, rfl, hi, hlx, hBx, hOx⟩ := hrel
        obtain ⟨vp, vcap, rfl⟩ := owns_slice hOx.out
        by_cases h9 : i < n
        · obtain ⟨act, hact⟩ : ∃ a, acts[i]? = some a := ⟨_, List.getElem?_eq_getElem (by omega)⟩
          have LD : Later w6 wr.drew := Later.drew hlx
          obtain ⟨gc, oc, rfl, hok, x0, x1, x2, x3, x4, hxn⟩ := (ActRow.kept HAR.out LD.kept).get hact
          have ca' := cell_later ca LD
          have HBD : Hid (wr.drew.heap[w6.heap.size]? = some (.cells #[.slice vp i vcap] 34)) := hBx
          have HOD : Hid (wr.drew.ownsRow (w6.heap.size + 1) 39 13 (.slice vp i vcap) i (flatC insC (firstI acts n i))) := hOx
          obtain ⟨c0, -⟩ := box1_facts HBD.out
          have cI := fun w' => bookIns_any act hok (n + 1) (by omega) w'
          have hXl := insOf_labels act (n + 1)
          have hXone := insC_one (insOf act (n + 1 : Nat)) [] hXl
          have hnx : Hid (firstI acts n (i + 1) = firstI acts n i ++ [(insOf act (n + 1 : Nat), [])]) := firstI_next hact
          unfold Ins.val Ins.cells at cI
          unfold insC Ins.cells at hXone
          dsimp only at hXone
          rw [hXl] at cI hXone
          unfold Act5.val at cI
          have HXL : Hid ((insOf act (n + 1 : Nat)).labels = .slice none 0 0) := hXl
          have hai : (i : Int) < acts.length := by omega
          rw [show ((n + 1 : Nat) : Int) = (n : Int) + 1 by omega] at *
          clear hact hok hXl ca hBx hOx hxn
          generalize insOf act ((n : Int) + 1) = X at *
          have hxc : Hid (insC (X, []) = [.int .i64 X.op, .bool X.lock, .int .i64 X.cond, .int .i64 X.a.kind, .int .i64 X.a.reg, .int .i64 X.a.sym, .int .i64 X.a.n, .int .i64 X.b.kind, .int .i64 X.b.reg, .int .i64 X.b.sym, .int .i64 X.b.n, .string X.dest, .slice none 0 0]) := by show _ = _; unfold insC Ins.cells; dsimp only; rw [HXL.out]
          have hwrap := wrap_small ((n : Int) + 1) (by omega) (by omega)
          go_upto_region 10 with (fail)
          go_region_law (first | (refine step_append_own rfl (.tmp 45) (.tmp 56) 32 rfl (w6.heap.size + 1) 39 i0 (.agg #[.int .i64 0, .bool false, .int .i64 0, .int .i64 0, .int .i64 0, .int .i64 0, .int .i64 0, .int .i64 0, .int .i64 0, .int .i64 0, .int .i64 0, .string ⟨#[]⟩, .slice none 0 0]) 13 128 Tryd.underlying32 hi0 hz0 hz1 hz2 rfl (by decide) (.slice vp i vcap) i (flatC insC (firstI acts n i)) (by simp [Act.eval, Act.put]) ((ownsC_later HOD.out hl1).alloc _) ⟨w1.heap.size, 0, none⟩ 1 1 [.int .i64 X.op, .bool X.lock, .int .i64 X.cond, .int .i64 X.a.kind, .int .i64 X.a.reg, .int .i64 X.a.sym, .int .i64 X.a.n, .int .i64 X.b.kind, .int .i64 X.b.reg, .int .i64 X.b.sym, .int .i64 X.b.n, .string X.dest, .slice none 0 0] (by simp [Act.eval, Act.put]) rfl (news_at2 _ _ _ rfl) hXone (by unfold maxLen; omega) (by omega) (by have := hl1.size; have := lt_block HBD.out; simp at *; omega) ?_; intro v3 w3 hown3 hgrow3; obtain ⟨p3, q3, rfl⟩ := owns_slice hown3; have X3 := after_more (Later.trans (Later.drew hlx) hl1) (Nat.le_succ _) (Nat.lt_succ_self _) (ownsC_later HOD.out hl1) (heap_later hl1 HBD.out) hgrow3 hown3; clear hown3 hgrow3; obtain ⟨c3, f3⟩ := box1_facts X3.out.2.2) | (go_simp; go_at_call 15; apply Calls.mono; (focus (with_reducible (exact cI wr.drew))); rintro e w1 ⟨rfl, hl1⟩; have e0 := cell_later c0 hl1; have e1 := cell_later e0 (Later.alloc (Later.refl w1) (.cells #[.int .i64 X.op, .bool X.lock, .int .i64 X.cond, .int .i64 X.a.kind, .int .i64 X.a.reg, .int .i64 X.a.sym, .int .i64 X.a.n, .int .i64 X.b.kind, .int .i64 X.b.reg, .int .i64 X.b.sym, .int .i64 X.b.n, .string X.dest, .slice none 0 0] 39))))
          all_goals
            go_wp2
            go_roundw
            case rel => exact ⟨i + 1, _, by go_num, by omega, Later.setCell X3.out.2.1 (Nat.le_refl _) 0 _, setCell_block X3.out.2.2 0 _, (by show World.ownsRow _ _ _ _ _ _ _; rw [hnx.out, flat_next, hxc.out]; exact ownsRow_setCell_below X3.out.1 (Nat.lt_succ_self _) _)⟩
            case measure => simp [intOf]; omega
        · have HI : Hid (i = n) := by show _ = _; omega
          obtain ⟨c0, -⟩ := box1_facts hBx.out
          go_upto_region 12 with (at_builtin; refine wpList_append_own _ rfl _ _ 32 rfl (w6.heap.size + 1) 39 i0 (.agg #[.int .i64 0, .bool false, .int .i64 0, .int .i64 0, .int .i64 0, .int .i64 0, .int .i64 0, .int .i64 0, .int .i64 0, .int .i64 0, .int .i64 0, .string ⟨#[]⟩, .slice none 0 0]) 13 128 Tryd.underlying32 hi0 hz0 hz1 hz2 rfl (by decide) _ _ _ rfl (hOx.out.alloc _) ⟨wr.heap.size, 0, none⟩ 1 1 [.int .i64 14, .bool false, .int .i64 0, .int .i64 0, .int .i64 0, .int .i64 0, .int .i64 0, .int .i64 0, .int .i64 0, .int .i64 0, .int .i64 0, .string ⟨#[]⟩, .slice none 0 0] rfl rfl (news_at _ _ _) (bare_one 14) (by unfold maxLen; omega) (by omega) (by have := lt_block hBx.out; simp; omega) ?_; intro v3 w3 hown3 hgrow3 hnil3; obtain ⟨p3, q3, rfl⟩ := owns_slice hown3; have X3 := after_more hlx (Nat.le_succ _) (Nat.lt_succ_self _) hOx.out hBx.out hgrow3 hown3; clear hown3 hgrow3 hnil3; obtain ⟨c3, f3⟩ := box1_facts X3.out.2.2)
          have L4 := Later.setCell X3.out.2.1 (Nat.le_refl _) 0 (.slice p3 (i + 1) q3)
          have B4 := setCell_block X3.out.2.2 0 (.slice p3 (i + 1) q3)
          have O4 : OwnThr (w3.setCell ⟨w6.heap.size, 0, none⟩ (.slice p3 (i + 1) q3)) (w6.heap.size + 1) (.slice p3 (i + 1) q3) ((rawL acts n).map fun r => (r, [])) := by
            refine raw_own hn1 ?_ ?_
            · intro a ha
              obtain ⟨ja, hja, rfl⟩ := List.getElem_of_mem ha
              exact ((RowIn.get HAR.out (List.getElem?_eq_getElem hja)).choose_spec.choose_spec.choose_spec.2.1).2.2
            · rw [flat_next]
              have := ownsRow_setCell_below X3.out.1 (Nat.lt_succ_self w6.heap.size) (a := ⟨w6.heap.size, 0, none⟩) (.slice p3 (i + 1) q3)
              rw [HI.out] at this ⊢
              exact this
          generalize w3.setCell ⟨w6.heap.size, 0, none⟩ (.slice p3 (i + 1) q3) = W4 at *
          have hRl := rawL_length hn1
          obtain ⟨R, hR⟩ : ∃ R, rawL acts n = R := ⟨_, rfl⟩
          rw [hR] at O4 hRl
          have HRR : Hid (rawL acts n = R) := hR
          obtain ⟨g, capg, curg, hgv, -, -⟩ := O4.block (by rw [List.length_map, hRl]; omega)
          simp only [Value.slice.injEq] at hgv
          obtain ⟨rfl, -, rfl⟩ := hgv
          have HO4 : Hid (OwnThr W4 (w6.heap.size + 1) (.slice (some ⟨g, 0, none⟩) (i + 1) q3) (R.map fun r => (r, []))) := O4
          have HB4 : Hid (W4.heap[w6.heap.size]? = some (.cells #[.slice (some ⟨g, 0, none⟩) (i + 1) q3] 34)) := B4
          have HI4 : Hid (IsThr R (jumped R 0) (R.map fun r => (r, []))) := IsThr.start.same (fun k _ => by simp [jumped])
          have HRL : Hid (R.length = n + 1) := hRl
          clear X3 c3 f3 hR B4 O4 hBx hOx hlx hRl
          go_wp2
          obtain ⟨w7, rfl⟩ : ∃ w7, w7 = wr := ⟨_, rfl⟩
          go_loopw [12] (fun vk wy => ∃ (k : Nat) (T : Thr), vk = .int .i64 (k : Nat) ∧ k ≤ n ∧ Later w6 wy ∧ Hid (wy.heap[w6.heap.size]? = some (.cells #[.slice (some ⟨g, 0, none⟩) (i + 1) q3] 34)) ∧ Hid (OwnThr wy (w6.heap.size + 1) (.slice (some ⟨g, 0, none⟩) (i + 1) q3) T) ∧ Hid (IsThr R (jumped R k) T)) (fun vk _ => n - (intOf vk).toNat)
          case atStart => exact ⟨0, _, rfl, by omega, L4, HB4, HO4, HI4⟩
          case round =>
            clear HB4 HO4 HI4 L4
            obtain ⟨k, T, rfl, hk, hlx, hBx, hOx, hIs⟩ := hrel
            obtain ⟨c0, -⟩ := box1_facts hBx.out
            have hin1 : i ≤ n := Nat.le_of_eq HI.out
            have hin2 : n ≤ i := Nat.le_of_eq HI.out.symm
            have hTl : T.length = n + 1 := hIs.out.len.trans HRL.out
            by_cases h10 : k < n
            · obtain ⟨⟨x, L⟩, hx⟩ : ∃ a, T[k]? = some a := ⟨_, List.getElem?_eq_getElem (by omega)⟩
              obtain ⟨r, hr⟩ : ∃ a, R[k]? = some a := ⟨_, List.getElem?_eq_getElem (by rw [HRL.out]; omega)⟩
              obtain ⟨b11, -, -, -⟩ := hOx.out.get hx
              have hds := dest_of hIs.out hx hr
              rw [hds] at b11
              have HRK : Hid (R[k]? = some r) := hr
              have hki : (k : Int) < (i + 1 : Nat) := by omega
              clear hx hr hds
              by_cases hde : r.dest = ⟨#[]⟩
              · have hj : Hid (IsThr R (jumped R (k + 1)) T) := hIs.out.same (fun q _ => jumped_empty HRK.out hde q)
                rw [hde] at b11
                go_wp2
                go_roundw
                case rel => exact ⟨k + 1, T, by go_num, by omega, hlx, hBx, hOx, hj⟩
                case measure => simp [intOf]; omega
              · have hdf : r.dest.toList.isEmpty = false := by
                  cases h : r.dest.toList.isEmpty with
                  | false => rfl
                  | true =>
                    rw [List.isEmpty_iff, ByteArray.toList_eq] at h
                    exact absurd (ByteArray.ext (Array.toList_inj.1 (by rw [h]))) hde
                go_wp2
                obtain ⟨w8, rfl⟩ : ∃ w8, w8 = wr := ⟨_, rfl⟩
                have hIs0 : Hid (IsThr R (marksAt R k r.dest 0) T) := hIs.out.same (fun q _ => (marksAt_zero R k r.dest q).symm)
                go_loopw [13] (fun vj wz => ∃ (j : Nat) (T : Thr), vj = .int .i64 (j : Nat) ∧ j ≤ n + 1 ∧ Later w6 wz ∧ Hid (wz.heap[w6.heap.size]? = some (.cells #[.slice (some ⟨g, 0, none⟩) (i + 1) q3] 34)) ∧ Hid (OwnThr wz (w6.heap.size + 1) (.slice (some ⟨g, 0, none⟩) (i + 1) q3) T) ∧ Hid (IsThr R (marksAt R k r.dest j) T)) (fun vj _ => n + 1 - (intOf vj).toNat)
                case atStart => exact ⟨0, T, rfl, by omega, hlx, hBx, hOx, hIs0⟩
                case round =>
                  clear hlx hBx hOx hIs hIs0 hTl b11 c0 T
                  obtain ⟨j, T, rfl, hj, hlx, hBx, hOx, hIs⟩ := hrel
                  obtain ⟨c0, -⟩ := box1_facts hBx.out
                  have hTl : T.length = n + 1 := hIs.out.len.trans HRL.out
                  by_cases h11 : j ≤ n
                  · obtain ⟨⟨x, L⟩, hx⟩ : ∃ a, T[k]? = some a := ⟨_, List.getElem?_eq_getElem (by omega)⟩
                    obtain ⟨⟨y, M⟩, hy⟩ : ∃ a, T[j]? = some a := ⟨_, List.getElem?_eq_getElem (by omega)⟩
                    obtain ⟨ry, hry⟩ : ∃ a, R[j]? = some a := ⟨_, List.getElem?_eq_getElem (by rw [HRL.out]; omega)⟩
                    obtain ⟨b11, -, -, -⟩ := hOx.out.get hx
                    obtain ⟨-, d12, hty, -⟩ := hOx.out.get hy
                    rw [dest_of hIs.out hx HRK.out] at b11
                    have hM := (hIs.out.is j y M ry hy hry).2
                    rw [marksAt_now] at hM
                    obtain ⟨yq, ydap, hyl, -, -, -, -⟩ := hty
                    rw [hyl] at d12
                    have HY : Hid (T[j]? = some (y, M)) := hy
                    have cL := fun w' => label_any j (by omega) w'
                    have hji : (j : Int) < (i + 1 : Nat) := by omega
                    have hj0 : (j : Int) ≤ n := by omega
                    clear hx hy hry hyl
                    go_upto_region 19 with (fail)
                    have ne : Nonempty (After wr) := ⟨⟨wr, Later.refl wr⟩⟩
                    have m0 := fun z : After wr => cell_after c0 z
                    have m1 := fun z : After wr => cell_after b11 z
                    have m2 := fun z : After wr => cell_after d12 z
                    clear c0 b11 d12
                    by_cases hd : r.dest = labelT j
                    · have ge := eqT_true hd.symm
                      cases hju : jumped R k j with
                      | true =>
                        rw [hju] at hM
                        simp only [if_true] at hM
                        subst hM
                        have hIs1 : Hid (IsThr R (marksAt R k r.dest (j + 1)) T) := hIs.out.same (fun q _ => marksAt_skip (Or.inr hju) q)
                        clear hju
                        refine wp_region_later (by kernel_rfl) (by kernel_rfl) ?_
                        repeat (first | go_big_quiet_step (((go_at_call 16; with_reducible (exact Calls.after_of (cL _))))) | quiet_step (((go_at_call 16; with_reducible (exact Calls.after_of (cL _))))))
                        refine wpQuiet_nil ?_
                        intro _ hw'
                        obtain ⟨z, hw''⟩ := hw'
                        subst hw''
                        clear m0 m1 m2
                        go_wp2
                        go_roundw
                        case rel => exact ⟨j + 1, T, by go_num, by omega, hlx.trans z.later, heap_later z.later hBx.out, hOx.out.later z.later, hIs1⟩
                        case measure => simp [intOf]; omega
                      | false =>
                        rw [hju] at hM
                        simp only [Bool.false_eq_true, if_false] at hM
                        subst hM
                        have HD : Hid (r.dest = labelT j) := hd
                        clear hju hd
                        refine wp_region_later (by kernel_rfl) (by kernel_rfl) ?_
                        repeat (first | go_big_quiet_step (((go_at_call 16; with_reducible (exact Calls.after_of (cL _))))) | quiet_step (((go_at_call 16; with_reducible (exact Calls.after_of (cL _))))))
                        refine wpQuiet_nil ?_
                        intro _ hw'
                        obtain ⟨z, hw''⟩ := hw'
                        subst hw''
                        clear m0 m1 m2 ge
                        have hlz := hlx.trans z.later
                        have hBz : Hid (z.world.heap[w6.heap.size]? = some (.cells #[.slice (some ⟨g, 0, none⟩) (i + 1) q3] 34)) := heap_later z.later hBx.out
                        have hOz : Hid (OwnThr z.world (w6.heap.size + 1) (.slice (some ⟨g, 0, none⟩) (i + 1) q3) T) := hOx.out.later z.later
                        generalize z.world = Wz at *
                        clear hlx hBx hOx ne
                        obtain ⟨c0, -⟩ := box1_facts hBz.out
                        have c0d : Wz.drew.cell? ⟨w6.heap.size, 0, none⟩ = some (.slice (some ⟨g, 0, none⟩) (i + 1) q3) := c0
                        clear c0
                        go_upto_region 20 with (fail)
                        go_region_with (go_at_call 16; apply Calls.mono; (focus (with_reducible (exact cL Wz.drew))); rintro e w1 ⟨rfl, hl1⟩; have e0 := cell_later c0d hl1; have e1 := cell_later e0 (Later.alloc (Later.refl w1) (.cells #[.string (labelT j)] 9)); have LT := Later.trans hl1 (Later.alloc (Later.refl w1) (.cells #[.string (labelT j)] 9)); have HOT : Hid (OwnThr (w1.alloc (.cells #[.string (labelT j)] 9)) (w6.heap.size + 1) (.slice (some ⟨g, 0, none⟩) (i + 1) q3) T) := (OwnThr.later (OwnThr.later hOz.out (Later.drew (Later.refl _))) LT); obtain ⟨-, k12, -, kf⟩ := HOT.out.get HY.out)
                        all_goals
                          obtain ⟨-, hNg, -⟩ := HOT.out.at
                          go_wp2
                          go_roundw
                          case rel => exact ⟨j + 1, _, by go_num, by omega, Later.setCell (Later.trans (Later.drew hlz) LT) (by omega) _ _, set_kept (heap_later LT hBz.out) (by omega), HOT.out.label2 HY.out (one_text (by have := hl1.size; have := lt_block hBz.out; simp at *; omega) (at_new w1 _)) (fun t ht => by simp at ht; subst ht; show 3 ≤ 1000; omega), hIs.out.mark HY.out _ (fun q hq => marksAt_other hq) (marksAt_hit HD.out)⟩
                          case measure => simp [intOf]; omega
                    · have ge := eqT_false (fun h => hd h.symm)
                      have hIs1 : Hid (IsThr R (marksAt R k r.dest (j + 1)) T) := hIs.out.same (fun q _ => marksAt_skip (Or.inl hd) q)
                      clear hM hd
                      refine wp_region_later (by kernel_rfl) (by kernel_rfl) ?_
                      repeat (first | go_big_quiet_step (((go_at_call 16; with_reducible (exact Calls.after_of (cL _))))) | quiet_step (((go_at_call 16; with_reducible (exact Calls.after_of (cL _))))))
                      refine wpQuiet_nil ?_
                      intro _ hw'
                      obtain ⟨z, hw''⟩ := hw'
                      subst hw''
                      clear m0 m1 m2
                      go_wp2
                      go_roundw
                      case rel => exact ⟨j + 1, T, by go_num, by omega, hlx.trans z.later, heap_later z.later hBx.out, hOx.out.later z.later, hIs1⟩
                      case measure => simp [intOf]; omega
                  · have hIs1 : Hid (IsThr R (jumped R (k + 1)) T) := by
                      have := hIs.out
                      rw [show j = n + 1 by omega] at this
                      exact this.same (marksAt_end HRK.out HRL.out)
                    go_wp2
                    go_roundw
                    case rel => exact ⟨k + 1, T, by go_num, by omega, hlx, hBx, hOx, hIs1⟩
                    case measure => simp [intOf]; omega
            · have hkn : k = n := by omega
              have hBp := heap_later hlx hBk.out
              obtain ⟨cp0, cp1, -⟩ := box2_facts hBp
              have hlt := lt_block hBk.out
              have hTm : MadeThr wr (sp + 1) mn acts (.slice (some ⟨g, 0, none⟩) (i + 1) q3) T := ⟨hOx.out.mono (by omega), by rw [HN.out, HRR.out]; have := hIs.out; rw [hkn] at this; exact this⟩
              have HTM : Hid (MadeThr wr (sp + 1) mn acts (.slice (some ⟨g, 0, none⟩) (i + 1) q3) T) := hTm
              have HNE : Hid (∀ (i' : Nat) u, vs[i']? = some u → u.ownBlock ≠ (Value.slice (some ⟨g, 0, none⟩) (i + 1) q3).ownBlock) := fresh_apart hMd.out (by omega) (by omega) hOx.out
              have HMW : Hid (MadeThrs wr (sp + 1) mn l t vs P) := hMd.out.lift (fun v T h => h.later hlx)
              have HBP : Hid (wr.heap[sp]? = some (.cells #[.slice (some ⟨w.heap.size + 1 + 1 + 1, 0, none⟩) 3 3, .slice tp t tcap] 25)) := hBp
              have HOP : Hid (wr.ownsRow (sp + 1) 34 1 (.slice tp t tcap) t (flatC oneV vs)) := ownsC_later hOw.out hlx
              clear hkn hBp hTm hIs hOx hBx
              go_wp2_with (at_builtin; refine wpList_append_own _ rfl _ _ 23 rfl (sp + 1) 34 j0 (.agg #[.slice none 0 0]) 1 24 Tryd.underlying23 hj0 hy0 hy1 hy2 rfl (by decide) _ _ _ rfl (HOP.out.alloc _) ⟨wr.heap.size, 0, none⟩ 1 1 [.slice (some ⟨g, 0, none⟩) (i + 1) q3] rfl rfl (news_at _ _ _) (fun u hu => by simp at hu; subst hu; rfl) (by unfold maxLen; omega) (by omega) (by have := lt_block HBP.out; simp; omega) ?_; intro v3 w3 hown3 hgrow3 hnil3; obtain ⟨p5, q5, rfl⟩ := owns_slice hown3; have X5 := after_made (hlw.trans hlx) hs0 HOP.out HBP.out HMW.out HAC.out HTM.out HNE.out hgrow3 hown3; clear hown3 hgrow3 hnil3; obtain ⟨k0, k1, kf0, kf1⟩ := box2_facts X5.out.2.1)
              go_roundw
              case rel => exact ⟨t + 1, _, _, _, by go_num, by omega, by omega, Later.setCell X5.out.1 (by omega) 1 _, setCell_block X5.out.2.1 1 _, ownsRow_setCell_below X5.out.2.2.1 (Nat.lt_succ_self _) _, MadeThrs.set X5.out.2.2.2 X5.out.2.1⟩
              case measure => simp [intOf]; omega
    · have HRw : Hid (wr.heap[w.heap.size]? = some (.cells #[.slice none 0 0, .slice none 0 0] 25)) := heap_later hlw HR.out
      obtain ⟨r0, r1, f0, f1⟩ := box2_facts HRw.out
      obtain ⟨cp0, cp1, -⟩ := box2_facts hBk.out
      have HTM : Hid (t = min l.length th) := by show _ = _; omega
      have hxy := HXYZ.out.later hlw
      have hlz := L0.trans hlw
      have hsp := HSP.out
      obtain ⟨s0, s1, -⟩ := box2_facts (setCell_block (setCell_block HRw.out 0 (.slice (some ⟨w.heap.size + 1 + 1 + 1, 0, none⟩) 3 3)) 1 (.slice tp t tcap))
      have HFIN : Hid (Later w ((wr.setCell ⟨w.heap.size, 0, none⟩ (.slice (some ⟨w.heap.size + 1 + 1 + 1, 0, none⟩) 3 3)).setCell ⟨w.heap.size, 1, none⟩ (.slice tp t tcap)) ∧ XYZ ((wr.setCell ⟨w.heap.size, 0, none⟩ (.slice (some ⟨w.heap.size + 1 + 1 + 1, 0, none⟩) 3 3)).setCell ⟨w.heap.size, 1, none⟩ (.slice tp t tcap)) w.heap.size ∧ ((wr.setCell ⟨w.heap.size, 0, none⟩ (.slice (some ⟨w.heap.size + 1 + 1 + 1, 0, none⟩) 3 3)).setCell ⟨w.heap.size, 1, none⟩ (.slice tp t tcap)).ownsRow w.heap.size 34 1 (.slice tp t tcap) t (flatC oneV vs) ∧ MadeThrs ((wr.setCell ⟨w.heap.size, 0, none⟩ (.slice (some ⟨w.heap.size + 1 + 1 + 1, 0, none⟩) 3 3)).setCell ⟨w.heap.size, 1, none⟩ (.slice tp t tcap)) w.heap.size mn l t vs P) :=
        ⟨Later.setCell (Later.setCell hlz (Nat.le_refl _) _ _) (Nat.le_refl _) _ _, hxy.set.set, owns_base (ownsRow_setCell_below (ownsRow_setCell_below hOw.out (by show w.heap.size < sp + 1; omega) _) (by show w.heap.size < sp + 1; omega) _) (by omega), (MadeThrs.set (MadeThrs.set hMd.out HRw.out) (setCell_block HRw.out 0 _)).mono (by omega)⟩
      clear hxy hlz hsp hMd hOw hBk hlw
      by_cases hA : t < l.length
      · have hB : ¬ t < th := fun h => h8 ⟨hA, h⟩
        have hA1 : (t : Int) < l.length := by omega
        have hB1 : ¬ (t : Int) < th := by omega
        go_wp2
        refine bodyPost_ret (by simp [results, Tryd.results6, go_sem, s0, s1]; try rfl) rfl ?_
        exact ⟨_, rfl, HFIN.out.1, HFIN.out.2.1, vs, (by rw [← HTM.out]; exact HFIN.out.2.2.1), P, (by rw [← HTM.out]; exact HFIN.out.2.2.2)⟩
      · have hA1 : ¬ (t : Int) < l.length := by omega
        go_wp2
        refine bodyPost_ret (by simp [results, Tryd.results6, go_sem, s0, s1]; try rfl) rfl ?_
        exact ⟨_, rfl, HFIN.out.1, HFIN.out.2.1, vs, (by rw [← HTM.out]; exact HFIN.out.2.2.1), P, (by rw [← HTM.out]; exact HFIN.out.2.2.2)⟩

end Go.Proofs.YtegogmbcjjjjjaaDoor
