/-
  The document's own CopyProg: the walk. Conditions: the texts are no longer than 1000, no list is longer than a million, no instruction has more than 1000 labels.
-/
import Derived.Test.YtegogmbcjjjjjaaDoorRefCopy
namespace Go.Proofs.YtegogmbcjjjjjaaDoor
open Go.RowKit Go.WideShapes
set_option linter.unusedVariables false
set_option linter.unusedSimpArgs false

set_option maxRecDepth 1000000 in
set_option maxHeartbeats 8000000 in
theorem refCopy_any (u v : Value) (S : Syms) (P : List Thr) (w : World) (hS : SymRow w u S) (hP : ThrRow w v P) (f : FineP S P) (hs : S.length ≤ 1000000) (hp : P.length ≤ 1000000) (hT : ∀ T ∈ P, T.length ≤ 1000000 ∧ ∀ x ∈ T, x.2.length ≤ 1000) (hI : ∀ s ∈ S, s.2.length ≤ 1000000) :
    Calls Tryd.prog 7 #[.agg #[u, v]] w fun e w' => ∃ u' v', e = .returned (.agg #[u', v']) ∧ Copied w' (w.heap.size + 3) u' v' S P ∧ Later w w' := by
  obtain ⟨s0, hs0, sz0, sz1, sz2⟩ := info_parts infoCSym
  obtain ⟨j0, hj0, jz0, jz1, jz2⟩ := info_parts infoCInt
  obtain ⟨i0, hi0, hz0, hz1, hz2⟩ := info_parts infoCIns
  obtain ⟨k0, hk0, kz0, kz1, kz2⟩ := info_parts infoCThr
  obtain ⟨pu, cu, rfl, -, -⟩ := RowIn.slice hS
  obtain ⟨pv, cv, rfl, -, -⟩ := RowIn.slice hP
  obtain ⟨n, hn⟩ : ∃ n, S.length = n := ⟨_, rfl⟩
  obtain ⟨m, hm⟩ : ∃ m, P.length = m := ⟨_, rfl⟩
  rw [hn] at hs hS ⊢
  rw [hm] at hp hP ⊢
  have HS : Hid (SymRow w (.slice pu n cu) S) := hS
  have HP : Hid (ThrRow w (.slice pv m cv) P) := hP
  have HI : Hid (∀ s ∈ S, s.2.length ≤ 1000000) := hI
  have HT : Hid (∀ T ∈ P, T.length ≤ 1000000 ∧ ∀ x ∈ T, x.2.length ≤ 1000) := hT
  have HF : Hid (FineP S P) := f
  have L0 := Later.alloc (Later.alloc (Later.alloc (Later.refl w) (.cells #[.slice pu n cu, .slice pv m cv] 25)) (.cells #[.slice none 0 0, .slice none 0 0] 25)) (.cells #[.slice none 0 0, .slice none 0 0] 25)
  obtain ⟨HB, HC⟩ := two_new2 w (.cells #[.slice pu n cu, .slice pv m cv] 25) (.cells #[.slice none 0 0, .slice none 0 0] 25)
  have LQ := Later.alloc (Later.refl ((w.alloc (.cells #[.slice pu n cu, .slice pv m cv] 25)).alloc (.cells #[.slice none 0 0, .slice none 0 0] 25))) (.cells #[.slice none 0 0, .slice none 0 0] 25)
  have HQ := at_new ((w.alloc (.cells #[.slice pu n cu, .slice pv m cv] 25)).alloc (.cells #[.slice none 0 0, .slice none 0 0] 25)) (.cells #[.slice none 0 0, .slice none 0 0] 25)
  replace HB := heap_later LQ HB
  replace HC := heap_later LQ HC
  rw [show ((w.alloc (.cells #[.slice pu n cu, .slice pv m cv] 25)).alloc (.cells #[.slice none 0 0, .slice none 0 0] 25)).heap.size = w.heap.size + 1 + 1 by simp] at HQ
  clear hS hP hI hT f LQ
  go_enter Tryd.func7, Tryd.ntmps7
  go_upto_region 2 with (fail)
  generalize hW : ((w.alloc (.cells #[.slice pu n cu, .slice pv m cv] 25)).alloc (.cells #[.slice none 0 0, .slice none 0 0] 25)).alloc (.cells #[.slice none 0 0, .slice none 0 0] 25) = W at *
  have HN : Hid (W.heap.size = w.heap.size + 3) := by show _ = _; rw [← hW]; simp
  clear hW
  obtain ⟨H, hH⟩ : ∃ H, w.heap.size = H := ⟨_, rfl⟩
  rw [hH] at HB HC HQ HN ⊢
  have hQ0 : Hid (HalfS W (H + 3) (.slice none 0 0) (S.take 0) [] 0) := ⟨World.ownsRow_nil _ _ _ _, rfl, fun j x L hj => by simp at hj⟩
  have HB' : Hid (W.heap[H]? = some (.cells #[.slice pu n cu, .slice pv m cv] 25)) := HB
  have HC' : Hid (W.heap[H + 1]? = some (.cells #[.slice none 0 0, .slice none 0 0] 25)) := HC
  have HQ' : Hid (W.heap[H + 1 + 1]? = some (.cells #[.slice none 0 0, .slice none 0 0] 25)) := HQ
  have hge : Hid (H + 3 ≤ W.heap.size) := by show _ ≤ _; rw [HN.out]; omega
  clear HB HC HQ HN
  go_wp2
  go_loopw [4] (fun vi wr => ∃ (i : Nat) (S' : Syms) (q : Value), vi = .int .i64 (i : Nat) ∧ i ≤ n ∧ Later w wr ∧ Hid (wr.heap[H]? = some (.cells #[.slice pu n cu, .slice pv m cv] 25)) ∧ Hid (wr.heap[H + 1]? = some (.cells #[.slice none 0 0, .slice none 0 0] 25)) ∧ Hid (wr.heap[H + 1 + 1]? = some (.cells #[q, .slice none 0 0] 25)) ∧ Hid (H + 3 ≤ wr.heap.size) ∧ Hid (HalfS wr (H + 3) q (S.take i) S' i)) (fun vi _ => n - (intOf vi).toNat)
  case atStart => exact ⟨0, [], _, rfl, by omega, L0, HB', HC', HQ', hge, hQ0⟩
  case round =>
    clear HB' HC' HQ' hQ0 L0 hge
    obtain ⟨i, S', q, rfl, hi, hlw, HB, HC, HQ, HG, HH⟩ := hrel
    obtain ⟨a0, a1, -⟩ := box2_facts HB.out
    by_cases h8 : i < n
    · obtain ⟨⟨⟨nm, sz, iv0⟩, I⟩, hx⟩ : ∃ x, S[i]? = some x := ⟨_, List.getElem?_eq_getElem (by omega)⟩
      obtain ⟨g, o, rfl, hx1, hx2, hin, x0, x1, x2⟩ := (SymRow.kept HS.out hlw.kept).get hx
      dsimp only at hx1 hx2 hin x0 x1 x2
      have hIn : I.length ≤ 1000000 := HI.out _ (List.mem_of_getElem? hx)
      have hrow := HH.out.row
      rw [(take_lens hx).1] at hrow
      obtain ⟨qp, qc, rfl⟩ := owns_slice hrow
      obtain ⟨ip, ic, rfl, -, -⟩ := RowIn.slice hin
      have L5 := Later.alloc (Later.refl wr) (.cells #[.string nm, .int .i64 sz, .slice ip I.length ic] 42)
      have H5 := at_new wr (.cells #[.string nm, .int .i64 sz, .slice ip I.length ic] 42)
      have sI := (nums_src hin).later L5
      have hb5 : H + 3 ≤ (wr.alloc (.cells #[.string nm, .int .i64 sz, .slice ip I.length ic] 42)).heap.size := Nat.le_trans HG.out L5.size
      clear hrow hin
      go_upto_region 6 with (fail)
      generalize wr.alloc (.cells #[.string nm, .int .i64 sz, .slice ip I.length ic] 42) = W5 at *
      obtain ⟨b0, b1, b2, -⟩ := box3_facts H5
      go_upto_region 7 with (at_builtin; refine wpList_append_src rfl (.const (.slice none 0 0)) (.tmp 22) 40 rfl (H + 3) 2 j0 (.int .i64 0) 1 8 Tryd.underlying40 hj0 jz0 jz1 jz2 rfl (by decide) (.slice ip I.length ic) I.length (I.map (Value.int .i64)) rfl rfl sI (by unfold maxLen; omega) (by omega) hb5 ?_; intro v6 w6 ho6 hg6; obtain ⟨p6, q6, rfl⟩ := owns_slice ho6; have l6 : Later W5 w6 := ⟨hg6.os, hg6.tape, hg6.output, hg6.size, fun k hk => hg6.block k hk (by simp)⟩; have H6 := heap_later l6 H5; obtain ⟨d0, d1, d2, d3, d4, d5⟩ := box3_facts H6; clear b0 b1 b2)
      have l7 : Later wr (w6.setCell ⟨wr.heap.size, 2, none⟩ (.slice p6 I.length q6)) := Later.setCell (L5.trans l6) (Nat.le_refl _) 2 _
      have H7 : (w6.setCell ⟨wr.heap.size, 2, none⟩ (.slice p6 I.length q6)).heap[wr.heap.size]? = some (.cells #[.string nm, .int .i64 sz, .slice p6 I.length q6] 42) := setCell_block H6 2 _
      have ho7 : OwnNums (w6.setCell ⟨wr.heap.size, 2, none⟩ (.slice p6 I.length q6)) (H + 3) (.slice p6 I.length q6) I := owns_set_other ho6 H6 (fun cs fz e0 => by cases e0) 2 _
      clear d0 d1 d2 d3 d4 d5 H6 ho6 hg6 l6 sI hb5 L5 H5
      generalize w6.setCell ⟨wr.heap.size, 2, none⟩ (.slice p6 I.length q6) = W7 at *
      obtain ⟨b0, b1, b2, -⟩ := box3_facts H7
      have HQ7 := heap_later l7 HQ.out
      obtain ⟨c0, c1, -⟩ := box2_facts HQ7
      have HH7 := HH.out.later l7
      have hr7 := HH7.row
      rw [(take_lens hx).1] at hr7
      have hG7 : H + 3 ≤ W7.heap.size := Nat.le_trans HG.out l7.size
      go_wp2_with (at_builtin; refine wpList_append_own _ rfl _ _ 22 rfl (H + 3) 42 s0 (.agg #[.string ⟨#[]⟩, .int .i64 0, .slice none 0 0]) 3 48 Tryd.underlying22 hs0 sz0 sz1 sz2 rfl (by decide) (.slice qp i qc) i (flatC symCells S') rfl (hr7.alloc _) ⟨W7.heap.size, 0, none⟩ 1 1 [.string nm, .int .i64 sz, .slice p6 I.length q6] rfl rfl (news_at _ _ _) (fun u hu => by simp at hu; rcases hu with rfl | rfl | rfl <;> rfl) (by unfold maxLen; omega) (by omega) (Nat.le_trans hG7 (Later.alloc (Later.refl W7) _).size) ?_; intro v8 w8 ho8 hg8 hnil8; obtain ⟨p8, q8, rfl⟩ := owns_slice ho8; have H8 := HH7.snoc hx ho7 hg8 ho8; have LA := Later.alloc (Later.refl W7) (.cells #[.string nm, .int .i64 sz, .slice p6 I.length q6] 42); have HB8 := other_kept (ownsC_later hr7 LA) hg8 (heap_later (l7.trans LA) HB.out) (fun cs fz e0 => by cases e0); have HC8 := other_kept (ownsC_later hr7 LA) hg8 (heap_later (l7.trans LA) HC.out) (fun cs fz e0 => by cases e0); have HQ8 := other_kept (ownsC_later hr7 LA) hg8 (heap_later LA HQ7) (fun cs fz e0 => by cases e0); have lw8 : Later w w8 := Below.grown (hlw.trans (l7.trans LA)) hg8 (hlw.trans (l7.trans LA)).size (fun j hj => by have := ((ownsC_later hr7 LA).lt j hj).1; omega); have hs8 := hg8.size; have hsA := LA.size; obtain ⟨e0, e1, e2, e3⟩ := box2_facts HQ8)
      go_roundw
      case rel => exact ⟨i + 1, _, _, by go_num, by omega, Later.setCell lw8 (by omega) 0 _, set_kept HB8 (by omega), set_kept HC8 (by omega), setCell_block HQ8 0 _, (by show H + 3 ≤ (w8.heap.modify _ _).size; rw [Array.size_modify]; omega), H8.off HQ8 (fun cs fz e0 => by cases e0) (fun cs fz e0 => by cases e0) 0 _⟩
      case measure => simp [intOf] <;> omega
    · have hin : n = i := by omega
      subst hin
      have hHS := HH.out
      rw [List.take_of_length_le (by omega)] at hHS
      have HSn : Hid (HalfS wr (H + 3) q S S' S.length) := by show HalfS _ _ _ _ _ _; rw [hn]; exact hHS
      have hrow := hHS.row
      rw [hn] at hrow
      obtain ⟨qp, qc, rfl⟩ := owns_slice hrow
      have HP0 : Hid (HalfP w wr (H + 3) (.slice none 0 0) (P.take 0) [] 0) := ⟨World.ownsRow_nil _ _ _ _, rfl, fun j T hj => by simp at hj⟩
      clear HH hHS hrow
      go_wp2
      go_loopw [6] (fun vi wr => ∃ (j : Nat) (vs : List Value) (q : Value), vi = .int .i64 (j : Nat) ∧ j ≤ m ∧ Later w wr ∧ Hid (wr.heap[H]? = some (.cells #[.slice pu n cu, .slice pv m cv] 25)) ∧ Hid (wr.heap[H + 1]? = some (.cells #[.slice none 0 0, .slice none 0 0] 25)) ∧ Hid (wr.heap[H + 1 + 1]? = some (.cells #[.slice qp n qc, q] 25)) ∧ Hid (H + 3 ≤ wr.heap.size) ∧ Hid (HalfS wr (H + 3) (.slice qp n qc) S S' S.length) ∧ Hid (HalfP w wr (H + 3) q (P.take j) vs j)) (fun vi _ => m - (intOf vi).toNat)
      case atStart => exact ⟨0, [], _, rfl, by omega, hlw, HB, HC, HQ, HG, HSn, HP0⟩
      case round =>
        clear HB HC HQ HG HSn HP0 hlw a0 a1
        obtain ⟨j, vs, q, rfl, hj, hlw, HB, HC, HQ, HG, HSr, HPr⟩ := hrel
        obtain ⟨a0, a1, -⟩ := box2_facts HB.out
        by_cases h9 : j < m
        · obtain ⟨T, hx⟩ : ∃ T, P[j]? = some T := ⟨_, List.getElem?_eq_getElem (by omega)⟩
          obtain ⟨pg, po, tv0, rfl, hTr, dc⟩ := (ThrRow.kept HP.out hlw.kept).get hx
          obtain ⟨ip, ic, rfl, -, -⟩ := RowIn.slice hTr
          obtain ⟨tl, htl⟩ : ∃ tl, T.length = tl := ⟨_, rfl⟩
          rw [htl] at hTr dc
          have hmem := List.mem_of_getElem? hx
          obtain ⟨hT1, hT2⟩ := HT.out T hmem
          rw [htl] at hT1
          have HT2 : Hid (∀ x ∈ T, x.2.length ≤ 1000) := hT2
          have HFT : Hid (FineT T) := HF.out.threads T hmem
          have HTR : Hid (InsRow wr (.slice ip tl ic) T) := hTr
          have HX : Hid (P[j]? = some T) := hx
          have hrowP := HPr.out.row
          rw [(take_lens hx).1] at hrowP
          obtain ⟨qp2, qc2, rfl⟩ := owns_slice hrowP
          have LX := Later.alloc (Later.refl wr) (.cells #[.slice none 0 0] 34)
          have HX0 : Hid ((wr.alloc (.cells #[.slice none 0 0] 34)).heap[wr.heap.size]? = some (.cells #[.slice none 0 0] 34)) := at_new _ _
          have HO0 : Hid (OwnThr (wr.alloc (.cells #[.slice none 0 0] 34)) (wr.heap.size + 1) (.slice none 0 0) []) := ⟨World.ownsRow_nil _ _ _ _, fun x hx => by simp at hx⟩
          have HC0 : Hid (CopyT (T.take 0) []) := ⟨rfl, fun j x L hj => by simp at hj⟩
          clear hTr hx hT2 hrowP hmem
          go_upto_region 12 with (fail)
          generalize wr.alloc (.cells #[.slice none 0 0] 34) = W2 at *
          obtain ⟨w6, rfl⟩ : ∃ w6, w6 = wr := ⟨_, rfl⟩
          obtain ⟨a1', dc'⟩ : W2.cell? ⟨H, 1, none⟩ = _ ∧ W2.cell? ⟨pg, po + j, none⟩ = _ := ⟨cell_later a1 LX, cell_later dc LX⟩
          go_wp2
          go_loopw [8] (fun vk wy => ∃ (k : Nat) (T' : Thr) (q7 : Value), vk = .int .i64 (k : Nat) ∧ k ≤ tl ∧ Later w6 wy ∧ Hid (wy.heap[w6.heap.size]? = some (.cells #[q7] 34)) ∧ Hid (OwnThr wy (w6.heap.size + 1) q7 T') ∧ Hid (CopyT (T.take k) T')) (fun vk _ => tl - (intOf vk).toNat)
          case atStart => exact ⟨0, [], _, rfl, by omega, LX, HX0, HO0, HC0⟩
          case round =>
            clear HX0 HO0 HC0 LX a1' dc'
            obtain ⟨k, T', q7, rfl, hk, hlx, HB7, HO7, HC7⟩ := hrel
            have b1 := cell_later a1 hlx
            have b2 := cell_later dc hlx
            by_cases h10 : k < tl
            · obtain ⟨⟨⟨iop, lock, cond, ⟨ak, ar, ay, an⟩, ⟨bk, br, bs, bn⟩, dest, lb⟩, L⟩, hx⟩ : ∃ x, T[k]? = some x := ⟨_, List.getElem?_eq_getElem (by omega)⟩
              have LD : Later w6 wr.drew := Later.drew hlx
              obtain ⟨ig, io, rfl, hok, ht, x0, x1, x2, x3, x4, x5, x6, x7, x8, x9, x10, x11, x12⟩ := (InsRow.kept HTR.out LD.kept).get hx
              dsimp only at ht x0 x1 x2 x3 x4 x5 x6 x7 x8 x9 x10 x11 x12
              have hLn := HT2.out _ (List.mem_of_getElem? hx)
              have hLs := HFT.out.labels _ (List.mem_of_getElem? hx)
              dsimp only at hLn hLs
              have hkl : T'.length = k := by rw [HC7.out.1]; exact (take_lens hx).1
              have hrow7 := HO7.out.row
              rw [hkl] at hrow7
              obtain ⟨p7, c7, rfl⟩ := owns_slice hrow7
              have cI := copyIns_any ⟨iop, lock, cond, ⟨ak, ar, ay, an⟩, ⟨bk, br, bs, bn⟩, dest, lb⟩ L wr.drew ht hLn
              unfold Ins.val Ins.cells at cI
              dsimp only at cI
              have HOD : Hid (wr.drew.ownsRow (w6.heap.size + 1) 39 13 (.slice p7 k c7) k (flatC insC T')) := hrow7
              have HBD : Hid (wr.drew.heap[w6.heap.size]? = some (.cells #[.slice p7 k c7] 34)) := HB7.out
              have HOW : Hid (OwnThr wr.drew (w6.heap.size + 1) (.slice p7 k c7) T') := HO7.out.later (Later.drew (Later.refl wr))
              obtain ⟨c0, -⟩ := box1_facts HBD.out
              have b1' : wr.drew.cell? ⟨H, 1, none⟩ = _ := b1
              have b2' : wr.drew.cell? ⟨pg, po + j, none⟩ = _ := b2
              have HOK : Hid (Ins.Ok ⟨iop, lock, cond, ⟨ak, ar, ay, an⟩, ⟨bk, br, bs, bn⟩, dest, lb⟩) := hok
              have HLS : Hid (∀ t ∈ L, t.size ≤ 1000) := hLs
              have HXK : Hid (T[k]? = some (⟨iop, lock, cond, ⟨ak, ar, ay, an⟩, ⟨bk, br, bs, bn⟩, dest, lb⟩, L)) := hx
              have hszd := LD.size
              clear hrow7 HO7 HB7 hx hok hLs ht
              go_upto_region 15 with (fail)
              go_region_law (first | (refine step_append_own rfl (.tmp 50) (.tmp 61) 32 rfl (w6.heap.size + 1) 39 i0 (.agg #[.int .i64 0, .bool false, .int .i64 0, .int .i64 0, .int .i64 0, .int .i64 0, .int .i64 0, .int .i64 0, .int .i64 0, .int .i64 0, .int .i64 0, .string ⟨#[]⟩, .slice none 0 0]) 13 128 Tryd.underlying32 hi0 hz0 hz1 hz2 rfl (by decide) (.slice p7 k c7) k (flatC insC T') (by simp [Act.eval, Act.put]) ((ownsC_later HOD.out hl1).alloc _) ⟨w1.heap.size, 0, none⟩ 1 1 [.int .i64 iop, .bool lock, .int .i64 cond, .int .i64 ak, .int .i64 ar, .int .i64 ay, .int .i64 an, .int .i64 bk, .int .i64 br, .int .i64 bs, .int .i64 bn, .string dest, .slice p9 L.length q9] (by simp [Act.eval, Act.put]) rfl (news_at2 _ _ _ rfl) hXone (by unfold maxLen; omega) (by omega) (by have := hl1.size; have := lt_block HBD.out; simp at *; omega) ?_; intro v3 w3 hown3 hgrow3; obtain ⟨p3, q3, rfl⟩ := owns_slice hown3; have X3 := after_more (LD.trans hl1) (Nat.le_succ _) (Nat.lt_succ_self _) (ownsC_later HOD.out hl1) (heap_later hl1 HBD.out) hgrow3 hown3; have Y3 : Hid (OwnThr w3 (w6.heap.size + 1) (.slice p3 (k + 1) q3) (T' ++ [(withLabels ⟨iop, lock, cond, ⟨ak, ar, ay, an⟩, ⟨bk, br, bs, bn⟩, dest, lb⟩ (.slice p9 L.length q9), L)])) := OwnThr.snocI (HOW.out.later hl1) (x := withLabels ⟨iop, lock, cond, ⟨ak, ar, ay, an⟩, ⟨bk, br, bs, bn⟩, dest, lb⟩ (.slice p9 L.length q9)) ⟨HOK.out.op, HOK.out.cond, HOK.out.a, HOK.out.b, HOK.out.dest⟩ HTX.out HLS.out hkl hgrow3 hown3; clear hown3 hgrow3; obtain ⟨c3, f3⟩ := box1_facts X3.out.2.2) | (go_simp; go_at_call 17; apply Calls.mono; (focus (with_reducible (exact cI))); rintro e w1 ⟨lv, rfl, hot, hl1⟩; obtain ⟨p9, q9, rfl⟩ := owns_slice hot; have HTX : Hid (OwnTexts w1 (w6.heap.size + 1) (.slice p9 L.length q9) L) := owns_base hot (Nat.le_trans (Nat.succ_le_succ hszd) (Nat.le_succ _)); have hXone : ∀ u ∈ ([.int .i64 iop, .bool lock, .int .i64 cond, .int .i64 ak, .int .i64 ar, .int .i64 ay, .int .i64 an, .int .i64 bk, .int .i64 br, .int .i64 bs, .int .i64 bn, .string dest, .slice p9 L.length q9] : List Value), u.oneCell' = true := (fun u hu => (by simp at hu; rcases hu with rfl | rfl | rfl | rfl | rfl | rfl | rfl | rfl | rfl | rfl | rfl | rfl | rfl <;> rfl)); have e0 := cell_later c0 hl1; have e1 := cell_later e0 (Later.alloc (Later.refl w1) (.cells #[.int .i64 iop, .bool lock, .int .i64 cond, .int .i64 ak, .int .i64 ar, .int .i64 ay, .int .i64 an, .int .i64 bk, .int .i64 br, .int .i64 bs, .int .i64 bn, .string dest, .slice p9 L.length q9] 39))))
              all_goals
                go_wp2
                go_roundw
                case rel => exact ⟨k + 1, _, _, by go_num, by omega, Later.setCell X3.out.2.1 (Nat.le_refl _) 0 _, setCell_block X3.out.2.2 0 _, Y3.out.set_other X3.out.2.2 (fun cs fz e0 => by cases e0) (fun cs fz e0 => by cases e0) 0 _, copyT_snoc HC7.out HXK.out⟩
                case measure => simp [intOf] <;> omega
            · have hkt : tl = k := by omega
              subst hkt
              have hC7 := HC7.out
              rw [List.take_of_length_le (by omega)] at hC7
              have hO7 := HO7.out.mono (N' := H + 3) (Nat.le_trans HG.out (Nat.le_succ _))
              obtain ⟨p7, c7, rfl⟩ := owns_slice hO7.row
              obtain ⟨d0, -⟩ := box1_facts HB7.out
              have HQ7 := heap_later hlx HQ.out
              obtain ⟨e0, e1, -⟩ := box2_facts HQ7
              have HP7 := HPr.out.later hlx
              have HS7 := HSr.out.later hlx
              have hr7 := HP7.row
              rw [(take_lens HX.out).1] at hr7
              have hG7 : H + 3 ≤ wr.heap.size := Nat.le_trans HG.out hlx.size
              have hjm2 : (j : Int) < (m : Int) := by omega
              go_wp2_with (at_builtin; refine wpList_append_own _ rfl _ _ 23 rfl (H + 3) 34 k0 (.agg #[.slice none 0 0]) 1 24 Tryd.underlying23 hk0 kz0 kz1 kz2 rfl (by decide) (.slice qp2 j qc2) j (flatC oneV vs) rfl (hr7.alloc _) ⟨wr.heap.size, 0, none⟩ 1 1 [.slice p7 T'.length c7] rfl rfl (news_at _ _ _) (fun u hu => by simp at hu; subst hu; rfl) (by unfold maxLen; omega) (by omega) (Nat.le_trans hG7 (Later.alloc (Later.refl wr) _).size) ?_; intro v8 w8 ho8 hg8 hnil8; obtain ⟨p8, q8, rfl⟩ := owns_slice ho8; have H8 := HP7.snoc HX.out hO7 hC7 hg8 ho8; have LA := Later.alloc (Later.refl wr) (.cells #[.slice p7 T'.length c7] 34); have S8 := (HS7.later LA).grown (ownsC_later hr7 LA) (by decide) (by decide) hg8; have HB8 := other_kept (ownsC_later hr7 LA) hg8 (heap_later (hlx.trans LA) HB.out) (fun cs fz e0 => by cases e0); have HC8 := other_kept (ownsC_later hr7 LA) hg8 (heap_later (hlx.trans LA) HC.out) (fun cs fz e0 => by cases e0); have HQ8 := other_kept (ownsC_later hr7 LA) hg8 (heap_later LA HQ7) (fun cs fz e0 => by cases e0); have lw8 : Later w w8 := Below.grown (hlw.trans (hlx.trans LA)) hg8 (hlw.trans (hlx.trans LA)).size (fun j hj => by have := ((ownsC_later hr7 LA).lt j hj).1; omega); have hs8 := hg8.size; have hsA := LA.size; obtain ⟨e4, e5, e6, e7⟩ := box2_facts HQ8)
              go_roundw
              case rel => exact ⟨j + 1, _, _, by go_num, by omega, Later.setCell lw8 (by omega) 1 _, set_kept HB8 (by omega), set_kept HC8 (by omega), setCell_block HQ8 1 _, (by show H + 3 ≤ (w8.heap.modify _ _).size; rw [Array.size_modify]; omega), S8.off HQ8 (fun cs fz e0 => by cases e0) (fun cs fz e0 => by cases e0) 1 _, H8.off HQ8 (fun cs fz e0 => by cases e0) (fun cs fz e0 => by cases e0) (fun cs fz e0 => by cases e0) 1 _⟩
              case measure => simp [intOf] <;> omega
        · have hjm : m = j := by omega
          subst hjm
          have hHP := HPr.out
          rw [List.take_of_length_le (by omega)] at hHP
          have hrow := hHP.row
          rw [hm] at hrow
          obtain ⟨tp, tc, rfl⟩ := owns_slice hrow
          obtain ⟨b0, b1, -⟩ := box2_facts HQ.out
          obtain ⟨c0, c1, c2, c3⟩ := box2_facts HC.out
          go_wp2
          obtain ⟨r0, r1, -⟩ := box2_facts (setCell_block (setCell_block HC.out 0 (.slice qp n qc)) 1 (.slice tp m tc))
          refine bodyPost_ret (by simp [results, Tryd.results7, go_sem, r0, r1]; try rfl) rfl ?_
          have hB1 : w.heap.size ≤ H + 1 := by omega
          rw [hH]
          exact ⟨_, _, rfl, ⟨⟨S', ((HSr.out.off HC.out (fun cs fz e0 => by cases e0) (fun cs fz e0 => by cases e0) 0 _).off (setCell_block HC.out 0 _) (fun cs fz e0 => by cases e0) (fun cs fz e0 => by cases e0) 1 _)⟩, w, vs, by rw [hm]; exact ((hHP.off HC.out (fun cs fz e0 => by cases e0) (fun cs fz e0 => by cases e0) (fun cs fz e0 => by cases e0) 0 _).off (setCell_block HC.out 0 _) (fun cs fz e0 => by cases e0) (fun cs fz e0 => by cases e0) (fun cs fz e0 => by cases e0) 1 _)⟩, Later.setCell (Later.setCell hlw hB1 _ _) hB1 _ _⟩

end Go.Proofs.YtegogmbcjjjjjaaDoor
