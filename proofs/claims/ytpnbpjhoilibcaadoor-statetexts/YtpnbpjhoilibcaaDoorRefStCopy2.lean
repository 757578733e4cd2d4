/-
  A state's copy, by the document: rows of the call's own; no two buffers have one block; nothing that was in memory turns. Conditions: the state lies in memory, no list of it is longer than a million.
-/
import Derived.Test.YtpnbpjhoilibcaaDoorStateLoose2
import Derived.Test.YtpnbpjhoilibcaaDoorLaterOff
import Derived.Deep.RegionHeld3
import Derived.Deep.RegionLaw
namespace Go.Proofs.YtpnbpjhoilibcaaDoor
open Go.RowKit
set_option linter.unusedVariables false
set_option linter.unusedSimpArgs false

set_option maxRecDepth 1000000 in
set_option maxHeartbeats 4000000 in
theorem refStCopy2_any (w : World) (m t b : Value) (x : MSt) (hx : MsIn w m t b x) (h1 : x.mem.length ≤ 1000000) (h2 : x.thr.length ≤ 1000000) (h3 : x.bufs.length ≤ 1000000) (h4 : ∀ l ∈ x.bufs, l.length ≤ 1000000) :
    Calls Tryd.prog 16 #[.agg #[m, t, b, .int .i64 x.lock]] w fun e w' => ∃ m' t' b' H, e = .returned (.agg #[m', t', b', .int .i64 x.lock]) ∧ MsOwn w.heap.size w'.heap.size w' m' t' b' x H ∧ Apart H ∧ Later w w' := by
  obtain ⟨i1, hi1, hz1, hy1, hb1⟩ := info_parts infoCInt
  obtain ⟨i2, hi2, hz2, hy2, hb2⟩ := info_parts infoCTst
  obtain ⟨i3, hi3, hz3, hy3, hb3⟩ := info_parts infoCEnt
  obtain ⟨i4, hi4, hz4, hy4, hb4⟩ := info_parts infoCBuf
  have HOK : Hid x.Ok := hx.ok
  have HX : Hid (BufRow w b x.bufs) := hx.bufs
  have H4 : Hid (∀ l ∈ x.bufs, l.length ≤ 1000000) := h4
  have sM := mem_src hx.mem
  have sT := ts_src hx.thr
  obtain ⟨mp, mc, rfl, -, -⟩ := RowIn.slice hx.mem
  obtain ⟨tp, tc, rfl, -, -⟩ := RowIn.slice hx.thr
  obtain ⟨bp, bc, rfl, b1, b2⟩ := RowIn.slice hx.bufs
  unfold maxLen at b2
  clear hx h4
  obtain ⟨n1, hn1⟩ : ∃ n, x.mem.length = n := ⟨_, rfl⟩
  obtain ⟨n2, hn2⟩ : ∃ n, x.thr.length = n := ⟨_, rfl⟩
  obtain ⟨n3, hn3⟩ : ∃ n, x.bufs.length = n := ⟨_, rfl⟩
  rw [hn1] at h1 sM ⊢
  rw [hn2] at h2 sT ⊢
  rw [hn3] at h3 HX b1 ⊢
  have HN1 : Hid (x.mem.length = n1) := hn1
  have HN2 : Hid (x.thr.length = n2) := hn2
  have HN3 : Hid (x.bufs.length = n3) := hn3
  clear hn1 hn2 hn3
  have L0 := Later.alloc (Later.alloc (Later.refl w) (.cells #[.slice mp n1 mc, .slice tp n2 tc, .slice bp n3 bc, .int .i64 x.lock] 26)) (.cells #[.slice none 0 0, .slice none 0 0, .slice none 0 0, .int .i64 0] 26)
  obtain ⟨HB, HR⟩ := two_new2 w (.cells #[.slice mp n1 mc, .slice tp n2 tc, .slice bp n3 bc, .int .i64 x.lock] 26) (.cells #[.slice none 0 0, .slice none 0 0, .slice none 0 0, .int .i64 0] 26)
  go_enter Tryd.func16, Tryd.ntmps16
  go_upto_region 1 with (fail)
  generalize ((w.alloc (.cells #[.slice mp n1 mc, .slice tp n2 tc, .slice bp n3 bc, .int .i64 x.lock] 26)).alloc (.cells #[.slice none 0 0, .slice none 0 0, .slice none 0 0, .int .i64 0] 26)) = W at *
  obtain ⟨a0, a1, a2, a3, -⟩ := box4_facts HB
  go_upto_region 2 with (fail)
  have hC := at_new W (.cells #[.slice none 0 0, .slice none 0 0, .slice none 0 0, .int .i64 x.lock] 26)
  have LC := Later.alloc (Later.refl W) (.cells #[.slice none 0 0, .slice none 0 0, .slice none 0 0, .int .i64 x.lock] 26)
  generalize W.alloc (.cells #[.slice none 0 0, .slice none 0 0, .slice none 0 0, .int .i64 x.lock] 26) = W1 at *
  obtain ⟨r0, r1, r2, r3, f0, f1, f2, f3⟩ := box4_facts hC
  have e0 := cell_later a0 LC
  have e1 := cell_later a1 LC
  go_upto_region 3 with (at_builtin; refine wpList_append_src rfl _ _ 22 rfl 2 i1 (.int .i64 0) 1 8 Tryd.underlying22 hi1 hz1 hy1 hb1 rfl (by decide) rfl (.slice mp n1 mc) n1 (intsC x.mem) rfl (sM.later (L0.trans LC)) h1 (by omega) ?_; intro p1 q1 w1 ho1 hl1; have g0 := cell_later r0 hl1; have g1 : w1.frozen? ⟨W.heap.size, 0, none⟩ = false := (by simp [World.frozen?, heap_later hl1 hC]))
  have G0 : W.heap.size ≤ W.heap.size := Nat.le_refl _
  have hC1 := heap_later hl1 hC
  have hC2 := setCell_block hC1 0 (.slice p1 n1 q1)
  have L2 : Later W (w1.setCell ⟨W.heap.size, 0, none⟩ (.slice p1 n1 q1)) := Later.setCell (LC.trans hl1) G0 0 _
  have o1 := owns_set_other (owns_base ho1 LC.size) hC1 (fun cs fz e0 => by cases e0) 0 (.slice p1 n1 q1)
  clear hC hC1 r0 r1 r2 r3 f0 f1 f2 f3 e0 e1 g0 g1 ho1 sM
  generalize w1.setCell ⟨W.heap.size, 0, none⟩ (.slice p1 n1 q1) = W2 at *
  simp at hC2
  obtain ⟨r0, r1, r2, r3, f0, f1, f2, f3⟩ := box4_facts hC2
  have e1 := cell_later a1 L2
  go_upto_region 4 with (at_builtin; refine wpList_append_src rfl _ _ 23 rfl 38 i2 (.agg #[.int .i64 0, .int .i64 0, .int .i64 0, .int .i64 0, .int .i64 0, .int .i64 0, .int .i64 0, .int .i64 0, .bool false, .bool false, .bool false, .bool false, .int .i64 0, .int .i64 0, .int .i64 0, .int .i64 0]) 16 104 Tryd.underlying23 hi2 hz2 hy2 hb2 rfl (by decide) rfl (.slice tp n2 tc) n2 (flatC tsC x.thr) rfl (sT.later (L0.trans L2)) h2 (by omega) ?_; intro p2 q2 w2 ho2 hl2; have g0 := cell_later r1 hl2; have g1 : w2.frozen? ⟨W.heap.size, 1, none⟩ = false := (by simp [World.frozen?, heap_later hl2 hC2]))
  have hC3 := heap_later hl2 hC2
  have hC4 := setCell_block hC3 1 (.slice p2 n2 q2)
  have L3 : Later W (w2.setCell ⟨W.heap.size, 1, none⟩ (.slice p2 n2 q2)) := Later.setCell (L2.trans hl2) G0 1 _
  have o3 := owns_set_other (ownsC_later o1 hl2) hC3 (fun cs fz e0 => by cases e0) 1 (.slice p2 n2 q2)
  have o4 := owns_set_other (owns_base ho2 L2.size) hC3 (fun cs fz e0 => by cases e0) 1 (.slice p2 n2 q2)
  clear hC2 hC3 r0 r1 r2 r3 f0 f1 f2 f3 e1 g0 g1 ho2 sT o1 L2
  generalize w2.setCell ⟨W.heap.size, 1, none⟩ (.slice p2 n2 q2) = W3 at *
  simp at hC4
  have HA0 : Hid (CopyAt W W3 W.heap.size (.slice p1 n1 q1) (.slice p2 n2 q2) (.slice none 0 0) x n1 n2 0 []) := Lib.hid ⟨L3, hC4, o3, o4, World.ownsRow_nil _ _ _ _, rfl, fun j u l hu _ => by simp at hu⟩
  clear hC4 o3 o4
  go_wp2
  clear L3
  go_loopw [4] (fun vi wr => ∃ (i : Nat) (vp : Option Addr) (vc : Nat) (H : List Value), vi = .int .i64 (i : Nat) ∧ i ≤ n3 ∧ Hid (CopyAt W wr W.heap.size (.slice p1 n1 q1) (.slice p2 n2 q2) (.slice vp i vc) x n1 n2 i H) ∧ Hid (Apart H)) (fun vi _ => n3 - (intOf vi).toNat)
  case atStart => exact ⟨0, none, 0, [], rfl, by omega, HA0, Lib.hid Apart.nil⟩
  case round =>
    clear HA0
    obtain ⟨i, vp, vc, H, rfl, hi, HA, HAP⟩ := hrel
    have HLOW := Lib.hid (HA.out.low (by rw [HN3.out]; exact hi))
    have L : Later W wr := HA.out.later
    have e2 := cell_later a2 L
    have c2 := (box4_facts HA.out.box).2.2.1
    by_cases h8 : i < n3
    · obtain ⟨l, hx⟩ : ∃ l, x.bufs[i]? = some l := ⟨_, List.getElem?_eq_getElem (by rw [HN3.out]; exact h8)⟩
      obtain ⟨g, o, v, rfl, hv, -, y0⟩ := HX.out.get hx
      have sE := ent_src hv
      obtain ⟨up, uc, rfl, -, -⟩ := RowIn.slice hv
      have hl4 := H4.out l (List.mem_of_getElem? hx)
      have HXI : Hid (x.bufs[i]? = some l) := hx
      have y0w := y0
      have y1 := cell_later y0 (L0.trans L)
      have cap := owns_cap HA.out.bufs
      unfold maxLen at cap
      clear hv hx y0
      go_upto_region 7 with (fail)
      have LD : Later wr wr.drew := Later.drew (Later.refl wr)
      have HD : Hid (CopyAt W wr.drew W.heap.size (.slice p1 n1 q1) (.slice p2 n2 q2) (.slice vp i vc) x n1 n2 i H) := Lib.hid (HA.out.next LD)
      have LW : Later wr wr.drew := LD
      refine wp_region_chain (fun w' => w'.cell? ⟨W.heap.size, 2, none⟩ = some (.slice vp i vc) ∧ w'.cell? ⟨w.heap.size, 2, none⟩ = some (.slice (some ⟨g, o, none⟩) n3 bc) ∧ w'.cell? ⟨g, o + i, none⟩ = some (.slice up l.length uc)) 11 rfl rfl (by kernel_rfl) (by kernel_rfl) rfl (by kernel_rfl) (by kernel_rfl) (by kernel_rfl) (fun hHeld => ?_) ⟨cell_later c2 LD, cell_later e2 LD, cell_later y1 LD⟩
      simp only [List.take_succ_cons, List.take_zero]
      clear HA
      refine wpAnyH_take (i := 0) (v := ?_) rfl (by kernel_rfl) (by kernel_rfl) (by kernel_rfl) (fun _ _ _ h => h) (Or.inl ⟨by rfl, ?_⟩) (by assumption) ?_
      rotate_left
      · intro w hSw
        (try dsimp only at hSw)
        obtain ⟨hSa, hSb, hSc⟩ := hSw
        simp only [List.getElem_toArray, List.getElem_cons_zero, List.getElem_cons_succ]
        go_simp
        all_goals with_reducible rfl
      simp only [List.getElem_toArray, List.getElem_cons_zero, List.getElem_cons_succ, Act.put, List.setIfInBounds_toArray, List.set_cons_zero, List.set_cons_succ]
      refine wpAnyH_take (i := 1) (v := ?_) rfl (by kernel_rfl) (by kernel_rfl) (by kernel_rfl) (fun _ _ _ h => h) (Or.inl ⟨by rfl, ?_⟩) (by assumption) ?_
      rotate_left
      · intro w hSw
        (try dsimp only at hSw)
        obtain ⟨hSa, hSb, hSc⟩ := hSw
        simp only [List.getElem_toArray, List.getElem_cons_zero, List.getElem_cons_succ]
        go_simp
        all_goals with_reducible rfl
      simp only [List.getElem_toArray, List.getElem_cons_zero, List.getElem_cons_succ, Act.put, List.setIfInBounds_toArray, List.set_cons_zero, List.set_cons_succ]
      refine wpAnyH_take (i := 2) (v := ?_) rfl (by kernel_rfl) (by kernel_rfl) (by kernel_rfl) (fun _ _ _ h => h) (Or.inl ⟨by rfl, ?_⟩) (by assumption) ?_
      rotate_left
      · intro w hSw
        (try dsimp only at hSw)
        obtain ⟨hSa, hSb, hSc⟩ := hSw
        simp only [List.getElem_toArray, List.getElem_cons_zero, List.getElem_cons_succ]
        go_simp
        all_goals with_reducible rfl
      simp only [List.getElem_toArray, List.getElem_cons_zero, List.getElem_cons_succ, Act.put, List.setIfInBounds_toArray, List.set_cons_zero, List.set_cons_succ]
      refine wpAnyH_take (i := 3) (v := ?_) rfl (by kernel_rfl) (by kernel_rfl) (by kernel_rfl) (fun _ _ _ h => h) (Or.inl ⟨by rfl, ?_⟩) (by assumption) ?_
      rotate_left
      · intro w hSw
        (try dsimp only at hSw)
        obtain ⟨hSa, hSb, hSc⟩ := hSw
        simp only [List.getElem_toArray, List.getElem_cons_zero, List.getElem_cons_succ]
        go_simp
        all_goals with_reducible rfl
      simp only [List.getElem_toArray, List.getElem_cons_zero, List.getElem_cons_succ, Act.put, List.setIfInBounds_toArray, List.set_cons_zero, List.set_cons_succ]
      refine wpAnyH_take (i := 4) (v := ?_) rfl (by kernel_rfl) (by kernel_rfl) (by kernel_rfl) (fun _ _ _ h => h) (Or.inl ⟨by rfl, ?_⟩) (by assumption) ?_
      rotate_left
      · intro w hSw
        (try dsimp only at hSw)
        obtain ⟨hSa, hSb, hSc⟩ := hSw
        simp only [List.getElem_toArray, List.getElem_cons_zero, List.getElem_cons_succ]
        go_simp
        all_goals with_reducible rfl
      simp only [List.getElem_toArray, List.getElem_cons_zero, List.getElem_cons_succ, Act.put, List.setIfInBounds_toArray, List.set_cons_zero, List.set_cons_succ]
      refine wpAnyH_take (i := 5) (v := ?_) rfl (by kernel_rfl) (by kernel_rfl) (by kernel_rfl) (fun _ _ _ h => h) (Or.inl ⟨by rfl, ?_⟩) (by assumption) ?_
      rotate_left
      · intro w hSw
        (try dsimp only at hSw)
        obtain ⟨hSa, hSb, hSc⟩ := hSw
        simp only [List.getElem_toArray, List.getElem_cons_zero, List.getElem_cons_succ]
        go_simp
        all_goals with_reducible rfl
      simp only [List.getElem_toArray, List.getElem_cons_zero, List.getElem_cons_succ, Act.put, List.setIfInBounds_toArray, List.set_cons_zero, List.set_cons_succ]
      refine wpAnyH_take (i := 6) (v := ?_) rfl (by kernel_rfl) (by kernel_rfl) (by kernel_rfl) (fun _ _ _ h => h) (Or.inl ⟨by rfl, ?_⟩) (by assumption) ?_
      rotate_left
      · intro w hSw
        (try dsimp only at hSw)
        obtain ⟨hSa, hSb, hSc⟩ := hSw
        simp only [List.getElem_toArray, List.getElem_cons_zero, List.getElem_cons_succ]
        go_simp
        all_goals with_reducible rfl
      simp only [List.getElem_toArray, List.getElem_cons_zero, List.getElem_cons_succ, Act.put, List.setIfInBounds_toArray, List.set_cons_zero, List.set_cons_succ]
      refine wpAnyH_ready (rs := [7]) (by kernel_rfl) (by simp) ?_
      refine AllReadyH.cons (i := 7) rfl (fun K hK => ?_) AllReadyH.nil
      rw [if_pos (by rfl)]
      refine wp_append_src rfl _ _ 39 rfl 41 i3 (.agg #[.int .i64 0, .int .i64 0]) 2 16 Tryd.underlying39 hi3 hz3 hy3 hb3 rfl (by decide) rfl (.slice up l.length uc) l.length (flatC entC l) rfl (sE.later ((L0.trans L).trans LD)) hl4 (by omega) ?_
      intro p9 q9 w9 ho9 hl9
      have HE : Hid (CopyAt W w9 W.heap.size (.slice p1 n1 q1) (.slice p2 n2 q2) (.slice vp i vc) x n1 n2 i H) := Lib.hid (HD.out.next hl9)
      have hoE := owns_base ho9 (L.trans LD).size
      have LX := LD.trans hl9
      have HNEW : Hid (∀ g, (Value.slice p9 l.length q9).ownBlock = some g → ∀ v ∈ H, v.ownBlock ≠ some g) := Lib.hid (fun g hg v hv e => by
        have h1 := (ho9.lt g hg).1
        have h2 := HLOW.out v hv g e
        have h3 := LD.size
        omega)
      refine hK.out _ _ ⟨cell_later c2 LX, cell_later e2 LX, cell_later y1 LX⟩ (fun hHeld => ?_)
      clear hK
      (try simp only [List.getElem_toArray, List.getElem_cons_zero, List.getElem_cons_succ, Act.put, List.setIfInBounds_toArray, List.set_cons_zero, List.set_cons_succ])
      refine wpAnyH_ready (rs := [8]) (by kernel_rfl) (by simp) ?_
      refine AllReadyH.cons (i := 8) rfl (fun K hK => ?_) AllReadyH.nil
      rw [if_pos (by rfl)]
      go_simp
      have lz := Later.alloc (Later.refl w9) (.cells #[.slice p9 l.length q9] 39)
      have zf := at_new w9 (.cells #[.slice p9 l.length q9] 39)
      have LY := LX.trans lz
      refine hK.out _ _ ⟨cell_later c2 LY, cell_later e2 LY, cell_later y1 LY⟩ (fun hHeld => ?_)
      clear hK
      (try simp only [List.getElem_toArray, List.getElem_cons_zero, List.getElem_cons_succ, Act.put, List.setIfInBounds_toArray, List.set_cons_zero, List.set_cons_succ])
      refine wpAnyH_ready (rs := [9]) (by kernel_rfl) (by simp) ?_
      refine AllReadyH.cons (i := 9) rfl (fun K hK => ?_) AllReadyH.nil
      rw [if_pos (by rfl)]
      refine wp_append_own _ (.tmp 24) (.tmp 31) 24 rfl W.heap.size 39 i4 (.slice none 0 0) 1 24 Tryd.underlying24 hi4 hz4 hy4 hb4 rfl (by decide) (.slice vp i vc) i H rfl (ownsC_later HE.out.bufs lz) ⟨w9.heap.size, 0, none⟩ 1 1 [.slice p9 l.length q9] rfl rfl (news_at2 _ _ _ rfl) (fun u hu => by simp at hu; subst hu; rfl) (by unfold maxLen; omega) (by omega) (by have := (L.trans LY).size; omega) ?_
      intro v3 w3 hown3 hgrow3 _
      obtain ⟨p3, q3, rfl⟩ := owns_slice hown3
      obtain ⟨k1, k2, k3⟩ := CopyAt.grow (HE.out.next lz) hgrow3 hown3 HXI.out (ownsC_later hoE lz)
      obtain ⟨d0, d1, d2, d3, d4, d5, d6, d7⟩ := box4_facts k2
      refine hK.out _ _ ⟨d2, cell_later a2 k1, cell_later y0w (L0.trans k1)⟩ (fun hHeld => ?_)
      clear hK
      (try simp only [List.getElem_toArray, List.getElem_cons_zero, List.getElem_cons_succ, Act.put, List.setIfInBounds_toArray, List.set_cons_zero, List.set_cons_succ])
      refine wpAnyH_take (i := 10) (v := ?_) rfl (by kernel_rfl) (by kernel_rfl) (by kernel_rfl) (fun _ _ _ h => h) (Or.inl ⟨by rfl, ?_⟩) (by assumption) ?_
      rotate_left
      · intro w hSw
        simp only [List.getElem_toArray, List.getElem_cons_zero, List.getElem_cons_succ]
        go_simp
        all_goals with_reducible rfl
      simp only [List.getElem_toArray, List.getElem_cons_zero, List.getElem_cons_succ, Act.put, List.setIfInBounds_toArray, List.set_cons_zero, List.set_cons_succ]
      refine wpAnyH_done (by kernel_rfl) ?_ _
      show Oper.wp _ _ _ _ _ _
      go_simp
      go_wp2
      go_roundw
      case rel => exact ⟨i + 1, _, _, _, by go_num, by omega, Lib.hid (k3 (Nat.le_refl _)), Lib.hid (HAP.out.snoc HNEW.out)⟩
      case measure => simp [intOf] <;> omega
    · obtain rfl : i = n3 := by omega
      have hR := heap_later L HR
      obtain ⟨z0, z1, z2, z3, z4, z5, z6, z7⟩ := box4_facts hR
      have s1 := setCell_block hR 0 (.slice p1 n1 q1)
      have s2 := setCell_block s1 1 (.slice p2 n2 q2)
      have s3 := setCell_block s2 2 (.slice vp i vc)
      have gR : w.heap.size ≤ w.heap.size + 1 := Nat.le_succ _
      have HS4 := Lib.hid (box4_stored hR (.slice p1 n1 q1) (.slice p2 n2 q2) (.slice vp i vc) (.int .i64 x.lock))
      have HLF := Lib.hid (Later.setCell (Later.setCell (Later.setCell (Later.setCell (L0.trans L) gR 0 (.slice p1 n1 q1)) gR 1 (.slice p2 n2 q2)) gR 2 (.slice vp i vc)) gR 3 (.int .i64 x.lock))
      have HLE : Hid (w.heap.size ≤ W.heap.size) := L0.size
      have off := fun (e : TypeId) (h : 26 ≠ e) (k : Nat) (v : Value) (n : Nat) (xs : List Value) (ho : wr.ownsRow W.heap.size e k v n xs) => owns_set_other (owns_set_other (owns_set_other (owns_set_other ho hR (fun cs fz e0 => h (by cases e0; rfl)) 0 (.slice p1 n1 q1)) s1 (fun cs fz e0 => h (by cases e0; rfl)) 1 (.slice p2 n2 q2)) s2 (fun cs fz e0 => h (by cases e0; rfl)) 2 (.slice vp i vc)) s3 (fun cs fz e0 => h (by cases e0; rfl)) 3 (.int .i64 x.lock)
      have HOFF := Lib.hid off
      obtain ⟨d0, d1, d2, d3, -⟩ := box4_facts HA.out.box
      clear s1 s2 s3 off
      go_wp2
      obtain ⟨r0, r1, r2, r3, -⟩ := box4_facts HS4.out
      refine bodyPost_ret (by simp [results, Tryd.results16, go_sem, r0, r1, r2, r3]; try rfl) rfl ?_
      refine ⟨_, _, _, H, rfl, ⟨?_, ?_, ?_, by rw [HA.out.len, HN3.out], fun k u l hu hl => ?_, HOK.out⟩, HAP.out, HLF.out⟩
      · rw [HN1.out]; exact (OwnIn.of (HOFF.out _ (by decide) _ _ _ _ HA.out.mem)).wide HLE.out (Nat.le_refl _)
      · rw [HN2.out]; exact (OwnIn.of (HOFF.out _ (by decide) _ _ _ _ HA.out.thr)).wide HLE.out (Nat.le_refl _)
      · rw [HN3.out]; exact (OwnIn.of (HOFF.out _ (by decide) _ _ _ _ HA.out.bufs)).wide HLE.out (Nat.le_refl _)
      · exact (OwnIn.of (HOFF.out _ (by decide) _ _ _ _ (HA.out.each k u l hu hl))).wide HLE.out (Nat.le_refl _)

end Go.Proofs.YtpnbpjhoilibcaaDoor
