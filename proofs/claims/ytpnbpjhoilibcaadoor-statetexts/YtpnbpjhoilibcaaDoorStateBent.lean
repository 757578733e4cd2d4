/-
  A state with one thing another one, by the statements of chapter 13: some state that is not great, in memory of the call's own. Nothing that was in memory turns. Conditions: the state lies in memory and is not great.
-/
import Derived.Test.YtpnbpjhoilibcaaDoorRefStCopy2
import Derived.Test.YtpnbpjhoilibcaaDoorStateSize
import Derived.Test.YtpnbpjhoilibcaaDoorPick
import Derived.Deep.CutRange
import Derived.Deep.RegionWith
namespace Go.Proofs.YtpnbpjhoilibcaaDoor
open Go.RowKit
set_option linter.unusedVariables false
set_option linter.unusedSimpArgs false

set_option maxRecDepth 1000000 in
set_option maxHeartbeats 16000000 in
theorem stBent_any (w : World) (m t b : Value) (s : MSt) (hs : MsIn w m t b s) (hg : greatMF s = false) (how at_ by_ : Int) (h1 : I64 how) (h2 : I64 at_) (h3 : I64 by_) :
    Calls Tryd.prog 15 #[.agg #[m, t, b, .int .i64 s.lock], .int .i64 how, .int .i64 at_, .int .i64 by_] w fun e w' => ∃ m' t' b' s', e = .returned (.agg #[m', t', b', .int .i64 s'.lock]) ∧ MsIn w' m' t' b' s' ∧ (msL s').length ≤ 20000 ∧ Later w w' := by
  obtain ⟨g1, g2, g3, g4⟩ := great_facts hg
  have cR := fun w' (hl : Later w w') => refStCopy2_any w' m t b s (hs.later hl) (by omega) (by omega) (by omega) (fun l hl => by have := g4 l hl; omega)
  have G4 : Hid (∀ l ∈ s.bufs, l.length ≤ 12) := g4
  obtain ⟨mp, mc, rfl, -, -⟩ := RowIn.slice hs.mem
  obtain ⟨tp, tc, rfl, -, -⟩ := RowIn.slice hs.thr
  obtain ⟨bp, bc, rfl, -, -⟩ := RowIn.slice hs.bufs
  clear hs hg g4
  have L0 := Later.alloc (Later.alloc (Later.refl w) (.cells #[.slice mp s.mem.length mc, .slice tp s.thr.length tc, .slice bp s.bufs.length bc, .int .i64 s.lock] 26)) (.cells #[.slice none 0 0, .slice none 0 0, .slice none 0 0, .int .i64 0] 26)
  obtain ⟨HB, HR⟩ := two_new2 w (.cells #[.slice mp s.mem.length mc, .slice tp s.thr.length tc, .slice bp s.bufs.length bc, .int .i64 s.lock] 26) (.cells #[.slice none 0 0, .slice none 0 0, .slice none 0 0, .int .i64 0] 26)
  go_enter Tryd.func15, Tryd.ntmps15
  go_upto_region 1 with (fail)
  generalize ((w.alloc (.cells #[.slice mp s.mem.length mc, .slice tp s.thr.length tc, .slice bp s.bufs.length bc, .int .i64 s.lock] 26)).alloc (.cells #[.slice none 0 0, .slice none 0 0, .slice none 0 0, .int .i64 0] 26)) = W at *
  obtain ⟨a0, a1, a2, a3, -⟩ := box4_facts HB
  go_upto_region 2 with (go_at_call 16; apply Calls.mono; (focus (with_reducible (exact cR _ L0))); rintro e w1 ⟨m1, t1, b1, H1, rfl, k1, k2, k3⟩; obtain ⟨p1, q1, rfl, -, -⟩ := RowIn.slice k1.isIn.mem; obtain ⟨p2, q2, rfl, -, -⟩ := RowIn.slice k1.isIn.thr; obtain ⟨p3, q3, rfl, -, -⟩ := RowIn.slice k1.isIn.bufs)
  have hD := at_new w1 (.cells #[.slice p1 s.mem.length q1, .slice p2 s.thr.length q2, .slice p3 s.bufs.length q3, .int .i64 s.lock] 26)
  have la := Later.alloc (Later.refl w1) (.cells #[.slice p1 s.mem.length q1, .slice p2 s.thr.length q2, .slice p3 s.bufs.length q3, .int .i64 s.lock] 26)
  have HL0 := Lib.hid (Loose.of (D := w1.heap.size) (k1.kept (KeptIn.later la (Nat.le_refl _))) (k3.trans la) hD (fun l hl => G4.out l hl) k2)
  have gD : W.heap.size ≤ w1.heap.size := k3.size
  have HR1 : Hid ((w1.alloc (.cells #[.slice p1 s.mem.length q1, .slice p2 s.thr.length q2, .slice p3 s.bufs.length q3, .int .i64 s.lock] 26)).heap[w.heap.size + 1]? = some (.cells #[.slice none 0 0, .slice none 0 0, .slice none 0 0, .int .i64 0] 26)) := Lib.hid (heap_later (k3.trans la) HR)
  have HWs : Hid (w.heap.size + 1 < W.heap.size) := Lib.hid (lt_block HR)
  clear k1 k2 k3 hD la cR a0 a1 a2 a3 G4 HB
  generalize hDD : w1.heap.size = D at *
  generalize w1.alloc (.cells #[.slice p1 s.mem.length q1, .slice p2 s.thr.length q2, .slice p3 s.bufs.length q3, .int .i64 s.lock] 26) = W2 at *
  clear hDD
  have cP := fun m' (hm : 0 < m' ∧ m' ≤ 10000000) w' => pick_any how m' h1 hm w'
  obtain ⟨b0, b1, b2, b3, f0, f1, f2, f3⟩ := box4_facts HL0.out.box
  go_upto_if 19 with (fail)
  go_cut [] from 19 to 71 (fun wc => Hid (Loose W wc W.heap.size D (.slice p1 s.mem.length q1) (.slice p2 s.thr.length q2) (.slice p3 s.bufs.length q3) s.mem.length s.thr.length s.bufs.length s.lock true))
  case first =>
    by_cases hT : 0 < s.thr.length
    case neg =>
      have n0 : ¬ (0 : Int) < s.thr.length := by omega
      go_wp2
      go_meet
      exact HL0
    case pos =>
      have cQ := fun w' => pick_any at_ (s.thr.length : Int) h2 (by omega) w'
      have hk0 : 0 ≤ pick at_ (s.thr.length : Int) := Int.emod_nonneg _ (by omega)
      have hk1 : pick at_ (s.thr.length : Int) < (s.thr.length : Int) := Int.emod_lt_of_pos _ (by omega)
      obtain ⟨kn, hkn⟩ : ∃ kn : Nat, pick at_ (s.thr.length : Int) = (kn : Int) := ⟨_, (Int.toNat_of_nonneg hk0).symm⟩
      rw [hkn] at cQ hk0 hk1
      clear hkn
      obtain ⟨g, x, cg, rfl, hgN, hgc, -, hxok, hrg⟩ := HL0.out.thrAt (i := kn) (by omega)
      have hgl := lt_block hgc
      have c10 := fun w' => cP 10 (by omega) w'
      go_upto_region 4 with (fail)
      go_cut [11] from 19 to 28 (fun v wc => ∃ E x cur, v = .pointer (some ⟨E, 0, none⟩) ∧ TS.Ok x ∧ W.heap.size ≤ E ∧ g ≠ E ∧ Hid (wc.heap[E]? = some (.cells cur 38)) ∧ Hid (wc.rangeAt E 0 (tsC x)) ∧ Hid (Loose W wc W.heap.size D (.slice p1 s.mem.length q1) (.slice (some ⟨g, 0, none⟩) s.thr.length q2) (.slice p3 s.bufs.length q3) s.mem.length s.thr.length s.bufs.length s.lock true))
      case first =>
        refine wp_region_chain (fun w' => w'.cell? ⟨D, 1, none⟩ = some (.slice (some ⟨g, 0, none⟩) s.thr.length q2) ∧ w'.rangeAt g (kn * 16) (tsC x)) 10 rfl rfl (by kernel_rfl) (by kernel_rfl) rfl (by kernel_rfl) (by kernel_rfl) (by kernel_rfl) (fun hHeld => ?_) ⟨b1, hrg⟩
        simp only [List.take_succ_cons, List.take_zero]
        refine wpAnyH_take (i := 0) (v := ?_) rfl (by kernel_rfl) (by kernel_rfl) (by kernel_rfl) (fun _ _ _ h => h) (Or.inl ⟨by rfl, ?_⟩) (by assumption) ?_
        rotate_left
        · intro w hSw
          (try dsimp only at hSw)
          obtain ⟨hSa, hSb⟩ := hSw
          simp only [List.getElem_toArray, List.getElem_cons_zero, List.getElem_cons_succ]
          go_simp
          all_goals with_reducible rfl
        simp only [List.getElem_toArray, List.getElem_cons_zero, List.getElem_cons_succ, Act.put, List.setIfInBounds_toArray, List.set_cons_zero, List.set_cons_succ]
        refine wpAnyH_take (i := 1) (v := ?_) rfl (by kernel_rfl) (by kernel_rfl) (by kernel_rfl) (fun _ _ _ h => h) (Or.inl ⟨by rfl, ?_⟩) (by assumption) ?_
        rotate_left
        · intro w hSw
          (try dsimp only at hSw)
          obtain ⟨hSa, hSb⟩ := hSw
          simp only [List.getElem_toArray, List.getElem_cons_zero, List.getElem_cons_succ]
          go_simp
          all_goals with_reducible rfl
        simp only [List.getElem_toArray, List.getElem_cons_zero, List.getElem_cons_succ, Act.put, List.setIfInBounds_toArray, List.set_cons_zero, List.set_cons_succ]
        refine wpAnyH_take (i := 2) (v := ?_) rfl (by kernel_rfl) (by kernel_rfl) (by kernel_rfl) (fun _ _ _ h => h) (Or.inl ⟨by rfl, ?_⟩) (by assumption) ?_
        rotate_left
        · intro w hSw
          (try dsimp only at hSw)
          obtain ⟨hSa, hSb⟩ := hSw
          simp only [List.getElem_toArray, List.getElem_cons_zero, List.getElem_cons_succ]
          go_simp
          all_goals with_reducible rfl
        simp only [List.getElem_toArray, List.getElem_cons_zero, List.getElem_cons_succ, Act.put, List.setIfInBounds_toArray, List.set_cons_zero, List.set_cons_succ]
        refine wpAnyH_take (i := 3) (v := ?_) rfl (by kernel_rfl) (by kernel_rfl) (by kernel_rfl) (fun _ _ _ h => h) (Or.inl ⟨by rfl, ?_⟩) (by assumption) ?_
        rotate_left
        · intro w hSw
          (try dsimp only at hSw)
          obtain ⟨hSa, hSb⟩ := hSw
          simp only [List.getElem_toArray, List.getElem_cons_zero, List.getElem_cons_succ]
          go_simp
          all_goals with_reducible rfl
        simp only [List.getElem_toArray, List.getElem_cons_zero, List.getElem_cons_succ, Act.put, List.setIfInBounds_toArray, List.set_cons_zero, List.set_cons_succ]
        refine wpAnyH_take (i := 4) (v := ?_) rfl (by kernel_rfl) (by kernel_rfl) (by kernel_rfl) (fun _ _ _ h => h) (Or.inl ⟨by rfl, ?_⟩) (by assumption) ?_
        rotate_left
        · intro w hSw
          (try dsimp only at hSw)
          obtain ⟨hSa, hSb⟩ := hSw
          simp only [List.getElem_toArray, List.getElem_cons_zero, List.getElem_cons_succ]
          go_simp
          all_goals with_reducible rfl
        simp only [List.getElem_toArray, List.getElem_cons_zero, List.getElem_cons_succ, Act.put, List.setIfInBounds_toArray, List.set_cons_zero, List.set_cons_succ]
        refine wpAnyH_take (i := 5) (v := ?_) rfl (by kernel_rfl) (by kernel_rfl) (by kernel_rfl) (fun _ _ _ h => h) (Or.inl ⟨by rfl, ?_⟩) (by assumption) ?_
        rotate_left
        · intro w hSw
          (try dsimp only at hSw)
          obtain ⟨hSa, hSb⟩ := hSw
          simp only [List.getElem_toArray, List.getElem_cons_zero, List.getElem_cons_succ]
          go_simp
          all_goals with_reducible rfl
        simp only [List.getElem_toArray, List.getElem_cons_zero, List.getElem_cons_succ, Act.put, List.setIfInBounds_toArray, List.set_cons_zero, List.set_cons_succ]
        refine wpAnyH_ready (rs := [6, 9]) (by kernel_rfl) (by simp) ?_
        refine AllReadyH.cons (i := 6) rfl (fun K hK => ?_) (AllReadyH.cons (i := 9) rfl (fun K hK => ?_) AllReadyH.nil)
        · rw [if_pos (by rfl)]
          go_simp
          go_at_call 33
          apply Calls.mono
          (focus (with_reducible (exact cQ _)))
          rintro e wn ⟨rfl, hr⟩
          obtain rfl := hr.symm
          refine hK.out _ _ hHeld (fun hHeld => ?_)
          clear hK
          (try simp only [List.getElem_toArray, List.getElem_cons_zero, List.getElem_cons_succ, Act.put, List.setIfInBounds_toArray, List.set_cons_zero, List.set_cons_succ])
          refine wpAnyH_take (i := 7) (v := ?_) rfl (by kernel_rfl) (by kernel_rfl) (by kernel_rfl) (fun _ _ _ h => h) (Or.inl ⟨by rfl, ?_⟩) (by assumption) ?_
          rotate_left
          · intro w hSw
            (try dsimp only at hSw)
            obtain ⟨hSa, hSb⟩ := hSw
            simp only [List.getElem_toArray, List.getElem_cons_zero, List.getElem_cons_succ]
            go_simp
            all_goals with_reducible rfl
          simp only [List.getElem_toArray, List.getElem_cons_zero, List.getElem_cons_succ, Act.put, List.setIfInBounds_toArray, List.set_cons_zero, List.set_cons_succ]
          refine wpAnyH_take (i := 8) (v := .agg ([.int .i64 (x.r 0), .int .i64 (x.r 1), .int .i64 (x.r 2), .int .i64 (x.r 3), .int .i64 (x.r 4), .int .i64 (x.r 5), .int .i64 (x.r 6), .int .i64 (x.r 7), .bool x.z, .bool x.s, .bool x.c, .bool x.o, .int .i64 x.pc, .int .i64 x.phase, .int .i64 x.latch, .int .i64 x.status]).toArray) rfl (by kernel_rfl) (by kernel_rfl) (by kernel_rfl) (fun _ _ _ h => h) (yieldsIf_load_mid (by rfl) 38 _ (by rfl) g (kn * 16) rfl ([.int .i64 (x.r 0), .int .i64 (x.r 1), .int .i64 (x.r 2), .int .i64 (x.r 3), .int .i64 (x.r 4), .int .i64 (x.r 5), .int .i64 (x.r 6), .int .i64 (x.r 7), .bool x.z, .bool x.s, .bool x.c, .bool x.o, .int .i64 x.pc, .int .i64 x.phase, .int .i64 x.latch, .int .i64 x.status]) _ (fun w hw => hw.2) Tryd.underlying38 rfl (by kernel_rfl)) (by assumption) ?_
          simp only [List.getElem_toArray, List.getElem_cons_zero, List.getElem_cons_succ, Act.put, List.setIfInBounds_toArray, List.set_cons_zero, List.set_cons_succ]
          refine wpAnyH_ready (rs := [9]) (by kernel_rfl) (by simp) ?_
          refine AllReadyH.cons (i := 9) rfl (fun K hK => ?_) AllReadyH.nil
          rw [if_pos (by rfl)]
          go_simp
          have hE : (W2.alloc (.cells #[.int .i64 0, .int .i64 0, .int .i64 0, .int .i64 0, .int .i64 0, .int .i64 0, .int .i64 0, .int .i64 0, .bool false, .bool false, .bool false, .bool false, .int .i64 0, .int .i64 0, .int .i64 0, .int .i64 0] 38)).drew.heap[W2.heap.size]? = some (.cells #[.int .i64 0, .int .i64 0, .int .i64 0, .int .i64 0, .int .i64 0, .int .i64 0, .int .i64 0, .int .i64 0, .bool false, .bool false, .bool false, .bool false, .int .i64 0, .int .i64 0, .int .i64 0, .int .i64 0] 38) := at_new W2 (.cells #[.int .i64 0, .int .i64 0, .int .i64 0, .int .i64 0, .int .i64 0, .int .i64 0, .int .i64 0, .int .i64 0, .bool false, .bool false, .bool false, .bool false, .int .i64 0, .int .i64 0, .int .i64 0, .int .i64 0] 38)
          have la : Later W2 (W2.alloc (.cells #[.int .i64 0, .int .i64 0, .int .i64 0, .int .i64 0, .int .i64 0, .int .i64 0, .int .i64 0, .int .i64 0, .bool false, .bool false, .bool false, .bool false, .int .i64 0, .int .i64 0, .int .i64 0, .int .i64 0] 38)).drew := Later.drew (Later.alloc (Later.refl W2) _)
          have HLz := Lib.hid (HL0.out.next la)
          have gE := HL0.out.later.size
          have hSn : (W2.alloc (.cells #[.int .i64 0, .int .i64 0, .int .i64 0, .int .i64 0, .int .i64 0, .int .i64 0, .int .i64 0, .int .i64 0, .bool false, .bool false, .bool false, .bool false, .int .i64 0, .int .i64 0, .int .i64 0, .int .i64 0] 38)).drew.cell? ⟨D, 1, none⟩ = some (.slice (some ⟨g, 0, none⟩) s.thr.length q2) ∧ (W2.alloc (.cells #[.int .i64 0, .int .i64 0, .int .i64 0, .int .i64 0, .int .i64 0, .int .i64 0, .int .i64 0, .int .i64 0, .bool false, .bool false, .bool false, .bool false, .int .i64 0, .int .i64 0, .int .i64 0, .int .i64 0] 38)).drew.rangeAt g (kn * 16) (tsC x) := ⟨cell_later b1 la, fun j v hj => cell_later (hrg j v hj) la⟩
          generalize (W2.alloc (.cells #[.int .i64 0, .int .i64 0, .int .i64 0, .int .i64 0, .int .i64 0, .int .i64 0, .int .i64 0, .int .i64 0, .bool false, .bool false, .bool false, .bool false, .int .i64 0, .int .i64 0, .int .i64 0, .int .i64 0] 38)).drew = wz at *
          generalize hEE : W2.heap.size = E at *
          clear hEE la
          refine hK.out _ _ hSn (fun hHeld => ?_)
          clear hK
          (try simp only [List.getElem_toArray, List.getElem_cons_zero, List.getElem_cons_succ, Act.put, List.setIfInBounds_toArray, List.set_cons_zero, List.set_cons_succ])
          refine wpAnyH_done (by kernel_rfl) ?_ _
          show Oper.wp _ _ _ _ _ _
          have hth : wz.there E 0 16 := fun j hj => by
            constructor
            · simp only [World.cell?, hE, Nat.zero_add]
              match j, hj with
              | 0, _ => rfl
              | 1, _ => rfl
              | 2, _ => rfl
              | 3, _ => rfl
              | 4, _ => rfl
              | 5, _ => rfl
              | 6, _ => rfl
              | 7, _ => rfl
              | 8, _ => rfl
              | 9, _ => rfl
              | 10, _ => rfl
              | 11, _ => rfl
              | 12, _ => rfl
              | 13, _ => rfl
              | 14, _ => rfl
              | 15, _ => rfl
              | j + 16, h => omega
            · simp [World.frozen?, hE]
          refine wp_store_mid 38 (.tmp 11) (.tmp 28) rfl E 0 _ rfl rfl hth (by kernel_rfl) (by kernel_rfl) ?_
          have ho : InOne E wz (wz.setCells E 0 (tsC x)) := InOne.sets _ _ (InOne.refl _ _)
          obtain ⟨cur', hc1, hc2⟩ := ho.own _ _ _ hE
          have HF := Lib.hid (World.rangeAt_setCells_same wz E 0 (tsC x) hth)
          have HG2 := Lib.hid (Loose.offThr HLz.out gE (fun g' e => by cases e; omega) ho hE)
          go_wp2
          go_meet
          exact ⟨E, x, cur', rfl, hxok, gE, by omega, Lib.hid hc1, HF, HG2⟩
        · rw [if_pos (by rfl)]
          go_simp
          have hE : (W2.alloc (.cells #[.int .i64 0, .int .i64 0, .int .i64 0, .int .i64 0, .int .i64 0, .int .i64 0, .int .i64 0, .int .i64 0, .bool false, .bool false, .bool false, .bool false, .int .i64 0, .int .i64 0, .int .i64 0, .int .i64 0] 38)).drew.heap[W2.heap.size]? = some (.cells #[.int .i64 0, .int .i64 0, .int .i64 0, .int .i64 0, .int .i64 0, .int .i64 0, .int .i64 0, .int .i64 0, .bool false, .bool false, .bool false, .bool false, .int .i64 0, .int .i64 0, .int .i64 0, .int .i64 0] 38) := at_new W2 (.cells #[.int .i64 0, .int .i64 0, .int .i64 0, .int .i64 0, .int .i64 0, .int .i64 0, .int .i64 0, .int .i64 0, .bool false, .bool false, .bool false, .bool false, .int .i64 0, .int .i64 0, .int .i64 0, .int .i64 0] 38)
          have la : Later W2 (W2.alloc (.cells #[.int .i64 0, .int .i64 0, .int .i64 0, .int .i64 0, .int .i64 0, .int .i64 0, .int .i64 0, .int .i64 0, .bool false, .bool false, .bool false, .bool false, .int .i64 0, .int .i64 0, .int .i64 0, .int .i64 0] 38)).drew := Later.drew (Later.alloc (Later.refl W2) _)
          have HLz := Lib.hid (HL0.out.next la)
          have gE := HL0.out.later.size
          have hSn : (W2.alloc (.cells #[.int .i64 0, .int .i64 0, .int .i64 0, .int .i64 0, .int .i64 0, .int .i64 0, .int .i64 0, .int .i64 0, .bool false, .bool false, .bool false, .bool false, .int .i64 0, .int .i64 0, .int .i64 0, .int .i64 0] 38)).drew.cell? ⟨D, 1, none⟩ = some (.slice (some ⟨g, 0, none⟩) s.thr.length q2) ∧ (W2.alloc (.cells #[.int .i64 0, .int .i64 0, .int .i64 0, .int .i64 0, .int .i64 0, .int .i64 0, .int .i64 0, .int .i64 0, .bool false, .bool false, .bool false, .bool false, .int .i64 0, .int .i64 0, .int .i64 0, .int .i64 0] 38)).drew.rangeAt g (kn * 16) (tsC x) := ⟨cell_later b1 la, fun j v hj => cell_later (hrg j v hj) la⟩
          generalize (W2.alloc (.cells #[.int .i64 0, .int .i64 0, .int .i64 0, .int .i64 0, .int .i64 0, .int .i64 0, .int .i64 0, .int .i64 0, .bool false, .bool false, .bool false, .bool false, .int .i64 0, .int .i64 0, .int .i64 0, .int .i64 0] 38)).drew = wz at *
          generalize hEE : W2.heap.size = E at *
          clear hEE la
          refine hK.out _ _ hSn (fun hHeld => ?_)
          clear hK
          (try simp only [List.getElem_toArray, List.getElem_cons_zero, List.getElem_cons_succ, Act.put, List.setIfInBounds_toArray, List.set_cons_zero, List.set_cons_succ])
          refine wpAnyH_ready (rs := [6]) (by kernel_rfl) (by simp) ?_
          refine AllReadyH.cons (i := 6) rfl (fun K hK => ?_) AllReadyH.nil
          rw [if_pos (by rfl)]
          go_simp
          go_at_call 33
          apply Calls.mono
          (focus (with_reducible (exact cQ _)))
          rintro e wn ⟨rfl, hr⟩
          obtain rfl := hr.symm
          refine hK.out _ _ hHeld (fun hHeld => ?_)
          clear hK
          (try simp only [List.getElem_toArray, List.getElem_cons_zero, List.getElem_cons_succ, Act.put, List.setIfInBounds_toArray, List.set_cons_zero, List.set_cons_succ])
          refine wpAnyH_take (i := 7) (v := ?_) rfl (by kernel_rfl) (by kernel_rfl) (by kernel_rfl) (fun _ _ _ h => h) (Or.inl ⟨by rfl, ?_⟩) (by assumption) ?_
          rotate_left
          · intro w hSw
            (try dsimp only at hSw)
            obtain ⟨hSa, hSb⟩ := hSw
            simp only [List.getElem_toArray, List.getElem_cons_zero, List.getElem_cons_succ]
            go_simp
            all_goals with_reducible rfl
          simp only [List.getElem_toArray, List.getElem_cons_zero, List.getElem_cons_succ, Act.put, List.setIfInBounds_toArray, List.set_cons_zero, List.set_cons_succ]
          refine wpAnyH_take (i := 8) (v := .agg ([.int .i64 (x.r 0), .int .i64 (x.r 1), .int .i64 (x.r 2), .int .i64 (x.r 3), .int .i64 (x.r 4), .int .i64 (x.r 5), .int .i64 (x.r 6), .int .i64 (x.r 7), .bool x.z, .bool x.s, .bool x.c, .bool x.o, .int .i64 x.pc, .int .i64 x.phase, .int .i64 x.latch, .int .i64 x.status]).toArray) rfl (by kernel_rfl) (by kernel_rfl) (by kernel_rfl) (fun _ _ _ h => h) (yieldsIf_load_mid (by rfl) 38 _ (by rfl) g (kn * 16) rfl ([.int .i64 (x.r 0), .int .i64 (x.r 1), .int .i64 (x.r 2), .int .i64 (x.r 3), .int .i64 (x.r 4), .int .i64 (x.r 5), .int .i64 (x.r 6), .int .i64 (x.r 7), .bool x.z, .bool x.s, .bool x.c, .bool x.o, .int .i64 x.pc, .int .i64 x.phase, .int .i64 x.latch, .int .i64 x.status]) _ (fun w hw => hw.2) Tryd.underlying38 rfl (by kernel_rfl)) (by assumption) ?_
          simp only [List.getElem_toArray, List.getElem_cons_zero, List.getElem_cons_succ, Act.put, List.setIfInBounds_toArray, List.set_cons_zero, List.set_cons_succ]
          refine wpAnyH_done (by kernel_rfl) ?_ _
          show Oper.wp _ _ _ _ _ _
          have hth : wz.there E 0 16 := fun j hj => by
            constructor
            · simp only [World.cell?, hE, Nat.zero_add]
              match j, hj with
              | 0, _ => rfl
              | 1, _ => rfl
              | 2, _ => rfl
              | 3, _ => rfl
              | 4, _ => rfl
              | 5, _ => rfl
              | 6, _ => rfl
              | 7, _ => rfl
              | 8, _ => rfl
              | 9, _ => rfl
              | 10, _ => rfl
              | 11, _ => rfl
              | 12, _ => rfl
              | 13, _ => rfl
              | 14, _ => rfl
              | 15, _ => rfl
              | j + 16, h => omega
            · simp [World.frozen?, hE]
          refine wp_store_mid 38 (.tmp 11) (.tmp 28) rfl E 0 _ rfl rfl hth (by kernel_rfl) (by kernel_rfl) ?_
          have ho : InOne E wz (wz.setCells E 0 (tsC x)) := InOne.sets _ _ (InOne.refl _ _)
          obtain ⟨cur', hc1, hc2⟩ := ho.own _ _ _ hE
          have HF := Lib.hid (World.rangeAt_setCells_same wz E 0 (tsC x) hth)
          have HG2 := Lib.hid (Loose.offThr HLz.out gE (fun g' e => by cases e; omega) ho hE)
          go_wp2
          go_meet
          exact ⟨E, x, cur', rfl, hxok, gE, by omega, Lib.hid hc1, HF, HG2⟩
      case rest =>
        clear HL0 hgc hgl hrg hxok b0 b1 b2 b3 f0 f1 f2 f3
        obtain ⟨E, y, cE, rfl, yok, gE, hgE, HE, HRg, HL⟩ := hcut
        obtain ⟨b0, b1, b2, b3, f0, f1, f2, f3⟩ := box4_facts HL.out.box
        have hq0 : 0 ≤ pick how 10 := Int.emod_nonneg _ (by omega)
        have hq1 : pick how 10 < 10 := Int.emod_lt_of_pos _ (by omega)
        generalize pick how 10 = q at *
        have fz : ∀ j, wc.frozen? ⟨E, j, none⟩ = false := fun j => by simp [World.frozen?, HE.out]
        by_cases c0 : q = 0
        · subst c0
          have s0 := HRg.out 12 _ rfl
          simp only [Nat.zero_add] at s0
          have s1 := fz 12
          have ho : InOne E wc (wc.setCell ⟨E, 12, none⟩ (.int .i64 by_)) := (InOne.refl _ _).set _ _
          have HR2 : Hid ((wc.setCell ⟨E, 12, none⟩ (.int .i64 by_)).rangeAt E 0 (tsC ({ y with pc := by_ }))) := Lib.hid (by
            have h := rangeAt_set HE.out HRg.out (i := 12) (by rw [tsC_len]; omega) (.int .i64 by_)
            exact h)
          have hyok : TS.Ok ({ y with pc := by_ }) := ⟨yok.r, h3, yok.phase, yok.latch, yok.status⟩
          have HL2 := Lib.hid (Loose.offThr HL.out gE (fun g' e => by cases e; exact hgE) ho HE.out)
          obtain ⟨y3, hy3⟩ : ∃ y3, y3 = ({ y with pc := by_ }) := ⟨_, rfl⟩
          rw [← hy3] at HR2 hyok
          clear hy3
          go_upto_region 18 with (first | (go_at_call 33; apply Calls.mono; (focus (with_reducible (exact c10 _))); rintro e wn ⟨rfl, hr⟩; obtain rfl := hr.symm))
          obtain ⟨d0, d1, d2, d3, -⟩ := box4_facts HL2.out.box
          obtain ⟨g2, x2, cg2, hg2, hgN2, hgc2, hth2, -, -⟩ := HL2.out.thrAt (i := kn) (by omega)
          obtain rfl : g = g2 := by cases hg2; rfl
          clear b0 b1 b2 b3 f0 f1 f2 f3
          generalize wc.setCell ⟨E, 12, none⟩ (.int .i64 by_) = wd at *
          refine wp_region_chain (fun w' => w'.cell? ⟨D, 1, none⟩ = some (.slice (some ⟨g, 0, none⟩) s.thr.length q2) ∧ w'.rangeAt E 0 (tsC y3)) 9 rfl rfl (by kernel_rfl) (by kernel_rfl) rfl (by kernel_rfl) (by kernel_rfl) (by kernel_rfl) (fun hHeld => ?_) ⟨d1, HR2.out⟩
          simp only [List.take_succ_cons, List.take_zero]
          refine wpAnyH_take (i := 0) (v := ?_) rfl (by kernel_rfl) (by kernel_rfl) (by kernel_rfl) (fun _ _ _ h => h) (Or.inl ⟨by rfl, ?_⟩) (by assumption) ?_
          rotate_left
          · intro w hSw
            (try dsimp only at hSw)
            obtain ⟨hSa, hSb⟩ := hSw
            simp only [List.getElem_toArray, List.getElem_cons_zero, List.getElem_cons_succ]
            go_simp
            all_goals with_reducible rfl
          simp only [List.getElem_toArray, List.getElem_cons_zero, List.getElem_cons_succ, Act.put, List.setIfInBounds_toArray, List.set_cons_zero, List.set_cons_succ]
          refine wpAnyH_take (i := 1) (v := ?_) rfl (by kernel_rfl) (by kernel_rfl) (by kernel_rfl) (fun _ _ _ h => h) (Or.inl ⟨by rfl, ?_⟩) (by assumption) ?_
          rotate_left
          · intro w hSw
            (try dsimp only at hSw)
            obtain ⟨hSa, hSb⟩ := hSw
            simp only [List.getElem_toArray, List.getElem_cons_zero, List.getElem_cons_succ]
            go_simp
            all_goals with_reducible rfl
          simp only [List.getElem_toArray, List.getElem_cons_zero, List.getElem_cons_succ, Act.put, List.setIfInBounds_toArray, List.set_cons_zero, List.set_cons_succ]
          refine wpAnyH_take (i := 2) (v := ?_) rfl (by kernel_rfl) (by kernel_rfl) (by kernel_rfl) (fun _ _ _ h => h) (Or.inl ⟨by rfl, ?_⟩) (by assumption) ?_
          rotate_left
          · intro w hSw
            (try dsimp only at hSw)
            obtain ⟨hSa, hSb⟩ := hSw
            simp only [List.getElem_toArray, List.getElem_cons_zero, List.getElem_cons_succ]
            go_simp
            all_goals with_reducible rfl
          simp only [List.getElem_toArray, List.getElem_cons_zero, List.getElem_cons_succ, Act.put, List.setIfInBounds_toArray, List.set_cons_zero, List.set_cons_succ]
          refine wpAnyH_take (i := 3) (v := ?_) rfl (by kernel_rfl) (by kernel_rfl) (by kernel_rfl) (fun _ _ _ h => h) (Or.inl ⟨by rfl, ?_⟩) (by assumption) ?_
          rotate_left
          · intro w hSw
            (try dsimp only at hSw)
            obtain ⟨hSa, hSb⟩ := hSw
            simp only [List.getElem_toArray, List.getElem_cons_zero, List.getElem_cons_succ]
            go_simp
            all_goals with_reducible rfl
          simp only [List.getElem_toArray, List.getElem_cons_zero, List.getElem_cons_succ, Act.put, List.setIfInBounds_toArray, List.set_cons_zero, List.set_cons_succ]
          refine wpAnyH_take (i := 4) (v := ?_) rfl (by kernel_rfl) (by kernel_rfl) (by kernel_rfl) (fun _ _ _ h => h) (Or.inl ⟨by rfl, ?_⟩) (by assumption) ?_
          rotate_left
          · intro w hSw
            (try dsimp only at hSw)
            obtain ⟨hSa, hSb⟩ := hSw
            simp only [List.getElem_toArray, List.getElem_cons_zero, List.getElem_cons_succ]
            go_simp
            all_goals with_reducible rfl
          simp only [List.getElem_toArray, List.getElem_cons_zero, List.getElem_cons_succ, Act.put, List.setIfInBounds_toArray, List.set_cons_zero, List.set_cons_succ]
          refine wpAnyH_take (i := 5) (v := ?_) rfl (by kernel_rfl) (by kernel_rfl) (by kernel_rfl) (fun _ _ _ h => h) (Or.inl ⟨by rfl, ?_⟩) (by assumption) ?_
          rotate_left
          · intro w hSw
            (try dsimp only at hSw)
            obtain ⟨hSa, hSb⟩ := hSw
            simp only [List.getElem_toArray, List.getElem_cons_zero, List.getElem_cons_succ]
            go_simp
            all_goals with_reducible rfl
          simp only [List.getElem_toArray, List.getElem_cons_zero, List.getElem_cons_succ, Act.put, List.setIfInBounds_toArray, List.set_cons_zero, List.set_cons_succ]
          refine wpAnyH_take (i := 7) (v := .agg ([.int .i64 (y3.r 0), .int .i64 (y3.r 1), .int .i64 (y3.r 2), .int .i64 (y3.r 3), .int .i64 (y3.r 4), .int .i64 (y3.r 5), .int .i64 (y3.r 6), .int .i64 (y3.r 7), .bool y3.z, .bool y3.s, .bool y3.c, .bool y3.o, .int .i64 y3.pc, .int .i64 y3.phase, .int .i64 y3.latch, .int .i64 y3.status]).toArray) rfl (by kernel_rfl) (by kernel_rfl) (by kernel_rfl) (fun _ _ _ h => h) (yieldsIf_load_mid (by rfl) 38 _ (by rfl) E 0 rfl ([.int .i64 (y3.r 0), .int .i64 (y3.r 1), .int .i64 (y3.r 2), .int .i64 (y3.r 3), .int .i64 (y3.r 4), .int .i64 (y3.r 5), .int .i64 (y3.r 6), .int .i64 (y3.r 7), .bool y3.z, .bool y3.s, .bool y3.c, .bool y3.o, .int .i64 y3.pc, .int .i64 y3.phase, .int .i64 y3.latch, .int .i64 y3.status]) _ (fun w hw => hw.2) Tryd.underlying38 rfl (by kernel_rfl)) (by assumption) ?_
          simp only [List.getElem_toArray, List.getElem_cons_zero, List.getElem_cons_succ, Act.put, List.setIfInBounds_toArray, List.set_cons_zero, List.set_cons_succ]
          refine wpAnyH_ready (rs := [6]) (by kernel_rfl) (by simp) ?_
          refine AllReadyH.cons (i := 6) rfl (fun K hK => ?_) AllReadyH.nil
          rw [if_pos (by rfl)]
          go_simp
          go_at_call 33
          apply Calls.mono
          (focus (with_reducible (exact cQ _)))
          rintro e wn ⟨rfl, hr⟩
          obtain rfl := hr.symm
          refine hK.out _ _ hHeld (fun hHeld => ?_)
          clear hK
          (try simp only [List.getElem_toArray, List.getElem_cons_zero, List.getElem_cons_succ, Act.put, List.setIfInBounds_toArray, List.set_cons_zero, List.set_cons_succ])
          refine wpAnyH_take (i := 8) (v := ?_) rfl (by kernel_rfl) (by kernel_rfl) (by kernel_rfl) (fun _ _ _ h => h) (Or.inl ⟨by rfl, ?_⟩) (by assumption) ?_
          rotate_left
          · intro w hSw
            (try dsimp only at hSw)
            obtain ⟨hSa, hSb⟩ := hSw
            simp only [List.getElem_toArray, List.getElem_cons_zero, List.getElem_cons_succ]
            go_simp
            all_goals with_reducible rfl
          simp only [List.getElem_toArray, List.getElem_cons_zero, List.getElem_cons_succ, Act.put, List.setIfInBounds_toArray, List.set_cons_zero, List.set_cons_succ]
          refine wpAnyH_done (by kernel_rfl) ?_ _
          show Oper.wp _ _ _ _ _ _
          refine wp_store_mid 38 (.tmp 71) (.tmp 70) rfl g (kn * 16) _ rfl rfl hth2 (by kernel_rfl) (by kernel_rfl) ?_
          have HPT := Lib.hid (Loose.putThr (HL2.out.next (Later.drew (Later.refl _))) (Nat.le_refl _) (i := kn) (by omega) rfl y3 hyok)
          go_wp2
          go_meet
          exact HPT
        by_cases c1 : q = 1
        · subst c1
          have s0 := HRg.out 13 _ rfl
          simp only [Nat.zero_add] at s0
          have s1 := fz 13
          have ho : InOne E wc (wc.setCell ⟨E, 13, none⟩ (.int .i64 by_)) := (InOne.refl _ _).set _ _
          have HR2 : Hid ((wc.setCell ⟨E, 13, none⟩ (.int .i64 by_)).rangeAt E 0 (tsC ({ y with phase := by_ }))) := Lib.hid (by
            have h := rangeAt_set HE.out HRg.out (i := 13) (by rw [tsC_len]; omega) (.int .i64 by_)
            exact h)
          have hyok : TS.Ok ({ y with phase := by_ }) := ⟨yok.r, yok.pc, h3, yok.latch, yok.status⟩
          have HL2 := Lib.hid (Loose.offThr HL.out gE (fun g' e => by cases e; exact hgE) ho HE.out)
          obtain ⟨y3, hy3⟩ : ∃ y3, y3 = ({ y with phase := by_ }) := ⟨_, rfl⟩
          rw [← hy3] at HR2 hyok
          clear hy3
          go_upto_region 18 with (first | (go_at_call 33; apply Calls.mono; (focus (with_reducible (exact c10 _))); rintro e wn ⟨rfl, hr⟩; obtain rfl := hr.symm))
          obtain ⟨d0, d1, d2, d3, -⟩ := box4_facts HL2.out.box
          obtain ⟨g2, x2, cg2, hg2, hgN2, hgc2, hth2, -, -⟩ := HL2.out.thrAt (i := kn) (by omega)
          obtain rfl : g = g2 := by cases hg2; rfl
          clear b0 b1 b2 b3 f0 f1 f2 f3
          generalize wc.setCell ⟨E, 13, none⟩ (.int .i64 by_) = wd at *
          refine wp_region_chain (fun w' => w'.cell? ⟨D, 1, none⟩ = some (.slice (some ⟨g, 0, none⟩) s.thr.length q2) ∧ w'.rangeAt E 0 (tsC y3)) 9 rfl rfl (by kernel_rfl) (by kernel_rfl) rfl (by kernel_rfl) (by kernel_rfl) (by kernel_rfl) (fun hHeld => ?_) ⟨d1, HR2.out⟩
          simp only [List.take_succ_cons, List.take_zero]
          refine wpAnyH_take (i := 0) (v := ?_) rfl (by kernel_rfl) (by kernel_rfl) (by kernel_rfl) (fun _ _ _ h => h) (Or.inl ⟨by rfl, ?_⟩) (by assumption) ?_
          rotate_left
          · intro w hSw
            (try dsimp only at hSw)
            obtain ⟨hSa, hSb⟩ := hSw
            simp only [List.getElem_toArray, List.getElem_cons_zero, List.getElem_cons_succ]
            go_simp
            all_goals with_reducible rfl
          simp only [List.getElem_toArray, List.getElem_cons_zero, List.getElem_cons_succ, Act.put, List.setIfInBounds_toArray, List.set_cons_zero, List.set_cons_succ]
          refine wpAnyH_take (i := 1) (v := ?_) rfl (by kernel_rfl) (by kernel_rfl) (by kernel_rfl) (fun _ _ _ h => h) (Or.inl ⟨by rfl, ?_⟩) (by assumption) ?_
          rotate_left
          · intro w hSw
            (try dsimp only at hSw)
            obtain ⟨hSa, hSb⟩ := hSw
            simp only [List.getElem_toArray, List.getElem_cons_zero, List.getElem_cons_succ]
            go_simp
            all_goals with_reducible rfl
          simp only [List.getElem_toArray, List.getElem_cons_zero, List.getElem_cons_succ, Act.put, List.setIfInBounds_toArray, List.set_cons_zero, List.set_cons_succ]
          refine wpAnyH_take (i := 2) (v := ?_) rfl (by kernel_rfl) (by kernel_rfl) (by kernel_rfl) (fun _ _ _ h => h) (Or.inl ⟨by rfl, ?_⟩) (by assumption) ?_
          rotate_left
          · intro w hSw
            (try dsimp only at hSw)
            obtain ⟨hSa, hSb⟩ := hSw
            simp only [List.getElem_toArray, List.getElem_cons_zero, List.getElem_cons_succ]
            go_simp
            all_goals with_reducible rfl
          simp only [List.getElem_toArray, List.getElem_cons_zero, List.getElem_cons_succ, Act.put, List.setIfInBounds_toArray, List.set_cons_zero, List.set_cons_succ]
          refine wpAnyH_take (i := 3) (v := ?_) rfl (by kernel_rfl) (by kernel_rfl) (by kernel_rfl) (fun _ _ _ h => h) (Or.inl ⟨by rfl, ?_⟩) (by assumption) ?_
          rotate_left
          · intro w hSw
            (try dsimp only at hSw)
            obtain ⟨hSa, hSb⟩ := hSw
            simp only [List.getElem_toArray, List.getElem_cons_zero, List.getElem_cons_succ]
            go_simp
            all_goals with_reducible rfl
          simp only [List.getElem_toArray, List.getElem_cons_zero, List.getElem_cons_succ, Act.put, List.setIfInBounds_toArray, List.set_cons_zero, List.set_cons_succ]
          refine wpAnyH_take (i := 4) (v := ?_) rfl (by kernel_rfl) (by kernel_rfl) (by kernel_rfl) (fun _ _ _ h => h) (Or.inl ⟨by rfl, ?_⟩) (by assumption) ?_
          rotate_left
          · intro w hSw
            (try dsimp only at hSw)
            obtain ⟨hSa, hSb⟩ := hSw
            simp only [List.getElem_toArray, List.getElem_cons_zero, List.getElem_cons_succ]
            go_simp
            all_goals with_reducible rfl
          simp only [List.getElem_toArray, List.getElem_cons_zero, List.getElem_cons_succ, Act.put, List.setIfInBounds_toArray, List.set_cons_zero, List.set_cons_succ]
          refine wpAnyH_take (i := 5) (v := ?_) rfl (by kernel_rfl) (by kernel_rfl) (by kernel_rfl) (fun _ _ _ h => h) (Or.inl ⟨by rfl, ?_⟩) (by assumption) ?_
          rotate_left
          · intro w hSw
            (try dsimp only at hSw)
            obtain ⟨hSa, hSb⟩ := hSw
            simp only [List.getElem_toArray, List.getElem_cons_zero, List.getElem_cons_succ]
            go_simp
            all_goals with_reducible rfl
          simp only [List.getElem_toArray, List.getElem_cons_zero, List.getElem_cons_succ, Act.put, List.setIfInBounds_toArray, List.set_cons_zero, List.set_cons_succ]
          refine wpAnyH_take (i := 7) (v := .agg ([.int .i64 (y3.r 0), .int .i64 (y3.r 1), .int .i64 (y3.r 2), .int .i64 (y3.r 3), .int .i64 (y3.r 4), .int .i64 (y3.r 5), .int .i64 (y3.r 6), .int .i64 (y3.r 7), .bool y3.z, .bool y3.s, .bool y3.c, .bool y3.o, .int .i64 y3.pc, .int .i64 y3.phase, .int .i64 y3.latch, .int .i64 y3.status]).toArray) rfl (by kernel_rfl) (by kernel_rfl) (by kernel_rfl) (fun _ _ _ h => h) (yieldsIf_load_mid (by rfl) 38 _ (by rfl) E 0 rfl ([.int .i64 (y3.r 0), .int .i64 (y3.r 1), .int .i64 (y3.r 2), .int .i64 (y3.r 3), .int .i64 (y3.r 4), .int .i64 (y3.r 5), .int .i64 (y3.r 6), .int .i64 (y3.r 7), .bool y3.z, .bool y3.s, .bool y3.c, .bool y3.o, .int .i64 y3.pc, .int .i64 y3.phase, .int .i64 y3.latch, .int .i64 y3.status]) _ (fun w hw => hw.2) Tryd.underlying38 rfl (by kernel_rfl)) (by assumption) ?_
          simp only [List.getElem_toArray, List.getElem_cons_zero, List.getElem_cons_succ, Act.put, List.setIfInBounds_toArray, List.set_cons_zero, List.set_cons_succ]
          refine wpAnyH_ready (rs := [6]) (by kernel_rfl) (by simp) ?_
          refine AllReadyH.cons (i := 6) rfl (fun K hK => ?_) AllReadyH.nil
          rw [if_pos (by rfl)]
          go_simp
          go_at_call 33
          apply Calls.mono
          (focus (with_reducible (exact cQ _)))
          rintro e wn ⟨rfl, hr⟩
          obtain rfl := hr.symm
          refine hK.out _ _ hHeld (fun hHeld => ?_)
          clear hK
          (try simp only [List.getElem_toArray, List.getElem_cons_zero, List.getElem_cons_succ, Act.put, List.setIfInBounds_toArray, List.set_cons_zero, List.set_cons_succ])
          refine wpAnyH_take (i := 8) (v := ?_) rfl (by kernel_rfl) (by kernel_rfl) (by kernel_rfl) (fun _ _ _ h => h) (Or.inl ⟨by rfl, ?_⟩) (by assumption) ?_
          rotate_left
          · intro w hSw
            (try dsimp only at hSw)
            obtain ⟨hSa, hSb⟩ := hSw
            simp only [List.getElem_toArray, List.getElem_cons_zero, List.getElem_cons_succ]
            go_simp
            all_goals with_reducible rfl
          simp only [List.getElem_toArray, List.getElem_cons_zero, List.getElem_cons_succ, Act.put, List.setIfInBounds_toArray, List.set_cons_zero, List.set_cons_succ]
          refine wpAnyH_done (by kernel_rfl) ?_ _
          show Oper.wp _ _ _ _ _ _
          refine wp_store_mid 38 (.tmp 71) (.tmp 70) rfl g (kn * 16) _ rfl rfl hth2 (by kernel_rfl) (by kernel_rfl) ?_
          have HPT := Lib.hid (Loose.putThr (HL2.out.next (Later.drew (Later.refl _))) (Nat.le_refl _) (i := kn) (by omega) rfl y3 hyok)
          go_wp2
          go_meet
          exact HPT
        by_cases c2 : q = 2
        · subst c2
          have s0 := HRg.out 14 _ rfl
          simp only [Nat.zero_add] at s0
          have s1 := fz 14
          have ho : InOne E wc (wc.setCell ⟨E, 14, none⟩ (.int .i64 by_)) := (InOne.refl _ _).set _ _
          have HR2 : Hid ((wc.setCell ⟨E, 14, none⟩ (.int .i64 by_)).rangeAt E 0 (tsC ({ y with latch := by_ }))) := Lib.hid (by
            have h := rangeAt_set HE.out HRg.out (i := 14) (by rw [tsC_len]; omega) (.int .i64 by_)
            exact h)
          have hyok : TS.Ok ({ y with latch := by_ }) := ⟨yok.r, yok.pc, yok.phase, h3, yok.status⟩
          have HL2 := Lib.hid (Loose.offThr HL.out gE (fun g' e => by cases e; exact hgE) ho HE.out)
          obtain ⟨y3, hy3⟩ : ∃ y3, y3 = ({ y with latch := by_ }) := ⟨_, rfl⟩
          rw [← hy3] at HR2 hyok
          clear hy3
          go_upto_region 18 with (first | (go_at_call 33; apply Calls.mono; (focus (with_reducible (exact c10 _))); rintro e wn ⟨rfl, hr⟩; obtain rfl := hr.symm))
          obtain ⟨d0, d1, d2, d3, -⟩ := box4_facts HL2.out.box
          obtain ⟨g2, x2, cg2, hg2, hgN2, hgc2, hth2, -, -⟩ := HL2.out.thrAt (i := kn) (by omega)
          obtain rfl : g = g2 := by cases hg2; rfl
          clear b0 b1 b2 b3 f0 f1 f2 f3
          generalize wc.setCell ⟨E, 14, none⟩ (.int .i64 by_) = wd at *
          refine wp_region_chain (fun w' => w'.cell? ⟨D, 1, none⟩ = some (.slice (some ⟨g, 0, none⟩) s.thr.length q2) ∧ w'.rangeAt E 0 (tsC y3)) 9 rfl rfl (by kernel_rfl) (by kernel_rfl) rfl (by kernel_rfl) (by kernel_rfl) (by kernel_rfl) (fun hHeld => ?_) ⟨d1, HR2.out⟩
          simp only [List.take_succ_cons, List.take_zero]
          refine wpAnyH_take (i := 0) (v := ?_) rfl (by kernel_rfl) (by kernel_rfl) (by kernel_rfl) (fun _ _ _ h => h) (Or.inl ⟨by rfl, ?_⟩) (by assumption) ?_
          rotate_left
          · intro w hSw
            (try dsimp only at hSw)
            obtain ⟨hSa, hSb⟩ := hSw
            simp only [List.getElem_toArray, List.getElem_cons_zero, List.getElem_cons_succ]
            go_simp
            all_goals with_reducible rfl
          simp only [List.getElem_toArray, List.getElem_cons_zero, List.getElem_cons_succ, Act.put, List.setIfInBounds_toArray, List.set_cons_zero, List.set_cons_succ]
          refine wpAnyH_take (i := 1) (v := ?_) rfl (by kernel_rfl) (by kernel_rfl) (by kernel_rfl) (fun _ _ _ h => h) (Or.inl ⟨by rfl, ?_⟩) (by assumption) ?_
          rotate_left
          · intro w hSw
            (try dsimp only at hSw)
            obtain ⟨hSa, hSb⟩ := hSw
            simp only [List.getElem_toArray, List.getElem_cons_zero, List.getElem_cons_succ]
            go_simp
            all_goals with_reducible rfl
          simp only [List.getElem_toArray, List.getElem_cons_zero, List.getElem_cons_succ, Act.put, List.setIfInBounds_toArray, List.set_cons_zero, List.set_cons_succ]
          refine wpAnyH_take (i := 2) (v := ?_) rfl (by kernel_rfl) (by kernel_rfl) (by kernel_rfl) (fun _ _ _ h => h) (Or.inl ⟨by rfl, ?_⟩) (by assumption) ?_
          rotate_left
          · intro w hSw
            (try dsimp only at hSw)
            obtain ⟨hSa, hSb⟩ := hSw
            simp only [List.getElem_toArray, List.getElem_cons_zero, List.getElem_cons_succ]
            go_simp
            all_goals with_reducible rfl
          simp only [List.getElem_toArray, List.getElem_cons_zero, List.getElem_cons_succ, Act.put, List.setIfInBounds_toArray, List.set_cons_zero, List.set_cons_succ]
          refine wpAnyH_take (i := 3) (v := ?_) rfl (by kernel_rfl) (by kernel_rfl) (by kernel_rfl) (fun _ _ _ h => h) (Or.inl ⟨by rfl, ?_⟩) (by assumption) ?_
          rotate_left
          · intro w hSw
            (try dsimp only at hSw)
            obtain ⟨hSa, hSb⟩ := hSw
            simp only [List.getElem_toArray, List.getElem_cons_zero, List.getElem_cons_succ]
            go_simp
            all_goals with_reducible rfl
          simp only [List.getElem_toArray, List.getElem_cons_zero, List.getElem_cons_succ, Act.put, List.setIfInBounds_toArray, List.set_cons_zero, List.set_cons_succ]
          refine wpAnyH_take (i := 4) (v := ?_) rfl (by kernel_rfl) (by kernel_rfl) (by kernel_rfl) (fun _ _ _ h => h) (Or.inl ⟨by rfl, ?_⟩) (by assumption) ?_
          rotate_left
          · intro w hSw
            (try dsimp only at hSw)
            obtain ⟨hSa, hSb⟩ := hSw
            simp only [List.getElem_toArray, List.getElem_cons_zero, List.getElem_cons_succ]
            go_simp
            all_goals with_reducible rfl
          simp only [List.getElem_toArray, List.getElem_cons_zero, List.getElem_cons_succ, Act.put, List.setIfInBounds_toArray, List.set_cons_zero, List.set_cons_succ]
          refine wpAnyH_take (i := 5) (v := ?_) rfl (by kernel_rfl) (by kernel_rfl) (by kernel_rfl) (fun _ _ _ h => h) (Or.inl ⟨by rfl, ?_⟩) (by assumption) ?_
          rotate_left
          · intro w hSw
            (try dsimp only at hSw)
            obtain ⟨hSa, hSb⟩ := hSw
            simp only [List.getElem_toArray, List.getElem_cons_zero, List.getElem_cons_succ]
            go_simp
            all_goals with_reducible rfl
          simp only [List.getElem_toArray, List.getElem_cons_zero, List.getElem_cons_succ, Act.put, List.setIfInBounds_toArray, List.set_cons_zero, List.set_cons_succ]
          refine wpAnyH_take (i := 7) (v := .agg ([.int .i64 (y3.r 0), .int .i64 (y3.r 1), .int .i64 (y3.r 2), .int .i64 (y3.r 3), .int .i64 (y3.r 4), .int .i64 (y3.r 5), .int .i64 (y3.r 6), .int .i64 (y3.r 7), .bool y3.z, .bool y3.s, .bool y3.c, .bool y3.o, .int .i64 y3.pc, .int .i64 y3.phase, .int .i64 y3.latch, .int .i64 y3.status]).toArray) rfl (by kernel_rfl) (by kernel_rfl) (by kernel_rfl) (fun _ _ _ h => h) (yieldsIf_load_mid (by rfl) 38 _ (by rfl) E 0 rfl ([.int .i64 (y3.r 0), .int .i64 (y3.r 1), .int .i64 (y3.r 2), .int .i64 (y3.r 3), .int .i64 (y3.r 4), .int .i64 (y3.r 5), .int .i64 (y3.r 6), .int .i64 (y3.r 7), .bool y3.z, .bool y3.s, .bool y3.c, .bool y3.o, .int .i64 y3.pc, .int .i64 y3.phase, .int .i64 y3.latch, .int .i64 y3.status]) _ (fun w hw => hw.2) Tryd.underlying38 rfl (by kernel_rfl)) (by assumption) ?_
          simp only [List.getElem_toArray, List.getElem_cons_zero, List.getElem_cons_succ, Act.put, List.setIfInBounds_toArray, List.set_cons_zero, List.set_cons_succ]
          refine wpAnyH_ready (rs := [6]) (by kernel_rfl) (by simp) ?_
          refine AllReadyH.cons (i := 6) rfl (fun K hK => ?_) AllReadyH.nil
          rw [if_pos (by rfl)]
          go_simp
          go_at_call 33
          apply Calls.mono
          (focus (with_reducible (exact cQ _)))
          rintro e wn ⟨rfl, hr⟩
          obtain rfl := hr.symm
          refine hK.out _ _ hHeld (fun hHeld => ?_)
          clear hK
          (try simp only [List.getElem_toArray, List.getElem_cons_zero, List.getElem_cons_succ, Act.put, List.setIfInBounds_toArray, List.set_cons_zero, List.set_cons_succ])
          refine wpAnyH_take (i := 8) (v := ?_) rfl (by kernel_rfl) (by kernel_rfl) (by kernel_rfl) (fun _ _ _ h => h) (Or.inl ⟨by rfl, ?_⟩) (by assumption) ?_
          rotate_left
          · intro w hSw
            (try dsimp only at hSw)
            obtain ⟨hSa, hSb⟩ := hSw
            simp only [List.getElem_toArray, List.getElem_cons_zero, List.getElem_cons_succ]
            go_simp
            all_goals with_reducible rfl
          simp only [List.getElem_toArray, List.getElem_cons_zero, List.getElem_cons_succ, Act.put, List.setIfInBounds_toArray, List.set_cons_zero, List.set_cons_succ]
          refine wpAnyH_done (by kernel_rfl) ?_ _
          show Oper.wp _ _ _ _ _ _
          refine wp_store_mid 38 (.tmp 71) (.tmp 70) rfl g (kn * 16) _ rfl rfl hth2 (by kernel_rfl) (by kernel_rfl) ?_
          have HPT := Lib.hid (Loose.putThr (HL2.out.next (Later.drew (Later.refl _))) (Nat.le_refl _) (i := kn) (by omega) rfl y3 hyok)
          go_wp2
          go_meet
          exact HPT
        by_cases c3 : q = 3
        · subst c3
          have s0 := HRg.out 15 _ rfl
          simp only [Nat.zero_add] at s0
          have s1 := fz 15
          have ho : InOne E wc (wc.setCell ⟨E, 15, none⟩ (.int .i64 by_)) := (InOne.refl _ _).set _ _
          have HR2 : Hid ((wc.setCell ⟨E, 15, none⟩ (.int .i64 by_)).rangeAt E 0 (tsC ({ y with status := by_ }))) := Lib.hid (by
            have h := rangeAt_set HE.out HRg.out (i := 15) (by rw [tsC_len]; omega) (.int .i64 by_)
            exact h)
          have hyok : TS.Ok ({ y with status := by_ }) := ⟨yok.r, yok.pc, yok.phase, yok.latch, h3⟩
          have HL2 := Lib.hid (Loose.offThr HL.out gE (fun g' e => by cases e; exact hgE) ho HE.out)
          obtain ⟨y3, hy3⟩ : ∃ y3, y3 = ({ y with status := by_ }) := ⟨_, rfl⟩
          rw [← hy3] at HR2 hyok
          clear hy3
          go_upto_region 18 with (first | (go_at_call 33; apply Calls.mono; (focus (with_reducible (exact c10 _))); rintro e wn ⟨rfl, hr⟩; obtain rfl := hr.symm))
          obtain ⟨d0, d1, d2, d3, -⟩ := box4_facts HL2.out.box
          obtain ⟨g2, x2, cg2, hg2, hgN2, hgc2, hth2, -, -⟩ := HL2.out.thrAt (i := kn) (by omega)
          obtain rfl : g = g2 := by cases hg2; rfl
          clear b0 b1 b2 b3 f0 f1 f2 f3
          generalize wc.setCell ⟨E, 15, none⟩ (.int .i64 by_) = wd at *
          refine wp_region_chain (fun w' => w'.cell? ⟨D, 1, none⟩ = some (.slice (some ⟨g, 0, none⟩) s.thr.length q2) ∧ w'.rangeAt E 0 (tsC y3)) 9 rfl rfl (by kernel_rfl) (by kernel_rfl) rfl (by kernel_rfl) (by kernel_rfl) (by kernel_rfl) (fun hHeld => ?_) ⟨d1, HR2.out⟩
          simp only [List.take_succ_cons, List.take_zero]
          refine wpAnyH_take (i := 0) (v := ?_) rfl (by kernel_rfl) (by kernel_rfl) (by kernel_rfl) (fun _ _ _ h => h) (Or.inl ⟨by rfl, ?_⟩) (by assumption) ?_
          rotate_left
          · intro w hSw
            (try dsimp only at hSw)
            obtain ⟨hSa, hSb⟩ := hSw
            simp only [List.getElem_toArray, List.getElem_cons_zero, List.getElem_cons_succ]
            go_simp
            all_goals with_reducible rfl
          simp only [List.getElem_toArray, List.getElem_cons_zero, List.getElem_cons_succ, Act.put, List.setIfInBounds_toArray, List.set_cons_zero, List.set_cons_succ]
          refine wpAnyH_take (i := 1) (v := ?_) rfl (by kernel_rfl) (by kernel_rfl) (by kernel_rfl) (fun _ _ _ h => h) (Or.inl ⟨by rfl, ?_⟩) (by assumption) ?_
          rotate_left
          · intro w hSw
            (try dsimp only at hSw)
            obtain ⟨hSa, hSb⟩ := hSw
            simp only [List.getElem_toArray, List.getElem_cons_zero, List.getElem_cons_succ]
            go_simp
            all_goals with_reducible rfl
          simp only [List.getElem_toArray, List.getElem_cons_zero, List.getElem_cons_succ, Act.put, List.setIfInBounds_toArray, List.set_cons_zero, List.set_cons_succ]
          refine wpAnyH_take (i := 2) (v := ?_) rfl (by kernel_rfl) (by kernel_rfl) (by kernel_rfl) (fun _ _ _ h => h) (Or.inl ⟨by rfl, ?_⟩) (by assumption) ?_
          rotate_left
          · intro w hSw
            (try dsimp only at hSw)
            obtain ⟨hSa, hSb⟩ := hSw
            simp only [List.getElem_toArray, List.getElem_cons_zero, List.getElem_cons_succ]
            go_simp
            all_goals with_reducible rfl
          simp only [List.getElem_toArray, List.getElem_cons_zero, List.getElem_cons_succ, Act.put, List.setIfInBounds_toArray, List.set_cons_zero, List.set_cons_succ]
          refine wpAnyH_take (i := 3) (v := ?_) rfl (by kernel_rfl) (by kernel_rfl) (by kernel_rfl) (fun _ _ _ h => h) (Or.inl ⟨by rfl, ?_⟩) (by assumption) ?_
          rotate_left
          · intro w hSw
            (try dsimp only at hSw)
            obtain ⟨hSa, hSb⟩ := hSw
            simp only [List.getElem_toArray, List.getElem_cons_zero, List.getElem_cons_succ]
            go_simp
            all_goals with_reducible rfl
          simp only [List.getElem_toArray, List.getElem_cons_zero, List.getElem_cons_succ, Act.put, List.setIfInBounds_toArray, List.set_cons_zero, List.set_cons_succ]
          refine wpAnyH_take (i := 4) (v := ?_) rfl (by kernel_rfl) (by kernel_rfl) (by kernel_rfl) (fun _ _ _ h => h) (Or.inl ⟨by rfl, ?_⟩) (by assumption) ?_
          rotate_left
          · intro w hSw
            (try dsimp only at hSw)
            obtain ⟨hSa, hSb⟩ := hSw
            simp only [List.getElem_toArray, List.getElem_cons_zero, List.getElem_cons_succ]
            go_simp
            all_goals with_reducible rfl
          simp only [List.getElem_toArray, List.getElem_cons_zero, List.getElem_cons_succ, Act.put, List.setIfInBounds_toArray, List.set_cons_zero, List.set_cons_succ]
          refine wpAnyH_take (i := 5) (v := ?_) rfl (by kernel_rfl) (by kernel_rfl) (by kernel_rfl) (fun _ _ _ h => h) (Or.inl ⟨by rfl, ?_⟩) (by assumption) ?_
          rotate_left
          · intro w hSw
            (try dsimp only at hSw)
            obtain ⟨hSa, hSb⟩ := hSw
            simp only [List.getElem_toArray, List.getElem_cons_zero, List.getElem_cons_succ]
            go_simp
            all_goals with_reducible rfl
          simp only [List.getElem_toArray, List.getElem_cons_zero, List.getElem_cons_succ, Act.put, List.setIfInBounds_toArray, List.set_cons_zero, List.set_cons_succ]
          refine wpAnyH_take (i := 7) (v := .agg ([.int .i64 (y3.r 0), .int .i64 (y3.r 1), .int .i64 (y3.r 2), .int .i64 (y3.r 3), .int .i64 (y3.r 4), .int .i64 (y3.r 5), .int .i64 (y3.r 6), .int .i64 (y3.r 7), .bool y3.z, .bool y3.s, .bool y3.c, .bool y3.o, .int .i64 y3.pc, .int .i64 y3.phase, .int .i64 y3.latch, .int .i64 y3.status]).toArray) rfl (by kernel_rfl) (by kernel_rfl) (by kernel_rfl) (fun _ _ _ h => h) (yieldsIf_load_mid (by rfl) 38 _ (by rfl) E 0 rfl ([.int .i64 (y3.r 0), .int .i64 (y3.r 1), .int .i64 (y3.r 2), .int .i64 (y3.r 3), .int .i64 (y3.r 4), .int .i64 (y3.r 5), .int .i64 (y3.r 6), .int .i64 (y3.r 7), .bool y3.z, .bool y3.s, .bool y3.c, .bool y3.o, .int .i64 y3.pc, .int .i64 y3.phase, .int .i64 y3.latch, .int .i64 y3.status]) _ (fun w hw => hw.2) Tryd.underlying38 rfl (by kernel_rfl)) (by assumption) ?_
          simp only [List.getElem_toArray, List.getElem_cons_zero, List.getElem_cons_succ, Act.put, List.setIfInBounds_toArray, List.set_cons_zero, List.set_cons_succ]
          refine wpAnyH_ready (rs := [6]) (by kernel_rfl) (by simp) ?_
          refine AllReadyH.cons (i := 6) rfl (fun K hK => ?_) AllReadyH.nil
          rw [if_pos (by rfl)]
          go_simp
          go_at_call 33
          apply Calls.mono
          (focus (with_reducible (exact cQ _)))
          rintro e wn ⟨rfl, hr⟩
          obtain rfl := hr.symm
          refine hK.out _ _ hHeld (fun hHeld => ?_)
          clear hK
          (try simp only [List.getElem_toArray, List.getElem_cons_zero, List.getElem_cons_succ, Act.put, List.setIfInBounds_toArray, List.set_cons_zero, List.set_cons_succ])
          refine wpAnyH_take (i := 8) (v := ?_) rfl (by kernel_rfl) (by kernel_rfl) (by kernel_rfl) (fun _ _ _ h => h) (Or.inl ⟨by rfl, ?_⟩) (by assumption) ?_
          rotate_left
          · intro w hSw
            (try dsimp only at hSw)
            obtain ⟨hSa, hSb⟩ := hSw
            simp only [List.getElem_toArray, List.getElem_cons_zero, List.getElem_cons_succ]
            go_simp
            all_goals with_reducible rfl
          simp only [List.getElem_toArray, List.getElem_cons_zero, List.getElem_cons_succ, Act.put, List.setIfInBounds_toArray, List.set_cons_zero, List.set_cons_succ]
          refine wpAnyH_done (by kernel_rfl) ?_ _
          show Oper.wp _ _ _ _ _ _
          refine wp_store_mid 38 (.tmp 71) (.tmp 70) rfl g (kn * 16) _ rfl rfl hth2 (by kernel_rfl) (by kernel_rfl) ?_
          have HPT := Lib.hid (Loose.putThr (HL2.out.next (Later.drew (Later.refl _))) (Nat.le_refl _) (i := kn) (by omega) rfl y3 hyok)
          go_wp2
          go_meet
          exact HPT
        by_cases c4 : q = 4
        · subst c4
          have s0 := HRg.out 10 _ rfl
          simp only [Nat.zero_add] at s0
          have s1 := fz 10
          have ho : InOne E wc (wc.setCell ⟨E, 10, none⟩ (.bool (!y.c))) := (InOne.refl _ _).set _ _
          have HR2 : Hid ((wc.setCell ⟨E, 10, none⟩ (.bool (!y.c))).rangeAt E 0 (tsC ({ y with c := !y.c }))) := Lib.hid (by
            have h := rangeAt_set HE.out HRg.out (i := 10) (by rw [tsC_len]; omega) (.bool (!y.c))
            exact h)
          have hyok : TS.Ok ({ y with c := !y.c }) := ⟨yok.r, yok.pc, yok.phase, yok.latch, yok.status⟩
          have HL2 := Lib.hid (Loose.offThr HL.out gE (fun g' e => by cases e; exact hgE) ho HE.out)
          obtain ⟨y3, hy3⟩ : ∃ y3, y3 = ({ y with c := !y.c }) := ⟨_, rfl⟩
          rw [← hy3] at HR2 hyok
          clear hy3
          go_upto_region 18 with (first | (go_at_call 33; apply Calls.mono; (focus (with_reducible (exact c10 _))); rintro e wn ⟨rfl, hr⟩; obtain rfl := hr.symm))
          obtain ⟨d0, d1, d2, d3, -⟩ := box4_facts HL2.out.box
          obtain ⟨g2, x2, cg2, hg2, hgN2, hgc2, hth2, -, -⟩ := HL2.out.thrAt (i := kn) (by omega)
          obtain rfl : g = g2 := by cases hg2; rfl
          clear b0 b1 b2 b3 f0 f1 f2 f3
          generalize wc.setCell ⟨E, 10, none⟩ (.bool (!y.c)) = wd at *
          refine wp_region_chain (fun w' => w'.cell? ⟨D, 1, none⟩ = some (.slice (some ⟨g, 0, none⟩) s.thr.length q2) ∧ w'.rangeAt E 0 (tsC y3)) 9 rfl rfl (by kernel_rfl) (by kernel_rfl) rfl (by kernel_rfl) (by kernel_rfl) (by kernel_rfl) (fun hHeld => ?_) ⟨d1, HR2.out⟩
          simp only [List.take_succ_cons, List.take_zero]
          refine wpAnyH_take (i := 0) (v := ?_) rfl (by kernel_rfl) (by kernel_rfl) (by kernel_rfl) (fun _ _ _ h => h) (Or.inl ⟨by rfl, ?_⟩) (by assumption) ?_
          rotate_left
          · intro w hSw
            (try dsimp only at hSw)
            obtain ⟨hSa, hSb⟩ := hSw
            simp only [List.getElem_toArray, List.getElem_cons_zero, List.getElem_cons_succ]
            go_simp
            all_goals with_reducible rfl
          simp only [List.getElem_toArray, List.getElem_cons_zero, List.getElem_cons_succ, Act.put, List.setIfInBounds_toArray, List.set_cons_zero, List.set_cons_succ]
          refine wpAnyH_take (i := 1) (v := ?_) rfl (by kernel_rfl) (by kernel_rfl) (by kernel_rfl) (fun _ _ _ h => h) (Or.inl ⟨by rfl, ?_⟩) (by assumption) ?_
          rotate_left
          · intro w hSw
            (try dsimp only at hSw)
            obtain ⟨hSa, hSb⟩ := hSw
            simp only [List.getElem_toArray, List.getElem_cons_zero, List.getElem_cons_succ]
            go_simp
            all_goals with_reducible rfl
          simp only [List.getElem_toArray, List.getElem_cons_zero, List.getElem_cons_succ, Act.put, List.setIfInBounds_toArray, List.set_cons_zero, List.set_cons_succ]
          refine wpAnyH_take (i := 2) (v := ?_) rfl (by kernel_rfl) (by kernel_rfl) (by kernel_rfl) (fun _ _ _ h => h) (Or.inl ⟨by rfl, ?_⟩) (by assumption) ?_
          rotate_left
          · intro w hSw
            (try dsimp only at hSw)
            obtain ⟨hSa, hSb⟩ := hSw
            simp only [List.getElem_toArray, List.getElem_cons_zero, List.getElem_cons_succ]
            go_simp
            all_goals with_reducible rfl
          simp only [List.getElem_toArray, List.getElem_cons_zero, List.getElem_cons_succ, Act.put, List.setIfInBounds_toArray, List.set_cons_zero, List.set_cons_succ]
          refine wpAnyH_take (i := 3) (v := ?_) rfl (by kernel_rfl) (by kernel_rfl) (by kernel_rfl) (fun _ _ _ h => h) (Or.inl ⟨by rfl, ?_⟩) (by assumption) ?_
          rotate_left
          · intro w hSw
            (try dsimp only at hSw)
            obtain ⟨hSa, hSb⟩ := hSw
            simp only [List.getElem_toArray, List.getElem_cons_zero, List.getElem_cons_succ]
            go_simp
            all_goals with_reducible rfl
          simp only [List.getElem_toArray, List.getElem_cons_zero, List.getElem_cons_succ, Act.put, List.setIfInBounds_toArray, List.set_cons_zero, List.set_cons_succ]
          refine wpAnyH_take (i := 4) (v := ?_) rfl (by kernel_rfl) (by kernel_rfl) (by kernel_rfl) (fun _ _ _ h => h) (Or.inl ⟨by rfl, ?_⟩) (by assumption) ?_
          rotate_left
          · intro w hSw
            (try dsimp only at hSw)
            obtain ⟨hSa, hSb⟩ := hSw
            simp only [List.getElem_toArray, List.getElem_cons_zero, List.getElem_cons_succ]
            go_simp
            all_goals with_reducible rfl
          simp only [List.getElem_toArray, List.getElem_cons_zero, List.getElem_cons_succ, Act.put, List.setIfInBounds_toArray, List.set_cons_zero, List.set_cons_succ]
          refine wpAnyH_take (i := 5) (v := ?_) rfl (by kernel_rfl) (by kernel_rfl) (by kernel_rfl) (fun _ _ _ h => h) (Or.inl ⟨by rfl, ?_⟩) (by assumption) ?_
          rotate_left
          · intro w hSw
            (try dsimp only at hSw)
            obtain ⟨hSa, hSb⟩ := hSw
            simp only [List.getElem_toArray, List.getElem_cons_zero, List.getElem_cons_succ]
            go_simp
            all_goals with_reducible rfl
          simp only [List.getElem_toArray, List.getElem_cons_zero, List.getElem_cons_succ, Act.put, List.setIfInBounds_toArray, List.set_cons_zero, List.set_cons_succ]
          refine wpAnyH_take (i := 7) (v := .agg ([.int .i64 (y3.r 0), .int .i64 (y3.r 1), .int .i64 (y3.r 2), .int .i64 (y3.r 3), .int .i64 (y3.r 4), .int .i64 (y3.r 5), .int .i64 (y3.r 6), .int .i64 (y3.r 7), .bool y3.z, .bool y3.s, .bool y3.c, .bool y3.o, .int .i64 y3.pc, .int .i64 y3.phase, .int .i64 y3.latch, .int .i64 y3.status]).toArray) rfl (by kernel_rfl) (by kernel_rfl) (by kernel_rfl) (fun _ _ _ h => h) (yieldsIf_load_mid (by rfl) 38 _ (by rfl) E 0 rfl ([.int .i64 (y3.r 0), .int .i64 (y3.r 1), .int .i64 (y3.r 2), .int .i64 (y3.r 3), .int .i64 (y3.r 4), .int .i64 (y3.r 5), .int .i64 (y3.r 6), .int .i64 (y3.r 7), .bool y3.z, .bool y3.s, .bool y3.c, .bool y3.o, .int .i64 y3.pc, .int .i64 y3.phase, .int .i64 y3.latch, .int .i64 y3.status]) _ (fun w hw => hw.2) Tryd.underlying38 rfl (by kernel_rfl)) (by assumption) ?_
          simp only [List.getElem_toArray, List.getElem_cons_zero, List.getElem_cons_succ, Act.put, List.setIfInBounds_toArray, List.set_cons_zero, List.set_cons_succ]
          refine wpAnyH_ready (rs := [6]) (by kernel_rfl) (by simp) ?_
          refine AllReadyH.cons (i := 6) rfl (fun K hK => ?_) AllReadyH.nil
          rw [if_pos (by rfl)]
          go_simp
          go_at_call 33
          apply Calls.mono
          (focus (with_reducible (exact cQ _)))
          rintro e wn ⟨rfl, hr⟩
          obtain rfl := hr.symm
          refine hK.out _ _ hHeld (fun hHeld => ?_)
          clear hK
          (try simp only [List.getElem_toArray, List.getElem_cons_zero, List.getElem_cons_succ, Act.put, List.setIfInBounds_toArray, List.set_cons_zero, List.set_cons_succ])
          refine wpAnyH_take (i := 8) (v := ?_) rfl (by kernel_rfl) (by kernel_rfl) (by kernel_rfl) (fun _ _ _ h => h) (Or.inl ⟨by rfl, ?_⟩) (by assumption) ?_
          rotate_left
          · intro w hSw
            (try dsimp only at hSw)
            obtain ⟨hSa, hSb⟩ := hSw
            simp only [List.getElem_toArray, List.getElem_cons_zero, List.getElem_cons_succ]
            go_simp
            all_goals with_reducible rfl
          simp only [List.getElem_toArray, List.getElem_cons_zero, List.getElem_cons_succ, Act.put, List.setIfInBounds_toArray, List.set_cons_zero, List.set_cons_succ]
          refine wpAnyH_done (by kernel_rfl) ?_ _
          show Oper.wp _ _ _ _ _ _
          refine wp_store_mid 38 (.tmp 71) (.tmp 70) rfl g (kn * 16) _ rfl rfl hth2 (by kernel_rfl) (by kernel_rfl) ?_
          have HPT := Lib.hid (Loose.putThr (HL2.out.next (Later.drew (Later.refl _))) (Nat.le_refl _) (i := kn) (by omega) rfl y3 hyok)
          go_wp2
          go_meet
          exact HPT
        by_cases c5 : q = 5
        · subst c5
          obtain ⟨h51, h52⟩ : I64 (at_.tdiv 8) := by
            have e1 := Int.mul_tdiv_add_tmod at_ 8
            have e2 := Int.tmod_lt_of_pos at_ (show (0 : Int) < 8 by omega)
            have e3 := Int.lt_tmod_of_pos at_ (show (0 : Int) < 8 by omega)
            unfold I64 at h2 ⊢
            omega
          have c8 := fun w' => pick_any (at_.tdiv 8) 8 ⟨h51, h52⟩ (by omega) w'
          have hr0 : 0 ≤ pick (at_.tdiv 8) 8 := Int.emod_nonneg _ (by omega)
          have hr1 : pick (at_.tdiv 8) 8 < 8 := Int.emod_lt_of_pos _ (by omega)
          obtain ⟨kk, hkk⟩ : ∃ kk : Nat, pick (at_.tdiv 8) 8 = (kk : Int) := ⟨_, (Int.toNat_of_nonneg hr0).symm⟩
          rw [hkk] at c8 hr0 hr1
          clear hkk
          have hk8 : kk < 8 := by omega
          have hyk : (tsC y)[kk]? = some (.int .i64 (y.r kk)) := by
            match kk, hk8 with
            | 0, _ => rfl
            | 1, _ => rfl
            | 2, _ => rfl
            | 3, _ => rfl
            | 4, _ => rfl
            | 5, _ => rfl
            | 6, _ => rfl
            | 7, _ => rfl
            | k + 8, h => omega
          have s0 := HRg.out kk _ hyk
          simp only [Nat.zero_add] at s0
          have s1 := fz kk
          have ho : InOne E wc (wc.setCell ⟨E, kk, none⟩ (.int .i64 by_)) := (InOne.refl _ _).set _ _
          have HR2 : Hid ((wc.setCell ⟨E, kk, none⟩ (.int .i64 by_)).rangeAt E 0 (tsC (y.putReg kk by_))) := Lib.hid (by
            have h := rangeAt_set HE.out HRg.out (i := kk) (by rw [tsC_len]; omega) (.int .i64 by_)
            rw [putReg_cells y hk8]; exact h)
          have hyok : TS.Ok (y.putReg kk by_) := putReg_ok yok kk h3
          have HL2 := Lib.hid (Loose.offThr HL.out gE (fun g' e => by cases e; exact hgE) ho HE.out)
          obtain ⟨y3, hy3⟩ : ∃ y3, y3 = (y.putReg kk by_) := ⟨_, rfl⟩
          rw [← hy3] at HR2 hyok
          clear hy3
          go_upto_region 18 with (first | (go_at_call 33; apply Calls.mono; (focus (with_reducible (exact c10 _))); rintro e wn ⟨rfl, hr⟩; obtain rfl := hr.symm) | (go_at_call 33; apply Calls.mono; (focus (with_reducible (exact c8 _))); rintro e wn ⟨rfl, hr⟩; obtain rfl := hr.symm))
          obtain ⟨d0, d1, d2, d3, -⟩ := box4_facts HL2.out.box
          obtain ⟨g2, x2, cg2, hg2, hgN2, hgc2, hth2, -, -⟩ := HL2.out.thrAt (i := kn) (by omega)
          obtain rfl : g = g2 := by cases hg2; rfl
          clear b0 b1 b2 b3 f0 f1 f2 f3
          generalize wc.setCell ⟨E, kk, none⟩ (.int .i64 by_) = wd at *
          refine wp_region_chain (fun w' => w'.cell? ⟨D, 1, none⟩ = some (.slice (some ⟨g, 0, none⟩) s.thr.length q2) ∧ w'.rangeAt E 0 (tsC y3)) 9 rfl rfl (by kernel_rfl) (by kernel_rfl) rfl (by kernel_rfl) (by kernel_rfl) (by kernel_rfl) (fun hHeld => ?_) ⟨d1, HR2.out⟩
          simp only [List.take_succ_cons, List.take_zero]
          refine wpAnyH_take (i := 0) (v := ?_) rfl (by kernel_rfl) (by kernel_rfl) (by kernel_rfl) (fun _ _ _ h => h) (Or.inl ⟨by rfl, ?_⟩) (by assumption) ?_
          rotate_left
          · intro w hSw
            (try dsimp only at hSw)
            obtain ⟨hSa, hSb⟩ := hSw
            simp only [List.getElem_toArray, List.getElem_cons_zero, List.getElem_cons_succ]
            go_simp
            all_goals with_reducible rfl
          simp only [List.getElem_toArray, List.getElem_cons_zero, List.getElem_cons_succ, Act.put, List.setIfInBounds_toArray, List.set_cons_zero, List.set_cons_succ]
          refine wpAnyH_take (i := 1) (v := ?_) rfl (by kernel_rfl) (by kernel_rfl) (by kernel_rfl) (fun _ _ _ h => h) (Or.inl ⟨by rfl, ?_⟩) (by assumption) ?_
          rotate_left
          · intro w hSw
            (try dsimp only at hSw)
            obtain ⟨hSa, hSb⟩ := hSw
            simp only [List.getElem_toArray, List.getElem_cons_zero, List.getElem_cons_succ]
            go_simp
            all_goals with_reducible rfl
          simp only [List.getElem_toArray, List.getElem_cons_zero, List.getElem_cons_succ, Act.put, List.setIfInBounds_toArray, List.set_cons_zero, List.set_cons_succ]
          refine wpAnyH_take (i := 2) (v := ?_) rfl (by kernel_rfl) (by kernel_rfl) (by kernel_rfl) (fun _ _ _ h => h) (Or.inl ⟨by rfl, ?_⟩) (by assumption) ?_
          rotate_left
          · intro w hSw
            (try dsimp only at hSw)
            obtain ⟨hSa, hSb⟩ := hSw
            simp only [List.getElem_toArray, List.getElem_cons_zero, List.getElem_cons_succ]
            go_simp
            all_goals with_reducible rfl
          simp only [List.getElem_toArray, List.getElem_cons_zero, List.getElem_cons_succ, Act.put, List.setIfInBounds_toArray, List.set_cons_zero, List.set_cons_succ]
          refine wpAnyH_take (i := 3) (v := ?_) rfl (by kernel_rfl) (by kernel_rfl) (by kernel_rfl) (fun _ _ _ h => h) (Or.inl ⟨by rfl, ?_⟩) (by assumption) ?_
          rotate_left
          · intro w hSw
            (try dsimp only at hSw)
            obtain ⟨hSa, hSb⟩ := hSw
            simp only [List.getElem_toArray, List.getElem_cons_zero, List.getElem_cons_succ]
            go_simp
            all_goals with_reducible rfl
          simp only [List.getElem_toArray, List.getElem_cons_zero, List.getElem_cons_succ, Act.put, List.setIfInBounds_toArray, List.set_cons_zero, List.set_cons_succ]
          refine wpAnyH_take (i := 4) (v := ?_) rfl (by kernel_rfl) (by kernel_rfl) (by kernel_rfl) (fun _ _ _ h => h) (Or.inl ⟨by rfl, ?_⟩) (by assumption) ?_
          rotate_left
          · intro w hSw
            (try dsimp only at hSw)
            obtain ⟨hSa, hSb⟩ := hSw
            simp only [List.getElem_toArray, List.getElem_cons_zero, List.getElem_cons_succ]
            go_simp
            all_goals with_reducible rfl
          simp only [List.getElem_toArray, List.getElem_cons_zero, List.getElem_cons_succ, Act.put, List.setIfInBounds_toArray, List.set_cons_zero, List.set_cons_succ]
          refine wpAnyH_take (i := 5) (v := ?_) rfl (by kernel_rfl) (by kernel_rfl) (by kernel_rfl) (fun _ _ _ h => h) (Or.inl ⟨by rfl, ?_⟩) (by assumption) ?_
          rotate_left
          · intro w hSw
            (try dsimp only at hSw)
            obtain ⟨hSa, hSb⟩ := hSw
            simp only [List.getElem_toArray, List.getElem_cons_zero, List.getElem_cons_succ]
            go_simp
            all_goals with_reducible rfl
          simp only [List.getElem_toArray, List.getElem_cons_zero, List.getElem_cons_succ, Act.put, List.setIfInBounds_toArray, List.set_cons_zero, List.set_cons_succ]
          refine wpAnyH_take (i := 7) (v := .agg ([.int .i64 (y3.r 0), .int .i64 (y3.r 1), .int .i64 (y3.r 2), .int .i64 (y3.r 3), .int .i64 (y3.r 4), .int .i64 (y3.r 5), .int .i64 (y3.r 6), .int .i64 (y3.r 7), .bool y3.z, .bool y3.s, .bool y3.c, .bool y3.o, .int .i64 y3.pc, .int .i64 y3.phase, .int .i64 y3.latch, .int .i64 y3.status]).toArray) rfl (by kernel_rfl) (by kernel_rfl) (by kernel_rfl) (fun _ _ _ h => h) (yieldsIf_load_mid (by rfl) 38 _ (by rfl) E 0 rfl ([.int .i64 (y3.r 0), .int .i64 (y3.r 1), .int .i64 (y3.r 2), .int .i64 (y3.r 3), .int .i64 (y3.r 4), .int .i64 (y3.r 5), .int .i64 (y3.r 6), .int .i64 (y3.r 7), .bool y3.z, .bool y3.s, .bool y3.c, .bool y3.o, .int .i64 y3.pc, .int .i64 y3.phase, .int .i64 y3.latch, .int .i64 y3.status]) _ (fun w hw => hw.2) Tryd.underlying38 rfl (by kernel_rfl)) (by assumption) ?_
          simp only [List.getElem_toArray, List.getElem_cons_zero, List.getElem_cons_succ, Act.put, List.setIfInBounds_toArray, List.set_cons_zero, List.set_cons_succ]
          refine wpAnyH_ready (rs := [6]) (by kernel_rfl) (by simp) ?_
          refine AllReadyH.cons (i := 6) rfl (fun K hK => ?_) AllReadyH.nil
          rw [if_pos (by rfl)]
          go_simp
          go_at_call 33
          apply Calls.mono
          (focus (with_reducible (exact cQ _)))
          rintro e wn ⟨rfl, hr⟩
          obtain rfl := hr.symm
          refine hK.out _ _ hHeld (fun hHeld => ?_)
          clear hK
          (try simp only [List.getElem_toArray, List.getElem_cons_zero, List.getElem_cons_succ, Act.put, List.setIfInBounds_toArray, List.set_cons_zero, List.set_cons_succ])
          refine wpAnyH_take (i := 8) (v := ?_) rfl (by kernel_rfl) (by kernel_rfl) (by kernel_rfl) (fun _ _ _ h => h) (Or.inl ⟨by rfl, ?_⟩) (by assumption) ?_
          rotate_left
          · intro w hSw
            (try dsimp only at hSw)
            obtain ⟨hSa, hSb⟩ := hSw
            simp only [List.getElem_toArray, List.getElem_cons_zero, List.getElem_cons_succ]
            go_simp
            all_goals with_reducible rfl
          simp only [List.getElem_toArray, List.getElem_cons_zero, List.getElem_cons_succ, Act.put, List.setIfInBounds_toArray, List.set_cons_zero, List.set_cons_succ]
          refine wpAnyH_done (by kernel_rfl) ?_ _
          show Oper.wp _ _ _ _ _ _
          refine wp_store_mid 38 (.tmp 71) (.tmp 70) rfl g (kn * 16) _ rfl rfl hth2 (by kernel_rfl) (by kernel_rfl) ?_
          have HPT := Lib.hid (Loose.putThr (HL2.out.next (Later.drew (Later.refl _))) (Nat.le_refl _) (i := kn) (by omega) rfl y3 hyok)
          go_wp2
          go_meet
          exact HPT
        have n0 : (q == 0) = false := by simpa using c0
        have n1 : (q == 1) = false := by simpa using c1
        have n2 : (q == 2) = false := by simpa using c2
        have n3 : (q == 3) = false := by simpa using c3
        have n4 : (q == 4) = false := by simpa using c4
        have n5 : (q == 5) = false := by simpa using c5
        have ho : InOne E wc wc := InOne.refl _ _
        have HR2 : Hid (wc.rangeAt E 0 (tsC y)) := HRg
        have hyok : TS.Ok (y) := yok
        have HL2 := Lib.hid (Loose.offThr HL.out gE (fun g' e => by cases e; exact hgE) ho HE.out)
        obtain ⟨y3, hy3⟩ : ∃ y3, y3 = (y) := ⟨_, rfl⟩
        rw [← hy3] at HR2 hyok
        clear hy3
        go_upto_region 18 with (first | (go_at_call 33; apply Calls.mono; (focus (with_reducible (exact c10 _))); rintro e wn ⟨rfl, hr⟩; obtain rfl := hr.symm))
        obtain ⟨d0, d1, d2, d3, -⟩ := box4_facts HL2.out.box
        obtain ⟨g2, x2, cg2, hg2, hgN2, hgc2, hth2, -, -⟩ := HL2.out.thrAt (i := kn) (by omega)
        obtain rfl : g = g2 := by cases hg2; rfl
        clear b0 b1 b2 b3 f0 f1 f2 f3

        refine wp_region_chain (fun w' => w'.cell? ⟨D, 1, none⟩ = some (.slice (some ⟨g, 0, none⟩) s.thr.length q2) ∧ w'.rangeAt E 0 (tsC y3)) 9 rfl rfl (by kernel_rfl) (by kernel_rfl) rfl (by kernel_rfl) (by kernel_rfl) (by kernel_rfl) (fun hHeld => ?_) ⟨d1, HR2.out⟩
        simp only [List.take_succ_cons, List.take_zero]
        refine wpAnyH_take (i := 0) (v := ?_) rfl (by kernel_rfl) (by kernel_rfl) (by kernel_rfl) (fun _ _ _ h => h) (Or.inl ⟨by rfl, ?_⟩) (by assumption) ?_
        rotate_left
        · intro w hSw
          (try dsimp only at hSw)
          obtain ⟨hSa, hSb⟩ := hSw
          simp only [List.getElem_toArray, List.getElem_cons_zero, List.getElem_cons_succ]
          go_simp
          all_goals with_reducible rfl
        simp only [List.getElem_toArray, List.getElem_cons_zero, List.getElem_cons_succ, Act.put, List.setIfInBounds_toArray, List.set_cons_zero, List.set_cons_succ]
        refine wpAnyH_take (i := 1) (v := ?_) rfl (by kernel_rfl) (by kernel_rfl) (by kernel_rfl) (fun _ _ _ h => h) (Or.inl ⟨by rfl, ?_⟩) (by assumption) ?_
        rotate_left
        · intro w hSw
          (try dsimp only at hSw)
          obtain ⟨hSa, hSb⟩ := hSw
          simp only [List.getElem_toArray, List.getElem_cons_zero, List.getElem_cons_succ]
          go_simp
          all_goals with_reducible rfl
        simp only [List.getElem_toArray, List.getElem_cons_zero, List.getElem_cons_succ, Act.put, List.setIfInBounds_toArray, List.set_cons_zero, List.set_cons_succ]
        refine wpAnyH_take (i := 2) (v := ?_) rfl (by kernel_rfl) (by kernel_rfl) (by kernel_rfl) (fun _ _ _ h => h) (Or.inl ⟨by rfl, ?_⟩) (by assumption) ?_
        rotate_left
        · intro w hSw
          (try dsimp only at hSw)
          obtain ⟨hSa, hSb⟩ := hSw
          simp only [List.getElem_toArray, List.getElem_cons_zero, List.getElem_cons_succ]
          go_simp
          all_goals with_reducible rfl
        simp only [List.getElem_toArray, List.getElem_cons_zero, List.getElem_cons_succ, Act.put, List.setIfInBounds_toArray, List.set_cons_zero, List.set_cons_succ]
        refine wpAnyH_take (i := 3) (v := ?_) rfl (by kernel_rfl) (by kernel_rfl) (by kernel_rfl) (fun _ _ _ h => h) (Or.inl ⟨by rfl, ?_⟩) (by assumption) ?_
        rotate_left
        · intro w hSw
          (try dsimp only at hSw)
          obtain ⟨hSa, hSb⟩ := hSw
          simp only [List.getElem_toArray, List.getElem_cons_zero, List.getElem_cons_succ]
          go_simp
          all_goals with_reducible rfl
        simp only [List.getElem_toArray, List.getElem_cons_zero, List.getElem_cons_succ, Act.put, List.setIfInBounds_toArray, List.set_cons_zero, List.set_cons_succ]
        refine wpAnyH_take (i := 4) (v := ?_) rfl (by kernel_rfl) (by kernel_rfl) (by kernel_rfl) (fun _ _ _ h => h) (Or.inl ⟨by rfl, ?_⟩) (by assumption) ?_
        rotate_left
        · intro w hSw
          (try dsimp only at hSw)
          obtain ⟨hSa, hSb⟩ := hSw
          simp only [List.getElem_toArray, List.getElem_cons_zero, List.getElem_cons_succ]
          go_simp
          all_goals with_reducible rfl
        simp only [List.getElem_toArray, List.getElem_cons_zero, List.getElem_cons_succ, Act.put, List.setIfInBounds_toArray, List.set_cons_zero, List.set_cons_succ]
        refine wpAnyH_take (i := 5) (v := ?_) rfl (by kernel_rfl) (by kernel_rfl) (by kernel_rfl) (fun _ _ _ h => h) (Or.inl ⟨by rfl, ?_⟩) (by assumption) ?_
        rotate_left
        · intro w hSw
          (try dsimp only at hSw)
          obtain ⟨hSa, hSb⟩ := hSw
          simp only [List.getElem_toArray, List.getElem_cons_zero, List.getElem_cons_succ]
          go_simp
          all_goals with_reducible rfl
        simp only [List.getElem_toArray, List.getElem_cons_zero, List.getElem_cons_succ, Act.put, List.setIfInBounds_toArray, List.set_cons_zero, List.set_cons_succ]
        refine wpAnyH_take (i := 7) (v := .agg ([.int .i64 (y3.r 0), .int .i64 (y3.r 1), .int .i64 (y3.r 2), .int .i64 (y3.r 3), .int .i64 (y3.r 4), .int .i64 (y3.r 5), .int .i64 (y3.r 6), .int .i64 (y3.r 7), .bool y3.z, .bool y3.s, .bool y3.c, .bool y3.o, .int .i64 y3.pc, .int .i64 y3.phase, .int .i64 y3.latch, .int .i64 y3.status]).toArray) rfl (by kernel_rfl) (by kernel_rfl) (by kernel_rfl) (fun _ _ _ h => h) (yieldsIf_load_mid (by rfl) 38 _ (by rfl) E 0 rfl ([.int .i64 (y3.r 0), .int .i64 (y3.r 1), .int .i64 (y3.r 2), .int .i64 (y3.r 3), .int .i64 (y3.r 4), .int .i64 (y3.r 5), .int .i64 (y3.r 6), .int .i64 (y3.r 7), .bool y3.z, .bool y3.s, .bool y3.c, .bool y3.o, .int .i64 y3.pc, .int .i64 y3.phase, .int .i64 y3.latch, .int .i64 y3.status]) _ (fun w hw => hw.2) Tryd.underlying38 rfl (by kernel_rfl)) (by assumption) ?_
        simp only [List.getElem_toArray, List.getElem_cons_zero, List.getElem_cons_succ, Act.put, List.setIfInBounds_toArray, List.set_cons_zero, List.set_cons_succ]
        refine wpAnyH_ready (rs := [6]) (by kernel_rfl) (by simp) ?_
        refine AllReadyH.cons (i := 6) rfl (fun K hK => ?_) AllReadyH.nil
        rw [if_pos (by rfl)]
        go_simp
        go_at_call 33
        apply Calls.mono
        (focus (with_reducible (exact cQ _)))
        rintro e wn ⟨rfl, hr⟩
        obtain rfl := hr.symm
        refine hK.out _ _ hHeld (fun hHeld => ?_)
        clear hK
        (try simp only [List.getElem_toArray, List.getElem_cons_zero, List.getElem_cons_succ, Act.put, List.setIfInBounds_toArray, List.set_cons_zero, List.set_cons_succ])
        refine wpAnyH_take (i := 8) (v := ?_) rfl (by kernel_rfl) (by kernel_rfl) (by kernel_rfl) (fun _ _ _ h => h) (Or.inl ⟨by rfl, ?_⟩) (by assumption) ?_
        rotate_left
        · intro w hSw
          (try dsimp only at hSw)
          obtain ⟨hSa, hSb⟩ := hSw
          simp only [List.getElem_toArray, List.getElem_cons_zero, List.getElem_cons_succ]
          go_simp
          all_goals with_reducible rfl
        simp only [List.getElem_toArray, List.getElem_cons_zero, List.getElem_cons_succ, Act.put, List.setIfInBounds_toArray, List.set_cons_zero, List.set_cons_succ]
        refine wpAnyH_done (by kernel_rfl) ?_ _
        show Oper.wp _ _ _ _ _ _
        refine wp_store_mid 38 (.tmp 71) (.tmp 70) rfl g (kn * 16) _ rfl rfl hth2 (by kernel_rfl) (by kernel_rfl) ?_
        have HPT := Lib.hid (Loose.putThr (HL2.out.next (Later.drew (Later.refl _))) (Nat.le_refl _) (i := kn) (by omega) rfl y3 hyok)
        go_wp2
        go_meet
        exact HPT
  case rest =>
    clear HL0 HR1 b0 b1 b2 b3 f0 f1 f2 f3
    have HL := hcut
    clear hcut
    have c10 := fun w' => cP 10 (by omega) w'
    obtain ⟨b0, b1, b2, b3, f0, f1, f2, f3⟩ := box4_facts HL.out.box
    have hq0 : 0 ≤ pick how 10 := Int.emod_nonneg _ (by omega)
    have hq1 : pick how 10 < 10 := Int.emod_lt_of_pos _ (by omega)
    generalize pick how 10 = q at *
    obtain ⟨i1, hi1, hz1, hy1, hb1⟩ := info_parts infoCInt
    obtain ⟨i3, hi3, hz3, hy3, hb3⟩ := info_parts infoCEnt
    obtain ⟨i4, hi4, hz4, hy4, hb4⟩ := info_parts infoCBuf
    by_cases c6 : q = 6
    · subst c6
      have la := Later.alloc (Later.refl wc) (.cells #[.int .i64 by_] 2)
      have HLa := Lib.hid (HL.out.next la)
      obtain ⟨L, l1, l2, l3⟩ := HLa.out.mem
      go_wp2_with (first
        | (go_at_call 33; apply Calls.mono; (focus (with_reducible (exact c10 _))); rintro e wn ⟨rfl, hr⟩; obtain rfl := hr.symm)
        | (at_builtin; refine wpList_append_own _ rfl _ _ 22 rfl W.heap.size 2 i1 (.int .i64 0) 1 8 Tryd.underlying22 hi1 hz1 hy1 hb1 rfl (by decide) _ _ _ rfl l3 ⟨wc.heap.size, 0, none⟩ 1 1 [.int .i64 by_] rfl rfl (news_at2 _ _ _ rfl) (fun u hu => by simp at hu; subst hu; rfl) (by unfold maxLen; omega) (by omega) (by have := HLa.out.later.size; omega) ?_))
      intro v' w3 hown hgrow hnil
      obtain ⟨p9, q9, rfl⟩ := owns_slice hown
      obtain ⟨hbox, hx⟩ := Loose.putMem HLa.out gD (Nat.le_refl _) h3 l1 l2 l3 hgrow hown
      have hR := heap_later hx.later HR
      obtain ⟨x0, x1, x2, x3, y0, y1, y2, y3⟩ := box4_facts hbox
      obtain ⟨c0, c1, c2, c3, -⟩ := box4_facts hx.box
      obtain ⟨z0, z1, z2, z3, z4, z5, z6, z7⟩ := box4_facts hR
      obtain ⟨s', o1, o2, o3⟩ := hx.out hR (by have := HWs.out; omega) (by omega) (by omega) (by omega)
      have HO := Lib.hid (And.intro o1 (And.intro o2 o3))
      have HS4 := Lib.hid (put4_box hR (.slice p9 (s.mem.length + 1) q9) (.slice p2 s.thr.length q2) (.slice p3 s.bufs.length q3) (.int .i64 s.lock))
      have HLF := Lib.hid (put4_later (L0.trans hx.later) (Nat.le_succ w.heap.size) (.slice p9 (s.mem.length + 1) q9) (.slice p2 s.thr.length q2) (.slice p3 s.bufs.length q3) (.int .i64 s.lock))
      clear hx hbox hR o1 o2 o3
      go_wp2
      obtain ⟨r0, r1, r2, r3, -⟩ := box4_facts HS4.out
      unfold put4 at r0 r1 r2 r3
      refine bodyPost_ret (by simp [results, Tryd.results15, go_sem, r0, r1, r2, r3]; try rfl) rfl ?_
      exact ⟨_, _, _, s', by rw [HO.out.1], HO.out.2.1, HO.out.2.2, HLF.out⟩
    by_cases c7 : q = 7
    · subst c7
      have hx := HL.out.putLock gD by_ h3
      have hbox := HL.out.box
      have hR := heap_later hx.later HR
      obtain ⟨x0, x1, x2, x3, y0, y1, y2, y3⟩ := box4_facts hbox
      obtain ⟨c0, c1, c2, c3, -⟩ := box4_facts hx.box
      obtain ⟨z0, z1, z2, z3, z4, z5, z6, z7⟩ := box4_facts hR
      obtain ⟨s', o1, o2, o3⟩ := hx.out hR (by have := HWs.out; omega) (by omega) (by omega) (by omega)
      have HO := Lib.hid (And.intro o1 (And.intro o2 o3))
      have HS4 := Lib.hid (put4_box hR (.slice p1 s.mem.length q1) (.slice p2 s.thr.length q2) (.slice p3 s.bufs.length q3) (.int .i64 by_))
      have HLF := Lib.hid (put4_later (L0.trans hx.later) (Nat.le_succ w.heap.size) (.slice p1 s.mem.length q1) (.slice p2 s.thr.length q2) (.slice p3 s.bufs.length q3) (.int .i64 by_))
      clear hx hbox hR o1 o2 o3
      go_wp2_with (go_at_call 33; apply Calls.mono; (focus (with_reducible (exact c10 _))); rintro e wn ⟨rfl, hr⟩; obtain rfl := hr.symm)
      obtain ⟨r0, r1, r2, r3, -⟩ := box4_facts HS4.out
      unfold put4 at r0 r1 r2 r3
      refine bodyPost_ret (by simp [results, Tryd.results15, go_sem, r0, r1, r2, r3]; try rfl) rfl ?_
      exact ⟨_, _, _, s', by rw [HO.out.1], HO.out.2.1, HO.out.2.2, HLF.out⟩
    by_cases c8 : q = 8
    · subst c8
      have la := Later.alloc (Later.refl wc) (.cells #[.slice none 0 0] 39)
      have HLa := Lib.hid (HL.out.next la)
      obtain ⟨H, e1, e2, e3, -⟩ := HLa.out.bufs
      go_wp2_with (first
        | (go_at_call 33; apply Calls.mono; (focus (with_reducible (exact c10 _))); rintro e wn ⟨rfl, hr⟩; obtain rfl := hr.symm)
        | (at_builtin; refine wpList_append_own _ rfl _ _ 24 rfl W.heap.size 39 i4 (.slice none 0 0) 1 24 Tryd.underlying24 hi4 hz4 hy4 hb4 rfl (by decide) _ _ _ rfl e2 ⟨wc.heap.size, 0, none⟩ 1 1 [.slice none 0 0] rfl rfl (news_at2 _ _ _ rfl) (fun u hu => by simp at hu; subst hu; rfl) (by unfold maxLen; omega) (by omega) (by have := HLa.out.later.size; omega) ?_))
      intro v' w3 hown hgrow hnil
      obtain ⟨p9, q9, rfl⟩ := owns_slice hown
      obtain ⟨hbox, hx⟩ := Loose.putBuf HLa.out gD (Nat.le_refl _) e1 e2 e3 hgrow hown
      have hR := heap_later hx.later HR
      obtain ⟨x0, x1, x2, x3, y0, y1, y2, y3⟩ := box4_facts hbox
      obtain ⟨c0, c1, c2, c3, -⟩ := box4_facts hx.box
      obtain ⟨z0, z1, z2, z3, z4, z5, z6, z7⟩ := box4_facts hR
      obtain ⟨s', o1, o2, o3⟩ := hx.out hR (by have := HWs.out; omega) (by omega) (by omega) (by omega)
      have HO := Lib.hid (And.intro o1 (And.intro o2 o3))
      have HS4 := Lib.hid (put4_box hR (.slice p1 s.mem.length q1) (.slice p2 s.thr.length q2) (.slice p9 (s.bufs.length + 1) q9) (.int .i64 s.lock))
      have HLF := Lib.hid (put4_later (L0.trans hx.later) (Nat.le_succ w.heap.size) (.slice p1 s.mem.length q1) (.slice p2 s.thr.length q2) (.slice p9 (s.bufs.length + 1) q9) (.int .i64 s.lock))
      clear hx hbox hR o1 o2 o3
      go_wp2
      obtain ⟨r0, r1, r2, r3, -⟩ := box4_facts HS4.out
      unfold put4 at r0 r1 r2 r3
      refine bodyPost_ret (by simp [results, Tryd.results15, go_sem, r0, r1, r2, r3]; try rfl) rfl ?_
      exact ⟨_, _, _, s', by rw [HO.out.1], HO.out.2.1, HO.out.2.2, HLF.out⟩
    by_cases c9 : q = 9
    · subst c9
      by_cases h0 : 0 < s.bufs.length
      · obtain ⟨H, e1, e2, e3, e4⟩ := HL.out.bufs
        obtain ⟨hap, hfew⟩ := e4 rfl
        have cQ := fun w' => pick_any at_ (s.bufs.length : Int) h2 (by omega) w'
        have hk0 : 0 ≤ pick at_ (s.bufs.length : Int) := Int.emod_nonneg _ (by omega)
        have hk1 : pick at_ (s.bufs.length : Int) < (s.bufs.length : Int) := Int.emod_lt_of_pos _ (by omega)
        obtain ⟨kn, hkn⟩ : ∃ kn : Nat, pick at_ (s.bufs.length : Int) = (kn : Int) := ⟨_, (Int.toNat_of_nonneg hk0).symm⟩
        rw [hkn] at cQ hk0 hk1
        clear hkn
        have hkl : kn < H.length := by omega
        obtain ⟨u, hu⟩ : ∃ u, H[kn]? = some u := ⟨_, List.getElem?_eq_getElem hkl⟩
        obtain ⟨up, un, uc, rfl, hun⟩ := hfew u (List.mem_of_getElem? hu)
        obtain ⟨l, l1, l2, l3⟩ := e3 _ (List.mem_of_getElem? hu)
        obtain ⟨p', c', hsl⟩ := owns_slice l3
        simp only [Value.slice.injEq] at hsl
        obtain ⟨-, hlen, -⟩ := hsl
        subst hlen
        obtain ⟨gb, cb, rfl, -, -, hgb, y0, yf⟩ := own_slot e1 (OwnIn.of e2) hu
        have Hu : Hid (H[kn]? = some (.slice up l.length uc)) := hu
        have He1 : Hid (H.length = s.bufs.length) := e1
        have Hl2 : Hid (∀ x ∈ l, I64 x.1 ∧ I64 x.2) := l2
        have Hl3 : Hid (wc.ownsRow W.heap.size 41 2 (.slice up l.length uc) l.length (flatC entC l)) := l3
        have He2 : Hid (wc.ownsRow W.heap.size 39 1 (.slice (some ⟨gb, 0, none⟩) s.bufs.length q3) s.bufs.length H) := e2
        have He3 : Hid (∀ u ∈ H, OwnBuf wc W.heap.size u) := e3
        have Hap : Hid (Apart H) := hap
        clear hu e1 l2 l3 e2 e3 e4 hap hfew
        go_upto_region 29 with (first
          | (go_at_call 33; apply Calls.mono; (focus (with_reducible (exact c10 _))); rintro e wn ⟨rfl, hr⟩; obtain rfl := hr.symm)
          | (go_at_call 33; apply Calls.mono; (focus (with_reducible (exact cQ _))); rintro e wn ⟨rfl, hr⟩; obtain rfl := hr.symm))
        have LD : Later wc wc.drew := Later.drew (Later.refl wc)
        have L := LD
        refine wp_region_chain (fun w' => w'.cell? ⟨D, 2, none⟩ = some (.slice (some ⟨gb, 0, none⟩) s.bufs.length q3) ∧ w'.cell? ⟨gb, kn, none⟩ = some (.slice up l.length uc)) 14 rfl rfl (by kernel_rfl) (by kernel_rfl) rfl (by kernel_rfl) (by kernel_rfl) (by kernel_rfl) (fun hHeld => ?_) ⟨cell_later b2 LD, cell_later y0 LD⟩
        simp only [List.take_succ_cons, List.take_zero]
        refine wpAnyH_take (i := 0) (v := ?_) rfl (by kernel_rfl) (by kernel_rfl) (by kernel_rfl) (fun _ _ _ h => h) (Or.inl ⟨by rfl, ?_⟩) (by assumption) ?_
        rotate_left
        · intro w hSw
          (try dsimp only at hSw)
          obtain ⟨hSa, hSb⟩ := hSw
          simp only [List.getElem_toArray, List.getElem_cons_zero, List.getElem_cons_succ]
          go_simp
          all_goals with_reducible rfl
        simp only [List.getElem_toArray, List.getElem_cons_zero, List.getElem_cons_succ, Act.put, List.setIfInBounds_toArray, List.set_cons_zero, List.set_cons_succ]
        refine wpAnyH_take (i := 1) (v := ?_) rfl (by kernel_rfl) (by kernel_rfl) (by kernel_rfl) (fun _ _ _ h => h) (Or.inl ⟨by rfl, ?_⟩) (by assumption) ?_
        rotate_left
        · intro w hSw
          (try dsimp only at hSw)
          obtain ⟨hSa, hSb⟩ := hSw
          simp only [List.getElem_toArray, List.getElem_cons_zero, List.getElem_cons_succ]
          go_simp
          all_goals with_reducible rfl
        simp only [List.getElem_toArray, List.getElem_cons_zero, List.getElem_cons_succ, Act.put, List.setIfInBounds_toArray, List.set_cons_zero, List.set_cons_succ]
        refine wpAnyH_take (i := 2) (v := ?_) rfl (by kernel_rfl) (by kernel_rfl) (by kernel_rfl) (fun _ _ _ h => h) (Or.inl ⟨by rfl, ?_⟩) (by assumption) ?_
        rotate_left
        · intro w hSw
          (try dsimp only at hSw)
          obtain ⟨hSa, hSb⟩ := hSw
          simp only [List.getElem_toArray, List.getElem_cons_zero, List.getElem_cons_succ]
          go_simp
          all_goals with_reducible rfl
        simp only [List.getElem_toArray, List.getElem_cons_zero, List.getElem_cons_succ, Act.put, List.setIfInBounds_toArray, List.set_cons_zero, List.set_cons_succ]
        refine wpAnyH_take (i := 3) (v := ?_) rfl (by kernel_rfl) (by kernel_rfl) (by kernel_rfl) (fun _ _ _ h => h) (Or.inl ⟨by rfl, ?_⟩) (by assumption) ?_
        rotate_left
        · intro w hSw
          (try dsimp only at hSw)
          obtain ⟨hSa, hSb⟩ := hSw
          simp only [List.getElem_toArray, List.getElem_cons_zero, List.getElem_cons_succ]
          go_simp
          all_goals with_reducible rfl
        simp only [List.getElem_toArray, List.getElem_cons_zero, List.getElem_cons_succ, Act.put, List.setIfInBounds_toArray, List.set_cons_zero, List.set_cons_succ]
        refine wpAnyH_take (i := 4) (v := ?_) rfl (by kernel_rfl) (by kernel_rfl) (by kernel_rfl) (fun _ _ _ h => h) (Or.inl ⟨by rfl, ?_⟩) (by assumption) ?_
        rotate_left
        · intro w hSw
          (try dsimp only at hSw)
          obtain ⟨hSa, hSb⟩ := hSw
          simp only [List.getElem_toArray, List.getElem_cons_zero, List.getElem_cons_succ]
          go_simp
          all_goals with_reducible rfl
        simp only [List.getElem_toArray, List.getElem_cons_zero, List.getElem_cons_succ, Act.put, List.setIfInBounds_toArray, List.set_cons_zero, List.set_cons_succ]
        refine wpAnyH_take (i := 5) (v := ?_) rfl (by kernel_rfl) (by kernel_rfl) (by kernel_rfl) (fun _ _ _ h => h) (Or.inl ⟨by rfl, ?_⟩) (by assumption) ?_
        rotate_left
        · intro w hSw
          (try dsimp only at hSw)
          obtain ⟨hSa, hSb⟩ := hSw
          simp only [List.getElem_toArray, List.getElem_cons_zero, List.getElem_cons_succ]
          go_simp
          all_goals with_reducible rfl
        simp only [List.getElem_toArray, List.getElem_cons_zero, List.getElem_cons_succ, Act.put, List.setIfInBounds_toArray, List.set_cons_zero, List.set_cons_succ]
        refine wpAnyH_take (i := 6) (v := ?_) rfl (by kernel_rfl) (by kernel_rfl) (by kernel_rfl) (fun _ _ _ h => h) (Or.inl ⟨by rfl, ?_⟩) (by assumption) ?_
        rotate_left
        · intro w hSw
          (try dsimp only at hSw)
          obtain ⟨hSa, hSb⟩ := hSw
          simp only [List.getElem_toArray, List.getElem_cons_zero, List.getElem_cons_succ]
          go_simp
          all_goals with_reducible rfl
        simp only [List.getElem_toArray, List.getElem_cons_zero, List.getElem_cons_succ, Act.put, List.setIfInBounds_toArray, List.set_cons_zero, List.set_cons_succ]
        refine wpAnyH_take (i := 7) (v := ?_) rfl (by kernel_rfl) (by kernel_rfl) (by kernel_rfl) (fun _ _ _ h => h) (Or.inl ⟨by rfl, ?_⟩) (by assumption) ?_
        rotate_left
        · intro w hSw
          (try dsimp only at hSw)
          obtain ⟨hSa, hSb⟩ := hSw
          simp only [List.getElem_toArray, List.getElem_cons_zero, List.getElem_cons_succ]
          go_simp
          all_goals with_reducible rfl
        simp only [List.getElem_toArray, List.getElem_cons_zero, List.getElem_cons_succ, Act.put, List.setIfInBounds_toArray, List.set_cons_zero, List.set_cons_succ]
        refine wpAnyH_take (i := 8) (v := ?_) rfl (by kernel_rfl) (by kernel_rfl) (by kernel_rfl) (fun _ _ _ h => h) (Or.inl ⟨by rfl, ?_⟩) (by assumption) ?_
        rotate_left
        · intro w hSw
          (try dsimp only at hSw)
          obtain ⟨hSa, hSb⟩ := hSw
          simp only [List.getElem_toArray, List.getElem_cons_zero, List.getElem_cons_succ]
          go_simp
          all_goals with_reducible rfl
        simp only [List.getElem_toArray, List.getElem_cons_zero, List.getElem_cons_succ, Act.put, List.setIfInBounds_toArray, List.set_cons_zero, List.set_cons_succ]
        refine wpAnyH_take (i := 9) (v := ?_) rfl (by kernel_rfl) (by kernel_rfl) (by kernel_rfl) (fun _ _ _ h => h) (Or.inl ⟨by rfl, ?_⟩) (by assumption) ?_
        rotate_left
        · intro w hSw
          (try dsimp only at hSw)
          obtain ⟨hSa, hSb⟩ := hSw
          simp only [List.getElem_toArray, List.getElem_cons_zero, List.getElem_cons_succ]
          go_simp
          all_goals with_reducible rfl
        simp only [List.getElem_toArray, List.getElem_cons_zero, List.getElem_cons_succ, Act.put, List.setIfInBounds_toArray, List.set_cons_zero, List.set_cons_succ]
        refine wpAnyH_take (i := 10) (v := ?_) rfl (by kernel_rfl) (by kernel_rfl) (by kernel_rfl) (fun _ _ _ h => h) (Or.inl ⟨by rfl, ?_⟩) (by assumption) ?_
        rotate_left
        · intro w hSw
          (try dsimp only at hSw)
          obtain ⟨hSa, hSb⟩ := hSw
          simp only [List.getElem_toArray, List.getElem_cons_zero, List.getElem_cons_succ]
          go_simp
          all_goals with_reducible rfl
        simp only [List.getElem_toArray, List.getElem_cons_zero, List.getElem_cons_succ, Act.put, List.setIfInBounds_toArray, List.set_cons_zero, List.set_cons_succ]
        refine wpAnyH_ready (rs := [11]) (by kernel_rfl) (by simp) ?_
        refine AllReadyH.cons (i := 11) rfl (fun K hK => ?_) AllReadyH.nil
        rw [if_pos (by rfl)]
        go_simp
        have la := Later.alloc (Later.refl wc.drew) (.cells #[.int .i64 by_, .int .i64 by_] 41)
        have zf := at_new wc.drew (.cells #[.int .i64 by_, .int .i64 by_] 41)
        have L2 := LD.trans la
        have HLa := Lib.hid (HL.out.next L2)
        have Hx3 := Lib.hid (ownsC_later Hl3.out L2)
        have ZSZ : W.heap.size ≤ (wc.drew.alloc (.cells #[.int .i64 by_, .int .i64 by_] 41)).heap.size := (HL.out.later.trans L2).size
        refine hK.out _ _ ⟨cell_later b2 L2, cell_later y0 L2⟩ (fun hHeld => ?_)
        clear hK
        (try simp only [List.getElem_toArray, List.getElem_cons_zero, List.getElem_cons_succ, Act.put, List.setIfInBounds_toArray, List.set_cons_zero, List.set_cons_succ])
        refine wpAnyH_ready (rs := [12]) (by kernel_rfl) (by simp) ?_
        refine AllReadyH.cons (i := 12) rfl (fun K hK => ?_) AllReadyH.nil
        rw [if_pos (by rfl)]
        refine wp_append_own _ (.tmp 111) (.tmp 115) 39 rfl W.heap.size 41 i3 (.agg #[.int .i64 0, .int .i64 0]) 2 16 Tryd.underlying39 hi3 hz3 hy3 hb3 rfl (by decide) (.slice up l.length uc) l.length (flatC entC l) rfl Hx3.out ⟨wc.drew.heap.size, 0, none⟩ 1 1 [.int .i64 by_, .int .i64 by_] rfl rfl (news_at2 _ _ _ rfl) (fun u hu => by simp at hu; rcases hu with rfl | rfl <;> rfl) (by unfold maxLen; omega) (by omega) ZSZ ?_
        intro v' w3 hown hgrow _
        obtain ⟨p9, q9, rfl⟩ := owns_slice hown
        obtain ⟨g', hg', u0, uf, hxb, hx⟩ := Loose.putEnt HLa.out (Nat.le_refl _) He1.out (ownsC_later He2.out L2) (fun u hu => (He3.out u hu).later L2) Hu.out (by omega) Hl2.out Hx3.out (e := (by_, by_)) ⟨h3, h3⟩ hgrow hown Hap.out
        obtain rfl : gb = g' := by cases hg'; rfl
        refine hK.out _ _ ⟨(box4_facts hxb).2.2.1, u0⟩ (fun hHeld => ?_)
        clear hK
        (try simp only [List.getElem_toArray, List.getElem_cons_zero, List.getElem_cons_succ, Act.put, List.setIfInBounds_toArray, List.set_cons_zero, List.set_cons_succ])
        refine wpAnyH_take (i := 13) (v := ?_) rfl (by kernel_rfl) (by kernel_rfl) (by kernel_rfl) (fun _ _ _ h => h) (Or.inl ⟨by rfl, ?_⟩) (by assumption) ?_
        rotate_left
        · intro w hSw
          simp only [List.getElem_toArray, List.getElem_cons_zero, List.getElem_cons_succ]
          go_simp
          all_goals with_reducible rfl
        simp only [List.getElem_toArray, List.getElem_cons_zero, List.getElem_cons_succ, Act.put, List.setIfInBounds_toArray, List.set_cons_zero, List.set_cons_succ]
        refine wpAnyH_done (by kernel_rfl) ?_ _
        have hbox := hxb
        have hR := heap_later hx.later HR
        obtain ⟨x0, x1, x2, x3, y0, y1, y2, y3⟩ := box4_facts hbox
        obtain ⟨c0, c1, c2, c3, -⟩ := box4_facts hx.box
        obtain ⟨z0, z1, z2, z3, z4, z5, z6, z7⟩ := box4_facts hR
        obtain ⟨s', o1, o2, o3⟩ := hx.out hR (by have := HWs.out; omega) (by omega) (by omega) (by omega)
        have HO := Lib.hid (And.intro o1 (And.intro o2 o3))
        have HS4 := Lib.hid (put4_box hR (.slice p1 s.mem.length q1) (.slice p2 s.thr.length q2) (.slice (some ⟨gb, 0, none⟩) s.bufs.length q3) (.int .i64 s.lock))
        have HLF := Lib.hid (put4_later (L0.trans hx.later) (Nat.le_succ w.heap.size) (.slice p1 s.mem.length q1) (.slice p2 s.thr.length q2) (.slice (some ⟨gb, 0, none⟩) s.bufs.length q3) (.int .i64 s.lock))
        clear hx hbox hR o1 o2 o3
        show Oper.wp _ _ _ _ _ _
        go_simp
        go_wp2
        obtain ⟨r0, r1, r2, r3, -⟩ := box4_facts HS4.out
        unfold put4 at r0 r1 r2 r3
        refine bodyPost_ret (by simp [results, Tryd.results15, go_sem, r0, r1, r2, r3]; try rfl) rfl ?_
        exact ⟨_, _, _, s', by rw [HO.out.1], HO.out.2.1, HO.out.2.2, HLF.out⟩
      · have n0 : ¬ (0 : Int) < s.bufs.length := by omega
        have hx := HL.out
        have hbox := HL.out.box
        have hR := heap_later hx.later HR
        obtain ⟨x0, x1, x2, x3, y0, y1, y2, y3⟩ := box4_facts hbox
        obtain ⟨c0, c1, c2, c3, -⟩ := box4_facts hx.box
        obtain ⟨z0, z1, z2, z3, z4, z5, z6, z7⟩ := box4_facts hR
        obtain ⟨s', o1, o2, o3⟩ := hx.out hR (by have := HWs.out; omega) (by omega) (by omega) (by omega)
        have HO := Lib.hid (And.intro o1 (And.intro o2 o3))
        have HS4 := Lib.hid (put4_box hR (.slice p1 s.mem.length q1) (.slice p2 s.thr.length q2) (.slice p3 s.bufs.length q3) (.int .i64 s.lock))
        have HLF := Lib.hid (put4_later (L0.trans hx.later) (Nat.le_succ w.heap.size) (.slice p1 s.mem.length q1) (.slice p2 s.thr.length q2) (.slice p3 s.bufs.length q3) (.int .i64 s.lock))
        clear hx hbox hR o1 o2 o3
        go_wp2_with (go_at_call 33; apply Calls.mono; (focus (with_reducible (exact c10 _))); rintro e wn ⟨rfl, hr⟩; obtain rfl := hr.symm)
        obtain ⟨r0, r1, r2, r3, -⟩ := box4_facts HS4.out
        unfold put4 at r0 r1 r2 r3
        refine bodyPost_ret (by simp [results, Tryd.results15, go_sem, r0, r1, r2, r3]; try rfl) rfl ?_
        exact ⟨_, _, _, s', by rw [HO.out.1], HO.out.2.1, HO.out.2.2, HLF.out⟩
    have n6 : (q == 6) = false := by simpa using c6
    have n7 : (q == 7) = false := by simpa using c7
    have n8 : (q == 8) = false := by simpa using c8
    have n9 : (q == 9) = false := by simpa using c9
    have hx := HL.out
    have hbox := HL.out.box
    clear c6 c7 c8 c9
    have hR := heap_later hx.later HR
    obtain ⟨x0, x1, x2, x3, y0, y1, y2, y3⟩ := box4_facts hbox
    obtain ⟨c0, c1, c2, c3, -⟩ := box4_facts hx.box
    obtain ⟨z0, z1, z2, z3, z4, z5, z6, z7⟩ := box4_facts hR
    obtain ⟨s', o1, o2, o3⟩ := hx.out hR (by have := HWs.out; omega) (by omega) (by omega) (by omega)
    have HO := Lib.hid (And.intro o1 (And.intro o2 o3))
    have HS4 := Lib.hid (put4_box hR (.slice p1 s.mem.length q1) (.slice p2 s.thr.length q2) (.slice p3 s.bufs.length q3) (.int .i64 s.lock))
    have HLF := Lib.hid (put4_later (L0.trans hx.later) (Nat.le_succ w.heap.size) (.slice p1 s.mem.length q1) (.slice p2 s.thr.length q2) (.slice p3 s.bufs.length q3) (.int .i64 s.lock))
    clear hx hbox hR o1 o2 o3
    go_wp2_with (go_at_call 33; apply Calls.mono; (focus (with_reducible (exact c10 _))); rintro e wn ⟨rfl, hr⟩; obtain rfl := hr.symm)
    obtain ⟨r0, r1, r2, r3, -⟩ := box4_facts HS4.out
    unfold put4 at r0 r1 r2 r3
    refine bodyPost_ret (by simp [results, Tryd.results15, go_sem, r0, r1, r2, r3]; try rfl) rfl ?_
    exact ⟨_, _, _, s', by rw [HO.out.1], HO.out.2.1, HO.out.2.2, HLF.out⟩

end Go.Proofs.YtpnbpjhoilibcaaDoor
