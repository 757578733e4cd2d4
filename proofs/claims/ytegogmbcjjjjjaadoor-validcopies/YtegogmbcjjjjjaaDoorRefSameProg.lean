/-
  What the document's own SameProg returns of two programs: whether all that they have is the same. Nothing that was in memory turns. Conditions: the programs lie in memory.
-/
import Derived.Test.YtegogmbcjjjjjaaDoorSameProg
namespace Go.Proofs.YtegogmbcjjjjjaaDoor
open Go.RowKit
set_option linter.unusedVariables false
set_option linter.unusedSimpArgs false

theorem neT_true {s t : ByteArray} (h : ¬ s = t) : (s.toList != t.toList) = true := bytes_ne h
theorem neT_false {s t : ByteArray} (h : s = t) : (s.toList != t.toList) = false := by rw [h]; simp

set_option maxRecDepth 1000000 in
set_option maxHeartbeats 8000000 in
theorem refSameProg_any (u v u' v' : Value) (S S' : Syms) (P P' : List Thr) (w : World) (hS : SymRow w u S) (hP : ThrRow w v P) (hS' : SymRow w u' S') (hP' : ThrRow w v' P') :
    Calls Tryd.prog 9 #[.agg #[u, v], .agg #[u', v']] w fun e w' => e = .returned (.bool (progEq S P S' P')) ∧ Later w w' := by
  obtain ⟨p, cap, rfl, h1, h2⟩ := hS.slice
  obtain ⟨q, dap, rfl, h3, h4⟩ := hP.slice
  obtain ⟨p', cap', rfl, h1', h2'⟩ := hS'.slice
  obtain ⟨q', dap', rfl, h3', h4'⟩ := hP'.slice
  have LL := Later.alloc (Later.alloc (Later.refl w) (.cells #[.slice p S.length cap, .slice q P.length dap] 25)) (.cells #[.slice p' S'.length cap', .slice q' P'.length dap'] 25)
  obtain ⟨HB, HC⟩ := two_new2 w (.cells #[.slice p S.length cap, .slice q P.length dap] 25) (.cells #[.slice p' S'.length cap', .slice q' P'.length dap'] 25)
  obtain ⟨a0, a1, -⟩ := box2_facts HB
  obtain ⟨b0, b1, -⟩ := box2_facts HC
  have HS : Hid (SymRow w (.slice p S.length cap) S) := hS
  have HP : Hid (ThrRow w (.slice q P.length dap) P) := hP
  have HS' : Hid (SymRow w (.slice p' S'.length cap') S') := hS'
  have HP' : Hid (ThrRow w (.slice q' P'.length dap') P') := hP'
  have HR : Hid (progEq S P S' P' = (listEq symEq S S' && listEq thrEq P P')) := rfl
  have hsz : (w.alloc (.cells #[.slice p S.length cap, .slice q P.length dap] 25)).heap.size = w.heap.size + 1 := by simp
  generalize progEq S P S' P' = r at *
  unfold maxLen at h2 h4 h2' h4'
  clear hS hP hS' hP' HB HC
  go_enter Tryd.func9, Tryd.ntmps9
  go_upto_region 1 with (fail)
  generalize (w.alloc (.cells #[.slice p S.length cap, .slice q P.length dap] 25)).alloc (.cells #[.slice p' S'.length cap', .slice q' P'.length dap'] 25) = W at *
  clear hsz
  by_cases hl1 : S.length = S'.length
  rotate_left
  · have e0 : ((S.length : Int) != (S'.length : Int)) = true := by simp; omega
    have HE : Hid (r = false) := by show _ = _; rw [HR.out, listEq_len hl1]; rfl
    go_wp2
    go_ret
    exact ⟨ret_bool HE.out.symm, LL⟩
  by_cases hl2 : P.length = P'.length
  rotate_left
  · have e0 : ((S.length : Int) != (S'.length : Int)) = false := by simp; omega
    have e1 : ((P.length : Int) != (P'.length : Int)) = true := by simp; omega
    have HE : Hid (r = false) := by show _ = _; rw [HR.out, listEq_len hl2]; simp
    go_wp2
    go_ret
    exact ⟨ret_bool HE.out.symm, LL⟩
  have e0 : ((S.length : Int) != (S'.length : Int)) = false := by simp; omega
  have e1 : ((P.length : Int) != (P'.length : Int)) = false := by simp; omega
  have HL1 : Hid (S.length = S'.length) := hl1
  have HL2 : Hid (P.length = P'.length) := hl2
  clear hl1 hl2
  go_wp2
  go_loopw [5] (fun vi wr => ∃ i : Nat, vi = .int .i64 i ∧ i ≤ S.length ∧ Later W wr ∧ Hid (∀ (j : Nat) a b, j < i → S[j]? = some a → S'[j]? = some b → symEq a b = true)) (fun vi _ => S.length - (intOf vi).toNat)
  case atStart => exact ⟨0, rfl, Nat.zero_le _, Later.refl _, fun j a b hj => by omega⟩
  case round =>
    obtain ⟨i, rfl, hi, hlw, hN⟩ := hrel
    have c0 := cell_later a0 hlw
    have c1 := cell_later b0 hlw
    by_cases hlt : i < S.length
    · have hlm := HL1.out
      obtain ⟨⟨a, L⟩, ha⟩ : ∃ a, S[i]? = some a := ⟨_, List.getElem?_eq_getElem hlt⟩
      obtain ⟨⟨b, M⟩, hb⟩ : ∃ b, S'[i]? = some b := ⟨_, List.getElem?_eq_getElem (by omega)⟩
      obtain ⟨g, o, rfl, -, -, hin, x0, x1, x2⟩ := (SymRow.kept HS.out (LL.trans hlw).kept).get ha
      obtain ⟨g', o', rfl, -, -, hin', y0, y1, y2⟩ := (SymRow.kept HS'.out (LL.trans hlw).kept).get hb
      have cI := fun w' h h' => refSameInit_any a.init b.init L M w' h h'
      have HA : Hid (S[i]? = some (a, L)) := ha
      have HBB : Hid (S'[i]? = some (b, M)) := hb
      have hmI : (i : Int) < S'.length := by omega
      have HQ : Hid (symEq (a, L) (b, M) = (decide (a.name = b.name) && decide (a.size = b.size) && decide (L = M))) := rfl
      clear ha hb hlm
      go_upto_region 6 with (fail)
      have ne : Nonempty (After wr) := ⟨⟨wr, Later.refl wr⟩⟩
      have m0 := fun z : After wr => cell_after c0 z
      have m1 := fun z : After wr => cell_after c1 z
      have n0 := fun z : After wr => cell_after x0 z
      have n1 := fun z : After wr => cell_after x1 z
      have n2 := fun z : After wr => cell_after x2 z
      have o0 := fun z : After wr => cell_after y0 z
      have o1 := fun z : After wr => cell_after y1 z
      have o2 := fun z : After wr => cell_after y2 z
      have tt := fun z : After wr => hin.kept z.later.kept
      have tt' := fun z : After wr => hin'.kept z.later.kept
      clear hin hin' c0 c1 x0 x1 x2 y0 y1 y2
      by_cases hn : a.name = b.name
      rotate_left
      · have g1 := neT_true hn
        have g1b := eqT_false hn
        have HE : Hid (r = false) := by show _ = _; rw [HR.out, listEq_not HA.out HBB.out (by rw [HQ.out]; simp [hn])]; rfl
        clear hn HS HS' HP HP'
        refine wp_region_later (by kernel_rfl) (by kernel_rfl) ?_
        repeat (first | go_big_quiet_step (((go_at_call 22; with_reducible (exact Calls.after_of (cI _ (tt _) (tt' _)))))) | quiet_step (((go_at_call 22; with_reducible (exact Calls.after_of (cI _ (tt _) (tt' _)))))))
        refine wpQuiet_nil ?_
        intro _ hw'
        obtain ⟨z, hw''⟩ := hw'
        subst hw''
        clear m0 m1 n0 n1 n2 o0 o1 o2 tt tt'
        go_wp2
        go_ret
        exact ⟨ret_bool HE.out.symm, LL.trans (hlw.trans z.later)⟩
      have g1 := neT_false hn
      have g1b := eqT_true hn
      by_cases hs : a.size = b.size
      rotate_left
      · have g2 : (a.size != b.size) = true := by simpa using hs
        have g2b : (a.size == b.size) = false := by simpa using hs
        have HE : Hid (r = false) := by show _ = _; rw [HR.out, listEq_not HA.out HBB.out (by rw [HQ.out]; simp [hs])]; rfl
        clear hn hs HS HS' HP HP'
        refine wp_region_later (by kernel_rfl) (by kernel_rfl) ?_
        repeat (first | go_big_quiet_step (((go_at_call 22; with_reducible (exact Calls.after_of (cI _ (tt _) (tt' _)))))) | quiet_step (((go_at_call 22; with_reducible (exact Calls.after_of (cI _ (tt _) (tt' _)))))))
        refine wpQuiet_nil ?_
        intro _ hw'
        obtain ⟨z, hw''⟩ := hw'
        subst hw''
        clear m0 m1 n0 n1 n2 o0 o1 o2 tt tt'
        go_wp2
        go_ret
        exact ⟨ret_bool HE.out.symm, LL.trans (hlw.trans z.later)⟩
      have g2 : (a.size != b.size) = false := by simpa using hs
      have g2b : (a.size == b.size) = true := by simpa using hs
      have hQ' : symEq (a, L) (b, M) = decide (L = M) := by rw [HQ.out]; simp [hn, hs]
      have HQ' : Hid (symEq (a, L) (b, M) = decide (L = M)) := hQ'
      clear hn hs hQ'
      cases hd : decide (L = M) with
      | false =>
        rw [hd] at cI
        have HE : Hid (r = false) := by show _ = _; rw [HR.out, listEq_not HA.out HBB.out (by rw [HQ'.out, hd])]; rfl
        clear hd HS HS' HP HP'
        refine wp_region_later (by kernel_rfl) (by kernel_rfl) ?_
        repeat (first | go_big_quiet_step (((go_at_call 22; with_reducible (exact Calls.after_of (cI _ (tt _) (tt' _)))))) | quiet_step (((go_at_call 22; with_reducible (exact Calls.after_of (cI _ (tt _) (tt' _)))))))
        refine wpQuiet_nil ?_
        intro _ hw'
        obtain ⟨z, hw''⟩ := hw'
        subst hw''
        clear m0 m1 n0 n1 n2 o0 o1 o2 tt tt'
        go_wp2
        go_ret
        exact ⟨ret_bool HE.out.symm, LL.trans (hlw.trans z.later)⟩
      | true =>
        rw [hd] at cI
        have HE : Hid (symEq (a, L) (b, M) = true) := by show _ = _; rw [HQ'.out, hd]
        clear hd HS HS' HP HP'
        refine wp_region_later (by kernel_rfl) (by kernel_rfl) ?_
        repeat (first | go_big_quiet_step (((go_at_call 22; with_reducible (exact Calls.after_of (cI _ (tt _) (tt' _)))))) | quiet_step (((go_at_call 22; with_reducible (exact Calls.after_of (cI _ (tt _) (tt' _)))))))
        refine wpQuiet_nil ?_
        intro _ hw'
        obtain ⟨z, hw''⟩ := hw'
        subst hw''
        clear m0 m1 n0 n1 n2 o0 o1 o2 tt tt'
        go_wp2
        go_roundw
        case rel => exact ⟨i + 1, by go_num, by omega, hlw.trans z.later, fun j x y hj hx hy => by
          rcases Nat.lt_succ_iff_lt_or_eq.1 hj with h | rfl
          · exact hN.out j x y h hx hy
          · rw [HA.out] at hx; rw [HBB.out] at hy; cases hx; cases hy; exact HE.out⟩
        case measure => simp [intOf]; omega
    · have hSt : listEq symEq S S' = true := listEq_all HL1.out (fun j a b ha hb => hN.out j a b (by have := (List.getElem?_eq_some_iff.1 ha).1; omega) ha hb)
      have HR2 : Hid (r = listEq thrEq P P') := by show _ = _; rw [HR.out, hSt]; rfl
      have LR := LL.trans hlw
      have d1 := cell_later a1 hlw
      have d2 := cell_later b1 hlw
      clear hSt hN HR a0 a1 b0 b1 HS HS'
      go_wp2
      obtain ⟨w6, rfl⟩ : ∃ w6, w6 = wr := ⟨_, rfl⟩
      go_loopw [6] (fun vi wr => ∃ i : Nat, vi = .int .i64 i ∧ i ≤ P.length ∧ Later w6 wr ∧ Hid (∀ (j : Nat) a b, j < i → P[j]? = some a → P'[j]? = some b → thrEq a b = true)) (fun vi _ => P.length - (intOf vi).toNat)
      case atStart => exact ⟨0, rfl, Nat.zero_le _, Later.refl _, fun j a b hj => by omega⟩
      case round =>
        obtain ⟨t, rfl, htl, hlx, hN⟩ := hrel
        have e5 := cell_later d1 hlx
        have e6 := cell_later d2 hlx
        by_cases hlt : t < P.length
        · have hlm := HL2.out
          obtain ⟨T, ha⟩ : ∃ a, P[t]? = some a := ⟨_, List.getElem?_eq_getElem hlt⟩
          obtain ⟨U, hb⟩ : ∃ b, P'[t]? = some b := ⟨_, List.getElem?_eq_getElem (by omega)⟩
          obtain ⟨g, o, tv, rfl, hin, x0⟩ := (ThrRow.kept HP.out (LR.trans hlx).kept).get ha
          obtain ⟨g', o', tv', rfl, hin', y0⟩ := (ThrRow.kept HP'.out (LR.trans hlx).kept).get hb
          obtain ⟨tp, tcap, rfl, t1, t2⟩ := RowIn.slice hin
          obtain ⟨tp', tcap', rfl, t1', t2'⟩ := RowIn.slice hin'
          unfold maxLen at t2 t2'
          have HT : Hid (InsRow wr (.slice tp T.length tcap) T) := hin
          have HU : Hid (InsRow wr (.slice tp' U.length tcap') U) := hin'
          have HA : Hid (P[t]? = some T) := ha
          have HBB : Hid (P'[t]? = some U) := hb
          have hmI : (t : Int) < P'.length := by omega
          clear ha hb hlm hin hin' HP HP'
          go_upto_region 11 with (fail)
          go_quiet (fail)
          have LQ := Later.drewN (Later.refl wr) nq
          have hT1 := InsRow.kept HT.out LQ.kept
          have hU1 := InsRow.kept HU.out LQ.kept
          generalize wr.drewN nq = W5 at *
          have HT1 : Hid (InsRow W5 (.slice tp T.length tcap) T) := hT1
          have HU1 : Hid (InsRow W5 (.slice tp' U.length tcap') U) := hU1
          clear HT HU hT1 hU1 x0 y0 e5 e6
          by_cases hl3 : T.length = U.length
          rotate_left
          · have e0 : ((T.length : Int) != (U.length : Int)) = true := by simp; omega
            have HE : Hid (r = false) := by show _ = _; rw [HR2.out]; exact listEq_not HA.out HBB.out (listEq_len hl3)
            go_wp2
            go_ret
            exact ⟨ret_bool HE.out.symm, LR.trans (hlx.trans LQ)⟩
          have e0 : ((T.length : Int) != (U.length : Int)) = false := by simp; omega
          have HL3 : Hid (T.length = U.length) := hl3
          clear hl3
          go_wp2
          obtain ⟨w7, rfl⟩ : ∃ w7, w7 = wr := ⟨_, rfl⟩
          go_loopw [9] (fun vk wr => ∃ k : Nat, vk = .int .i64 k ∧ k ≤ T.length ∧ Later W5 wr ∧ Hid (∀ (j : Nat) a b, j < k → T[j]? = some a → U[j]? = some b → insEq a b = true)) (fun vk _ => T.length - (intOf vk).toNat)
          case atStart => exact ⟨0, rfl, Nat.zero_le _, Later.refl _, fun j a b hj => by omega⟩
          case round =>
            obtain ⟨k, rfl, hk, hly, hM⟩ := hrel
            by_cases hlk : k < T.length
            · have hlm := HL3.out
              obtain ⟨⟨x, L⟩, ha⟩ : ∃ a, T[k]? = some a := ⟨_, List.getElem?_eq_getElem hlk⟩
              obtain ⟨⟨y, M⟩, hb⟩ : ∃ b, U[k]? = some b := ⟨_, List.getElem?_eq_getElem (by omega)⟩
              obtain ⟨gi, oi, rfl, -, hin, i0, i1, i2, i3, i4, i5, i6, i7, i8, i9, i10, i11, i12⟩ := (InsRow.kept HT1.out hly.kept).get ha
              obtain ⟨gj, oj, rfl, -, hin', j0, j1, j2, j3, j4, j5, j6, j7, j8, j9, j10, j11, j12⟩ := (InsRow.kept HU1.out hly.kept).get hb
              have cc := fun w' h h' => refSameIns_any x y L M w' h h'
              unfold Ins.val Ins.cells at cc
              have HXA : Hid (T[k]? = some (x, L)) := ha
              have HXB : Hid (U[k]? = some (y, M)) := hb
              have hkI : (k : Int) < U.length := by omega
              have HQ : Hid (sameF x L y M = insEq (x, L) (y, M)) := rfl
              generalize sameF x L y M = sm at *
              clear ha hb hlm HT1 HU1
              go_upto_region 17 with (fail)
              have ne : Nonempty (After wr) := ⟨⟨wr, Later.refl wr⟩⟩
              have mi0 := fun z : After wr => cell_after i0 z
              have mi1 := fun z : After wr => cell_after i1 z
              have mi2 := fun z : After wr => cell_after i2 z
              have mi3 := fun z : After wr => cell_after i3 z
              have mi4 := fun z : After wr => cell_after i4 z
              have mi5 := fun z : After wr => cell_after i5 z
              have mi6 := fun z : After wr => cell_after i6 z
              have mi7 := fun z : After wr => cell_after i7 z
              have mi8 := fun z : After wr => cell_after i8 z
              have mi9 := fun z : After wr => cell_after i9 z
              have mi10 := fun z : After wr => cell_after i10 z
              have mi11 := fun z : After wr => cell_after i11 z
              have mi12 := fun z : After wr => cell_after i12 z
              have mj0 := fun z : After wr => cell_after j0 z
              have mj1 := fun z : After wr => cell_after j1 z
              have mj2 := fun z : After wr => cell_after j2 z
              have mj3 := fun z : After wr => cell_after j3 z
              have mj4 := fun z : After wr => cell_after j4 z
              have mj5 := fun z : After wr => cell_after j5 z
              have mj6 := fun z : After wr => cell_after j6 z
              have mj7 := fun z : After wr => cell_after j7 z
              have mj8 := fun z : After wr => cell_after j8 z
              have mj9 := fun z : After wr => cell_after j9 z
              have mj10 := fun z : After wr => cell_after j10 z
              have mj11 := fun z : After wr => cell_after j11 z
              have mj12 := fun z : After wr => cell_after j12 z
              have tt := fun z : After wr => hin.kept z.later.kept
              have tt' := fun z : After wr => hin'.kept z.later.kept
              clear hin hin' i0 j0 i1 j1 i2 j2 i3 j3 i4 j4 i5 j5 i6 j6 i7 j7 i8 j8 i9 j9 i10 j10 i11 j11 i12 j12
              cases sm with
              | true =>
                refine wp_region_later (by kernel_rfl) (by kernel_rfl) ?_
                repeat (first | go_big_quiet_step (((go_at_call 23; with_reducible (exact Calls.after_of (cc _ (tt _) (tt' _)))))) | quiet_step (((go_at_call 23; with_reducible (exact Calls.after_of (cc _ (tt _) (tt' _)))))))
                refine wpQuiet_nil ?_
                intro _ hw'
                obtain ⟨z, hw''⟩ := hw'
                subst hw''
                clear mi0 mj0 mi1 mj1 mi2 mj2 mi3 mj3 mi4 mj4 mi5 mj5 mi6 mj6 mi7 mj7 mi8 mj8 mi9 mj9 mi10 mj10 mi11 mj11 mi12 mj12 tt tt'
                go_wp2
                go_roundw
                case rel => exact ⟨k + 1, by go_num, by omega, hly.trans z.later, fun j z1 z2 hj hx hy => by
                  rcases Nat.lt_succ_iff_lt_or_eq.1 hj with h | rfl
                  · exact hM.out j z1 z2 h hx hy
                  · rw [HXA.out] at hx; rw [HXB.out] at hy; cases hx; cases hy; exact HQ.out.symm⟩
                case measure => simp [intOf]; omega
              | false =>
                have HE : Hid (r = false) := by show _ = _; rw [HR2.out]; exact listEq_not HA.out HBB.out (listEq_not HXA.out HXB.out HQ.out.symm)
                refine wp_region_later (by kernel_rfl) (by kernel_rfl) ?_
                repeat (first | go_big_quiet_step (((go_at_call 23; with_reducible (exact Calls.after_of (cc _ (tt _) (tt' _)))))) | quiet_step (((go_at_call 23; with_reducible (exact Calls.after_of (cc _ (tt _) (tt' _)))))))
                refine wpQuiet_nil ?_
                intro _ hw'
                obtain ⟨z, hw''⟩ := hw'
                subst hw''
                clear mi0 mj0 mi1 mj1 mi2 mj2 mi3 mj3 mi4 mj4 mi5 mj5 mi6 mj6 mi7 mj7 mi8 mj8 mi9 mj9 mi10 mj10 mi11 mj11 mi12 mj12 tt tt'
                go_wp2
                go_ret
                exact ⟨ret_bool HE.out.symm, LR.trans (hlx.trans (LQ.trans (hly.trans z.later)))⟩
            · have HE : Hid (thrEq T U = true) := listEq_all HL3.out (fun j a b ha hb => hM.out j a b (by have := (List.getElem?_eq_some_iff.1 ha).1; omega) ha hb)
              clear HT1 HU1
              go_wp2
              go_roundw
              case rel => exact ⟨t + 1, by go_num, by omega, hlx.trans (LQ.trans hly), fun j z1 z2 hj hx hy => by
                rcases Nat.lt_succ_iff_lt_or_eq.1 hj with h | rfl
                · exact hN.out j z1 z2 h hx hy
                · rw [HA.out] at hx; rw [HBB.out] at hy; cases hx; cases hy; exact HE.out⟩
              case measure => simp [intOf]; omega
        · have HE : Hid (r = true) := by show _ = _; rw [HR2.out]; exact listEq_all HL2.out (fun j a b ha hb => hN.out j a b (by have := (List.getElem?_eq_some_iff.1 ha).1; omega) ha hb)
          clear HP HP'
          go_wp2
          go_ret
          exact ⟨ret_bool HE.out.symm, LR.trans hlx⟩

end Go.Proofs.YtegogmbcjjjjjaaDoor
