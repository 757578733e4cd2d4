/-
  A state's text, by the document. Nothing that was in memory turns. Conditions: the state lies in memory, the text is no longer than the theorem says.
-/
import Derived.Test.YtpnbpjhoilibcaaDoorStateWrite
import Derived.Test.YtpnbpjhoilibcaaDoorRefText
namespace Go.Proofs.YtpnbpjhoilibcaaDoor
open Go.RowKit
set_option linter.unusedVariables false
set_option linter.unusedSimpArgs false

set_option maxRecDepth 1000000 in
theorem refBit_any (b : Bool) (w : World) : Calls Tryd.prog 32 #[.bool b] w fun e w' => e = .returned (.string (bitS b)) ∧ Later w w' := by
  cases b
  · go_enter Tryd.func32, Tryd.ntmps32
    go_wp2
    go_ret
    exact ⟨rfl, Later.refl w⟩
  · go_enter Tryd.func32, Tryd.ntmps32
    go_wp2
    go_ret
    exact ⟨rfl, Later.refl w⟩

theorem toArray_of {T : ByteArray} {l : List UInt8} (h : T.data.toList = l) : T = ⟨l.toArray⟩ := by
  subst h
  cases T with
  | mk d => simp

set_option maxRecDepth 1000000 in
set_option maxHeartbeats 4000000 in
theorem refRowL_any (u : Value) (L : List Int) (w : World) (hI : IntsIn w u L) (hlen : (rowL L).length ≤ 10000000) :
    Calls Tryd.prog 30 #[u] w fun e w' => e = .returned (.string ⟨(rowL L).toArray⟩) ∧ Later w w' := by
  obtain ⟨p, cap, rfl, h1, h2⟩ := RowIn.slice hI
  unfold maxLen at h2
  have HI : Hid (IntsIn w (.slice p L.length cap) L) := hI
  have z44 := byte1_size 44
  clear hI
  go_enter Tryd.func30, Tryd.ntmps30
  go_wp2
  go_loopw [3, 4] (fun sv vi wr => ∃ (i : Nat) (T : ByteArray), sv = .string T ∧ vi = .int .i64 (i : Nat) ∧ i ≤ L.length ∧ Later w wr ∧ Hid (T.data.toList = rowL (L.take i))) (fun _ vi _ => L.length - (intOf vi).toNat)
  case atStart => exact ⟨0, ⟨#[]⟩, rfl, rfl, by omega, Later.refl w, Lib.hid (by simp [rowL, joinL])⟩
  case round =>
    obtain ⟨i, T, rfl, rfl, hi, Lr, hT⟩ := hrel
    obtain ⟨w7, rfl⟩ : ∃ w7, w7 = wr := ⟨_, rfl⟩
    have sT : T.size ≤ 10000000 := by rw [← bytes_size, hT.out]; have := row_le L i; omega
    by_cases h8 : i < L.length
    · obtain ⟨n, ht⟩ : ∃ t, L[i]? = some t := ⟨_, List.getElem?_eq_getElem h8⟩
      obtain ⟨g, o, rfl, hn64, hc⟩ := (HI.out.later Lr).get ht
      have cN := fun w' => refText_any n hn64.1 hn64.2 w'
      have hE : Hid (rowL (L.take (i + 1)) = rowL (L.take i) ++ ((if i = 0 then [] else [44]) ++ (txt n).data.toList)) := row_next ht
      have sN := txt_size n hn64.1 hn64.2
      generalize txt n = Z at *
      clear ht hn64
      by_cases h0 : i = 0
      · subst h0
        simp only [Nat.add_zero] at hc
        go_wp2_with (go_at_call 31; apply Calls.mono; (focus (with_reducible (exact cN _))); rintro e w1 ⟨rfl, hl1⟩)
        go_roundw
        case rel => exact ⟨1, T ++ Z, rfl, by go_num, by omega, Lr.trans hl1, Lib.hid (by rw [hE.out, bytes_app, hT.out]; simp)⟩
        case measure => simp [intOf]; omega
      · have hpos : (0 : Int) < i := by omega
        have sT2 : (T ++ (⟨#[44]⟩ : ByteArray)).size = T.size + 1 := by rw [ByteArray.size_append]; rfl
        have hT2 : Hid ((T ++ (⟨#[44]⟩ : ByteArray)).data.toList = rowL (L.take i) ++ [44]) := Lib.hid (by rw [bytes_app, hT.out, byte1])
        generalize hU : T ++ (⟨#[44]⟩ : ByteArray) = U at *
        go_wp2_with (go_at_call 31; apply Calls.mono; (focus (with_reducible (exact cN _))); rintro e w1 ⟨rfl, hl1⟩)
        go_roundw
        case rel => exact ⟨i + 1, U ++ Z, rfl, by go_num, by omega, Lr.trans hl1, Lib.hid (by rw [hE.out, bytes_app, hT2.out, if_neg h0]; simp)⟩
        case measure => simp [intOf]; omega
    · obtain rfl : i = L.length := by omega
      obtain rfl : T = ⟨(rowL L).toArray⟩ := toArray_of (by rw [hT.out, List.take_length])
      go_wp2
      go_ret
      exact ⟨rfl, Lr⟩

set_option maxRecDepth 1000000 in
set_option maxHeartbeats 8000000 in
theorem refStText_any (w : World) (m t b : Value) (x : MSt) (hx : MsIn w m t b x) (hlen : (msL x).length ≤ 10000000) :
    Calls Tryd.prog 12 #[.agg #[m, t, b, .int .i64 x.lock]] w fun e w' => e = .returned (.string ⟨(msL x).toArray⟩) ∧ Later w w' := by
  obtain ⟨mp, mc, rfl, m1, m2⟩ := RowIn.slice hx.mem
  obtain ⟨tp, tc, rfl, t1, t2⟩ := RowIn.slice hx.thr
  obtain ⟨bp, bc, rfl, b1, b2⟩ := RowIn.slice hx.bufs
  unfold maxLen at t2 b2
  have HS : Hid (msL x = rowL x.mem ++ x.thr.flatMap tsL ++ x.bufs.flatMap bufL ++ [35] ++ numL x.lock) := Lib.hid (by simp [msL])
  have hlen2 := hlen
  rw [HS.out] at hlen2
  simp only [List.length_append] at hlen2
  have HLN : Hid ((rowL x.mem).length + (x.thr.flatMap tsL).length + (x.bufs.flatMap bufL).length ≤ 10000000) := Lib.hid (by omega)
  have LL := Later.alloc (Later.refl w) (.cells #[.slice mp x.mem.length mc, .slice tp x.thr.length tc, .slice bp x.bufs.length bc, .int .i64 x.lock] 26)
  have HX : Hid (MsIn (w.alloc (.cells #[.slice mp x.mem.length mc, .slice tp x.thr.length tc, .slice bp x.bufs.length bc, .int .i64 x.lock] 26)) (.slice mp x.mem.length mc) (.slice tp x.thr.length tc) (.slice bp x.bufs.length bc) x) := hx.later LL
  have HBX := at_new w (.cells #[.slice mp x.mem.length mc, .slice tp x.thr.length tc, .slice bp x.bufs.length bc, .int .i64 x.lock] 26)
  have cL := fun w' => refText_any x.lock hx.lock.1 hx.lock.2 w'
  have sL := txt_size x.lock hx.lock.1 hx.lock.2
  have cM := fun w' (h : Later (w.alloc (.cells #[.slice mp x.mem.length mc, .slice tp x.thr.length tc, .slice bp x.bufs.length bc, .int .i64 x.lock] 26)) w') => refRowL_any (.slice mp x.mem.length mc) x.mem w' ((hx.mem.later LL).later h) (by omega)
  clear hlen hlen2 hx m1 m2
  go_enter Tryd.func12, Tryd.ntmps12
  go_upto_region 1 with (fail)
  generalize w.alloc (.cells #[.slice mp x.mem.length mc, .slice tp x.thr.length tc, .slice bp x.bufs.length bc, .int .i64 x.lock] 26) = W at *
  generalize hC : w.heap.size = C at *
  obtain ⟨a0, a1, a2, a3, -⟩ := box4_facts HBX
  go_upto_region 2 with (go_at_call 30; apply Calls.mono; (focus (with_reducible (exact cM _ (Later.refl W)))); rintro e w1 ⟨rfl, k2⟩)
  obtain ⟨a0, a1, a2, a3, -⟩ := box4_facts (heap_later k2 HBX)
  clear cM
  have hT0 : Hid ((⟨(rowL x.mem).toArray⟩ : ByteArray).data.toList = rowL x.mem) := Lib.hid (by simp)
  generalize (⟨(rowL x.mem).toArray⟩ : ByteArray) = T0 at *
  go_wp2
  go_loopw [3, 4] (fun sv vi wr => ∃ (i : Nat) (T : ByteArray), sv = .string T ∧ vi = .int .i64 (i : Nat) ∧ i ≤ x.thr.length ∧ Later W wr ∧ Hid (T.data.toList = rowL x.mem ++ (x.thr.take i).flatMap tsL)) (fun _ vi _ => x.thr.length - (intOf vi).toNat)
  case atStart => exact ⟨0, T0, rfl, rfl, by omega, k2, Lib.hid (by rw [hT0.out]; simp)⟩
  case round =>
    obtain ⟨i, T, rfl, rfl, hi, Lr, hT⟩ := hrel
    clear a0 a1 a2 a3 k2
    obtain ⟨w7, rfl⟩ : ∃ w7, w7 = wr := ⟨_, rfl⟩
    obtain ⟨a0, a1, a2, a3, -⟩ := box4_facts (heap_later Lr HBX)
    by_cases h8 : i < x.thr.length
    · obtain ⟨y, ht⟩ : ∃ y, x.thr[i]? = some y := ⟨_, List.getElem?_eq_getElem h8⟩
      obtain ⟨g, o, rfl, ok, ⟨c0, c1, c2, c3, c4, c5, c6, c7, c8, c9, c10, c11, c12, c13, c14, c15⟩⟩ := (HX.out.thr.later Lr).get ht
      have LB := Later.alloc (Later.refl w7) (.cells #[.int .i64 (y.r 0), .int .i64 (y.r 1), .int .i64 (y.r 2), .int .i64 (y.r 3), .int .i64 (y.r 4), .int .i64 (y.r 5), .int .i64 (y.r 6), .int .i64 (y.r 7), .bool y.z, .bool y.s, .bool y.c, .bool y.o, .int .i64 y.pc, .int .i64 y.phase, .int .i64 y.latch, .int .i64 y.status] 38)
      have HB := at_new w7 (.cells #[.int .i64 (y.r 0), .int .i64 (y.r 1), .int .i64 (y.r 2), .int .i64 (y.r 3), .int .i64 (y.r 4), .int .i64 (y.r 5), .int .i64 (y.r 6), .int .i64 (y.r 7), .bool y.z, .bool y.s, .bool y.c, .bool y.o, .int .i64 y.pc, .int .i64 y.phase, .int .i64 y.latch, .int .i64 y.status] 38)
      have e1 := flatM_next tsL ht
      have e2 := flatM_le tsL x.thr (i + 1)
      have hln := HLN.out
      rw [e1, List.length_append] at e2
      have sT : T.size + (tsL y).length ≤ 10000000 := by rw [← bytes_size, hT.out, List.length_append]; omega
      have hrl : (rowL (regsL y)).length ≤ (tsL y).length := by simp only [tsL, List.length_cons, List.length_append]; omega
      have p0 := fun w' => refText_any y.pc ok.pc.1 ok.pc.2 w'
      have p1 := fun w' => refText_any y.phase ok.phase.1 ok.phase.2 w'
      have p2 := fun w' => refText_any y.latch ok.latch.1 ok.latch.2 w'
      have p3 := fun w' => refText_any y.status ok.status.1 ok.status.2 w'
      have s0 := txt_size y.pc ok.pc.1 ok.pc.2
      have s1 := txt_size y.phase ok.phase.1 ok.phase.2
      have s2 := txt_size y.latch ok.latch.1 ok.latch.2
      have s3 := txt_size y.status ok.status.1 ok.status.2
      have q0 := fun w' => refBit_any y.z w'
      have q1 := fun w' => refBit_any y.s w'
      have q2 := fun w' => refBit_any y.c w'
      have q3 := fun w' => refBit_any y.o w'
      have r0 := bitS_size y.z
      have r1 := bitS_size y.s
      have r2 := bitS_size y.c
      have r3 := bitS_size y.o
      have hparts : tsL y = ((⟨#[124]⟩ : ByteArray) ++ txt y.pc ++ ⟨#[46]⟩ ++ txt y.phase ++ ⟨#[46]⟩ ++ txt y.latch ++ ⟨#[46]⟩ ++ txt y.status).data.toList ++ (((⟨#[46]⟩ : ByteArray) ++ bitS y.z ++ bitS y.s ++ bitS y.c ++ bitS y.o ++ ⟨#[46]⟩).data.toList ++ rowL (regsL y)) := by
        simp [tsL, bytes_app, numL, flagsL, bitS]
      have g4' := fun (w' : World) (h : IntsIn w' (.slice (some ⟨w7.heap.size, 0, none⟩) 8 8) (regsL y)) => refRowL_any _ (regsL y) w' h (by omega)
      have HOK : Hid y.Ok := ok
      have sR : (⟨(rowL (regsL y)).toArray⟩ : ByteArray).size ≤ 10000000 := by
        have : (⟨(rowL (regsL y)).toArray⟩ : ByteArray).size = (rowL (regsL y)).length := by rw [← bytes_size]
        omega
      have hR : Hid ((⟨(rowL (regsL y)).toArray⟩ : ByteArray).data.toList = rowL (regsL y)) := Lib.hid (by simp)
      generalize (⟨(rowL (regsL y)).toArray⟩ : ByteArray) = RR at *
      generalize txt y.pc = TA at *
      generalize txt y.phase = TB at *
      generalize txt y.latch = TC at *
      generalize txt y.status = TD at *
      generalize bitS y.z = BA at *
      generalize bitS y.s = BB at *
      generalize bitS y.c = BC at *
      generalize bitS y.o = BD at *
      have hN : Hid (rowL x.mem ++ (x.thr.take (i + 1)).flatMap tsL = (T ++ ((⟨#[124]⟩ : ByteArray) ++ TA ++ ⟨#[46]⟩ ++ TB ++ ⟨#[46]⟩ ++ TC ++ ⟨#[46]⟩ ++ TD) ++ ((⟨#[46]⟩ : ByteArray) ++ BA ++ BB ++ BC ++ BD ++ ⟨#[46]⟩ ++ RR)).data.toList) := Lib.hid (by
        rw [e1, hparts, ← List.append_assoc (rowL x.mem), ← hT.out, ← hR.out]
        simp only [bytes_app, List.append_assoc])
      have sT' : T.size ≤ 10000000 := by omega
      clear e1 e2 hln ht sT hrl hparts hT ok
      go_upto_region 6 with (fail)
      have LW := Lr.trans LB
      generalize w7.alloc (.cells #[.int .i64 (y.r 0), .int .i64 (y.r 1), .int .i64 (y.r 2), .int .i64 (y.r 3), .int .i64 (y.r 4), .int .i64 (y.r 5), .int .i64 (y.r 6), .int .i64 (y.r 7), .bool y.z, .bool y.s, .bool y.c, .bool y.o, .int .i64 y.pc, .int .i64 y.phase, .int .i64 y.latch, .int .i64 y.status] 38) = W7 at *
      generalize w7.heap.size = D at *
      clear c0 c1 c2 c3 c4 c5 c6 c7 c8 c9 c10 c11 c12 c13 c14 c15 a0 a1 a2 a3 LB
      obtain ⟨d0, d1, d2, d3, d4, d5, d6, d7, d8, d9, d10, d11, d12, d13, d14, d15⟩ := box16_facts HB
      simp only [Nat.zero_add] at d0 d1 d2 d3 d4 d5 d6 d7 d8 d9 d10 d11 d12 d13 d14 d15
      have ne : Nonempty (After W7) := ⟨⟨W7, Later.refl W7⟩⟩
      have k0 := fun p : After W7 => cell_after d12 p
      have k1 := fun p : After W7 => cell_after d13 p
      have k2 := fun p : After W7 => cell_after d14 p
      have k3 := fun p : After W7 => cell_after d15 p
      have f0 := fun p : After W7 => p0 p.world
      have f1 := fun p : After W7 => p1 p.world
      have f2 := fun p : After W7 => p2 p.world
      have f3 := fun p : After W7 => p3 p.world
      clear d0 d1 d2 d3 d4 d5 d6 d7 d8 d9 d10 d11 d12 d13 d14 d15 p0 p1 p2 p3
      refine wp_region_later (by kernel_rfl) (by kernel_rfl) ?_
      repeat (first | go_big_quiet_step (((go_at_call 31; with_reducible (first | exact Calls.after_of (f0 _) | exact Calls.after_of (f1 _) | exact Calls.after_of (f2 _) | exact Calls.after_of (f3 _))))) | quiet_step (((go_at_call 31; with_reducible (first | exact Calls.after_of (f0 _) | exact Calls.after_of (f1 _) | exact Calls.after_of (f2 _) | exact Calls.after_of (f3 _))))))
      refine wpQuiet_nil ?_
      intro _ hw'
      obtain ⟨z, hw''⟩ := hw'
      subst hw''
      have HB2 := heap_later z.later HB
      have L8 := LW.trans z.later
      obtain ⟨w8, hw8⟩ : ∃ w8, z.world = w8 := ⟨_, rfl⟩
      rw [hw8] at HB2 L8 ⊢
      clear k0 k1 k2 k3 f0 f1 f2 f3 ne HB hw8
      go_upto_region 7 with (fail)
      have sU : (T ++ ((⟨#[124]⟩ : ByteArray) ++ TA ++ ⟨#[46]⟩ ++ TB ++ ⟨#[46]⟩ ++ TC ++ ⟨#[46]⟩ ++ TD)).size ≤ 10000200 := by
        simp only [ByteArray.size_append, byte1_size]
        omega
      generalize hU : T ++ ((⟨#[124]⟩ : ByteArray) ++ TA ++ ⟨#[46]⟩ ++ TB ++ ⟨#[46]⟩ ++ TC ++ ⟨#[46]⟩ ++ TD) = U at *
      clear hU s0 s1 s2 s3
      obtain ⟨d0, d1, d2, d3, d4, d5, d6, d7, d8, d9, d10, d11, d12, d13, d14, d15⟩ := box16_facts HB2
      simp only [Nat.zero_add] at d0 d1 d2 d3 d4 d5 d6 d7 d8 d9 d10 d11 d12 d13 d14 d15
      have ne : Nonempty (After w8) := ⟨⟨w8, Later.refl w8⟩⟩
      have k0 := fun p : After w8 => cell_after d8 p
      have k1 := fun p : After w8 => cell_after d9 p
      have k2 := fun p : After w8 => cell_after d10 p
      have k3 := fun p : After w8 => cell_after d11 p
      have g0 := fun p : After w8 => q0 p.world
      have g1 := fun p : After w8 => q1 p.world
      have g2 := fun p : After w8 => q2 p.world
      have g3 := fun p : After w8 => q3 p.world
      have g4 := fun p : After w8 => g4' p.world (regs_row (heap_later p.later HB2) HOK.out)
      clear d0 d1 d2 d3 d4 d5 d6 d7 d8 d9 d10 d11 d12 d13 d14 d15 q0 q1 q2 q3 g4'
      refine wp_region_later (by kernel_rfl) (by kernel_rfl) ?_
      repeat (first | go_big_quiet_step ((first | (go_at_call 32; with_reducible (first | exact Calls.after_of (g0 _) | exact Calls.after_of (g1 _) | exact Calls.after_of (g2 _) | exact Calls.after_of (g3 _))) | (go_at_call 30; with_reducible (exact Calls.after_of (g4 _))))) | quiet_step ((first | (go_at_call 32; with_reducible (first | exact Calls.after_of (g0 _) | exact Calls.after_of (g1 _) | exact Calls.after_of (g2 _) | exact Calls.after_of (g3 _))) | (go_at_call 30; with_reducible (exact Calls.after_of (g4 _))))))
      refine wpQuiet_nil ?_
      intro _ hw'
      obtain ⟨z, hw''⟩ := hw'
      subst hw''
      clear k0 k1 k2 k3 g0 g1 g2 g3 g4
      go_wp2
      go_roundw
      case rel => exact ⟨i + 1, _, rfl, by go_num, by omega, L8.trans z.later, Lib.hid (hN.out).symm⟩
      case measure => simp [intOf]; omega
    · obtain rfl : i = x.thr.length := by omega
      rw [List.take_length] at hT
      have hT2 : Hid (T.data.toList = rowL x.mem ++ x.thr.flatMap tsL) := hT
      have L1 := Lr
      clear hT Lr
      go_wp2
      go_loopw [3, 6] (fun sv vi wr => ∃ (i : Nat) (U : ByteArray), sv = .string U ∧ vi = .int .i64 (i : Nat) ∧ i ≤ x.bufs.length ∧ Later W wr ∧ Hid (U.data.toList = rowL x.mem ++ x.thr.flatMap tsL ++ (x.bufs.take i).flatMap bufL)) (fun _ vi _ => x.bufs.length - (intOf vi).toNat)
      case atStart => exact ⟨0, T, rfl, rfl, by omega, L1, Lib.hid (by rw [hT2.out]; simp)⟩
      case round =>
        obtain ⟨j, U, rfl, rfl, hj, Lr, hU⟩ := hrel
        clear L1 a0 a1 a2 a3
        obtain ⟨w9, rfl⟩ : ∃ w9, w9 = wr := ⟨_, rfl⟩
        obtain ⟨a0, a1, a2, a3, -⟩ := box4_facts (heap_later Lr HBX)
        have hln := HLN.out
        have sU : U.size ≤ 10000000 := by
          have e2 := flatM_le bufL x.bufs j
          rw [← bytes_size, hU.out]
          simp only [List.length_append]
          omega
        by_cases h9 : j < x.bufs.length
        · obtain ⟨y, ht⟩ : ∃ y, x.bufs[j]? = some y := ⟨_, List.getElem?_eq_getElem h9⟩
          obtain ⟨g, o, v, rfl, hye, hy64, y0⟩ := (HX.out.bufs.later Lr).get ht
          have e1 := flatM_next bufL ht
          have e2 := flatM_le bufL x.bufs (j + 1)
          rw [e1, List.length_append] at e2
          obtain ⟨vp, vc, rfl, v1, v2⟩ := RowIn.slice hye
          unfold maxLen at v2
          have HY : Hid (EntRow w9 (.slice vp y.length vc) y) := hye
          have H64 : Hid (∀ e ∈ y, I64 e.1 ∧ I64 e.2) := hy64
          have hbl : (bufL y).length = (joinL entL y).length + 2 := by simp [bufL]
          have sU2 : U.size + (joinL entL y).length ≤ 10000000 := by
            rw [← bytes_size, hU.out]
            simp only [List.length_append]
            omega
          have hN : Hid (rowL x.mem ++ x.thr.flatMap tsL ++ (x.bufs.take (j + 1)).flatMap bufL = (U ++ (⟨#[40]⟩ : ByteArray)).data.toList ++ joinL entL y ++ [41]) := Lib.hid (by
            rw [e1, ← List.append_assoc (rowL x.mem ++ x.thr.flatMap tsL), ← hU.out]
            simp [bufL, bytes_app, byte1])
          have sV : (U ++ (⟨#[40]⟩ : ByteArray)).size = U.size + 1 := by rw [ByteArray.size_append]; rfl
          have HX9 := Lib.hid (heap_later Lr HBX)
          clear e1 e2 ht hye hy64 hbl hln
          generalize hV : U ++ (⟨#[40]⟩ : ByteArray) = V at *
          go_wp2
          clear hV
          go_loopw [3, 7] (fun sv vi wr => ∃ (k : Nat) (R : ByteArray), sv = .string R ∧ vi = .int .i64 (k : Nat) ∧ k ≤ y.length ∧ Later w9 wr ∧ Hid (R.data.toList = V.data.toList ++ joinL entL (y.take k))) (fun _ vi _ => y.length - (intOf vi).toNat)
          case atStart => exact ⟨0, V, rfl, rfl, by omega, Later.refl w9, Lib.hid (by simp [joinL])⟩
          case round =>
            obtain ⟨k, R, rfl, rfl, hk, Ls, hR⟩ := hrel
            obtain ⟨wa, rfl⟩ : ∃ wa, wa = wr := ⟨_, rfl⟩
            obtain ⟨b0, b1, b2, b3, -⟩ := box4_facts (heap_later Ls HX9.out)
            have z0 := cell_later y0 Ls
            have sR : R.size ≤ 10000001 := by
              have e2 := join_le entL y k
              rw [← bytes_size, hR.out, List.length_append, bytes_size]
              omega
            by_cases h7 : k < y.length
            · obtain ⟨e, he⟩ : ∃ e, y[k]? = some e := ⟨_, List.getElem?_eq_getElem h7⟩
              obtain ⟨e64a, e64b⟩ := H64.out e (List.mem_of_getElem? he)
              obtain ⟨g', o', rfl, x0, x1⟩ := (HY.out.later Ls).get he
              have p0 := fun w' => refText_any e.1 e64a.1 e64a.2 w'
              have p1 := fun w' => refText_any e.2 e64b.1 e64b.2 w'
              have s0 := txt_size e.1 e64a.1 e64a.2
              have s1 := txt_size e.2 e64b.1 e64b.2
              have e3 := join_next entL he
              have e4 : entL e = (txt e.1 ++ ⟨#[61]⟩ ++ txt e.2).data.toList := by simp [entL, numL, bytes_app, byte1]
              rw [e4] at e3
              obtain ⟨ea, eb⟩ := e
              dsimp only at *
              generalize txt ea = TA at *
              generalize txt eb = TB at *
              have hN2 : Hid (joinL entL (y.take (k + 1)) = joinL entL (y.take k) ++ ((if k = 0 then [] else [44]) ++ (TA ++ ⟨#[61]⟩ ++ TB).data.toList)) := e3
              clear e3 e4 he e64a e64b a0 a1 a2 a3 y0
              have ne : Nonempty (After wa) := ⟨⟨wa, Later.refl wa⟩⟩
              have k0 := fun p : After wa => cell_after b2 p
              have k1 := fun p : After wa => cell_after z0 p
              have k2 := fun p : After wa => cell_after x0 p
              have k3 := fun p : After wa => cell_after x1 p
              have f0 := fun p : After wa => p0 p.world
              have f1 := fun p : After wa => p1 p.world
              have hk1 : (k : Int) < y.length := by omega
              have hj1 : (j : Int) < x.bufs.length := by omega
              clear p0 p1
              by_cases h0 : k = 0
              · subst h0
                simp only [Nat.add_zero, Nat.zero_mul] at k2 k3
                go_upto_region 17 with (fail)
                clear b0 b1 b2 b3 z0 x0 x1
                refine wp_region_later (by kernel_rfl) (by kernel_rfl) ?_
                repeat (first | go_big_quiet_step (((go_at_call 31; with_reducible (first | exact Calls.after_of (f0 _) | exact Calls.after_of (f1 _))))) | quiet_step (((go_at_call 31; with_reducible (first | exact Calls.after_of (f0 _) | exact Calls.after_of (f1 _))))))
                refine wpQuiet_nil ?_
                intro _ hw'
                obtain ⟨z, hw''⟩ := hw'
                subst hw''
                clear k0 k1 k2 k3 f0 f1
                go_wp2
                go_roundw
                case rel => exact ⟨1, _, rfl, by go_num, by omega, Ls.trans z.later, Lib.hid (by rw [hN2.out, bytes_app, hR.out]; simp)⟩
                case measure => simp [intOf]; omega
              · have hpos : (0 : Int) < k := by omega
                have hS : Hid ((R ++ (⟨#[44]⟩ : ByteArray)).data.toList = V.data.toList ++ joinL entL (y.take k) ++ [44]) := Lib.hid (by rw [bytes_app, hR.out, byte1])
                have sS : (R ++ (⟨#[44]⟩ : ByteArray)).size = R.size + 1 := by rw [ByteArray.size_append]; rfl
                generalize hQ : R ++ (⟨#[44]⟩ : ByteArray) = Q at *
                go_upto_region 17 with (fail)
                clear b0 b1 b2 b3 z0 x0 x1 hQ
                refine wp_region_later (by kernel_rfl) (by kernel_rfl) ?_
                repeat (first | go_big_quiet_step (((go_at_call 31; with_reducible (first | exact Calls.after_of (f0 _) | exact Calls.after_of (f1 _))))) | quiet_step (((go_at_call 31; with_reducible (first | exact Calls.after_of (f0 _) | exact Calls.after_of (f1 _))))))
                refine wpQuiet_nil ?_
                intro _ hw'
                obtain ⟨z, hw''⟩ := hw'
                subst hw''
                clear k0 k1 k2 k3 f0 f1
                go_wp2
                go_roundw
                case rel => exact ⟨k + 1, _, rfl, by go_num, by omega, Ls.trans z.later, Lib.hid (by rw [hN2.out, bytes_app, hS.out, if_neg h0]; simp)⟩
                case measure => simp [intOf]; omega
            · obtain rfl : k = y.length := by omega
              rw [List.take_length] at hR
              go_wp2
              go_roundw
              case rel => exact ⟨j + 1, R ++ (⟨#[41]⟩ : ByteArray), rfl, by go_num, by omega, Lr.trans Ls, Lib.hid (by rw [bytes_app, hR.out, hN.out, byte1])⟩
              case measure => simp [intOf]; omega
        · obtain rfl : j = x.bufs.length := by omega
          rw [List.take_length] at hU
          have cN := cL w9
          have hE : Hid (msL x = (U ++ (⟨#[35]⟩ : ByteArray) ++ txt x.lock).data.toList) := Lib.hid (by rw [HS.out, ← hU.out, bytes_app, bytes_app, byte1]; rfl)
          generalize txt x.lock = T9 at *
          have sV : (U ++ (⟨#[35]⟩ : ByteArray)).size = U.size + 1 := by rw [ByteArray.size_append]; rfl
          clear cL HLN
          go_wp2_with (go_at_call 31; apply Calls.mono; (focus (with_reducible (exact cN))); rintro e u1 ⟨rfl, hl1⟩)
          go_ret
          exact ⟨by rw [← toArray_of hE.out.symm]; rfl, LL.trans (Lr.trans hl1)⟩

end Go.Proofs.YtpnbpjhoilibcaaDoor
