/-
  A state's text, by package state. Nothing that was in memory turns. Conditions: the state lies in memory, the listed table stands as it is laid, the text is no longer than the theorem says.
-/
import Derived.Test.YtpnbpjhoilibcaaDoorStateWrite2
namespace Go.Proofs.YtpnbpjhoilibcaaDoor
open Go.RowKit
set_option linter.unusedVariables false
set_option linter.unusedSimpArgs false

set_option maxRecDepth 1000000 in
set_option maxHeartbeats 4000000 in
theorem stateText_any (w : World) (m t b : Value) (x : MSt) (hx : MsIn w m t b x) (hG : TabGood w) (hlen : (msL x).length ≤ 10000000) :
    Calls Tryd.prog 11 #[.agg #[m, t, b, .int .i64 x.lock]] w fun e w' => e = .returned (.string ⟨(msL x).toArray⟩) ∧ Later w w' := by
  obtain ⟨mp, mc, rfl, m1, m2⟩ := RowIn.slice hx.mem
  obtain ⟨tp, tc, rfl, t1, t2⟩ := RowIn.slice hx.thr
  obtain ⟨bp, bc, rfl, b1, b2⟩ := RowIn.slice hx.bufs
  unfold maxLen at t2 b2
  have HS : Hid (msL x = rowL x.mem ++ x.thr.flatMap tsL ++ x.bufs.flatMap bufL ++ ((⟨#[35]⟩ : ByteArray) ++ txt x.lock).data.toList) := Lib.hid (by simp [msL, numL, bytes_app, byte1])
  rw [HS.out]
  have hlen2 := hlen
  rw [HS.out] at hlen2
  simp only [List.length_append] at hlen2
  have HLN : Hid ((rowL x.mem).length + (x.thr.flatMap tsL).length + (x.bufs.flatMap bufL).length + ((⟨#[35]⟩ : ByteArray) ++ txt x.lock).data.toList.length ≤ 10000000) := hlen2
  have LL := Later.alloc (Later.refl w) (.cells #[.slice mp x.mem.length mc, .slice tp x.thr.length tc, .slice bp x.bufs.length bc, .int .i64 x.lock] 26)
  have HX : Hid (MsIn (w.alloc (.cells #[.slice mp x.mem.length mc, .slice tp x.thr.length tc, .slice bp x.bufs.length bc, .int .i64 x.lock] 26)) (.slice mp x.mem.length mc) (.slice tp x.thr.length tc) (.slice bp x.bufs.length bc) x) := hx.later LL
  have HG : Hid (TabGood (w.alloc (.cells #[.slice mp x.mem.length mc, .slice tp x.thr.length tc, .slice bp x.bufs.length bc, .int .i64 x.lock] 26))) := hG.later LL
  have HBX := at_new w (.cells #[.slice mp x.mem.length mc, .slice tp x.thr.length tc, .slice bp x.bufs.length bc, .int .i64 x.lock] 26)
  have cL := fun w' h => numTab_any x.lock hx.lock.1 hx.lock.2 w' h
  clear hlen hlen2 hG hx m1 m2 HS
  go_enter Tryd.func11, Tryd.ntmps11
  go_upto_region 1 with (fail)
  generalize w.alloc (.cells #[.slice mp x.mem.length mc, .slice tp x.thr.length tc, .slice bp x.bufs.length bc, .int .i64 x.lock] 26) = W at *
  have HBld := fresh_bld W
  have L1 := Later.alloc (Later.refl W) (.cells #[.pointer none, .slice none 0 0] 50)
  obtain ⟨a0, a1, a2, a3, -⟩ := box4_facts (heap_later L1 HBX)
  go_upto_region 2 with (fail)
  generalize W.alloc (.cells #[.pointer none, .slice none 0 0] 50) = W1 at *
  generalize hC : W.heap.size = C at *
  have cM := writeNumbers_any (.slice mp x.mem.length mc) x.mem C [] W W1 L1 HG.out (fun w' hl _ => HX.out.mem.later hl) (by rw [hC]; exact HBld) (by have := HLN.out; simp only [List.length_nil]; omega)
  rw [hC, List.nil_append] at cM
  go_upto_region 3 with (go_at_call 24; apply Calls.mono; (focus (with_reducible (exact cM))); rintro e w1 ⟨rfl, k2, k3, k4⟩)
  obtain ⟨a0, a1, a2, a3, -⟩ := box4_facts (heap_later k3 HBX)
  clear cM HBld L1
  go_wp2
  go_loopw [14] (fun vi wr => ∃ (i : Nat), vi = .int .i64 (i : Nat) ∧ i ≤ x.thr.length ∧ Hid (Later W wr ∧ Bld C C (rowL x.mem ++ (x.thr.take i).flatMap tsL) wr)) (fun vi _ => x.thr.length - (intOf vi).toNat)
  case atStart => exact ⟨0, rfl, by omega, k3, by simpa using k2⟩
  case round =>
    obtain ⟨i, rfl, hi, hrr⟩ := hrel
    clear k2 k3 k4 a0 a1 a2 a3
    obtain ⟨Lr, Br⟩ := hrr.out
    obtain ⟨w7, rfl⟩ : ∃ w7, w7 = wr := ⟨_, rfl⟩
    clear hrr
    by_cases h8 : i < x.thr.length
    · obtain ⟨y, ht⟩ : ∃ y, x.thr[i]? = some y := ⟨_, List.getElem?_eq_getElem h8⟩
      obtain ⟨g, o, rfl, ok, ⟨c0, c1, c2, c3, c4, c5, c6, c7, c8, c9, c10, c11, c12, c13, c14, c15⟩⟩ := (HX.out.thr.later Lr).get ht
      have LB := Later.alloc (Later.refl w7) (.cells #[.int .i64 (y.r 0), .int .i64 (y.r 1), .int .i64 (y.r 2), .int .i64 (y.r 3), .int .i64 (y.r 4), .int .i64 (y.r 5), .int .i64 (y.r 6), .int .i64 (y.r 7), .bool y.z, .bool y.s, .bool y.c, .bool y.o, .int .i64 y.pc, .int .i64 y.phase, .int .i64 y.latch, .int .i64 y.status] 38)
      have HB := at_new w7 (.cells #[.int .i64 (y.r 0), .int .i64 (y.r 1), .int .i64 (y.r 2), .int .i64 (y.r 3), .int .i64 (y.r 4), .int .i64 (y.r 5), .int .i64 (y.r 6), .int .i64 (y.r 7), .bool y.z, .bool y.s, .bool y.c, .bool y.o, .int .i64 y.pc, .int .i64 y.phase, .int .i64 y.latch, .int .i64 y.status] 38)
      have e1 := flatM_next tsL ht
      have e2 := flatM_le tsL x.thr (i + 1)
      rw [e1, List.length_append] at e2
      have cT := writeThr_any y ok C (rowL x.mem ++ (x.thr.take i).flatMap tsL) W _ (Lr.trans LB) HG.out (by rw [hC]; exact Br.later LB) (by have := HLN.out; simp only [List.length_append]; omega)
      have HE : Hid (rowL x.mem ++ (x.thr.take (i + 1)).flatMap tsL = rowL x.mem ++ (x.thr.take i).flatMap tsL ++ tsL y) := Lib.hid (by rw [e1, List.append_assoc])
      rw [hC] at cT
      unfold tsV at cT
      clear e1 e2 ht Br
      go_upto_region 6 with (fail)
      generalize w7.alloc (.cells #[.int .i64 (y.r 0), .int .i64 (y.r 1), .int .i64 (y.r 2), .int .i64 (y.r 3), .int .i64 (y.r 4), .int .i64 (y.r 5), .int .i64 (y.r 6), .int .i64 (y.r 7), .bool y.z, .bool y.s, .bool y.c, .bool y.o, .int .i64 y.pc, .int .i64 y.phase, .int .i64 y.latch, .int .i64 y.status] 38) = W7 at *
      generalize w7.heap.size = D at *
      obtain ⟨d0, d1, d2, d3, d4, d5, d6, d7, d8, d9, d10, d11, d12, d13, d14, d15⟩ := box16_facts HB
      simp only [Nat.zero_add] at d0 d1 d2 d3 d4 d5 d6 d7 d8 d9 d10 d11 d12 d13 d14 d15
      clear c0 c1 c2 c3 c4 c5 c6 c7 c8 c9 c10 c11 c12 c13 c14 c15 HB
      go_wp2_with (go_at_call 25; apply Calls.mono; (focus (with_reducible (exact cT))); rintro e w8 ⟨rfl, k2, k3, k4⟩)
      go_roundw
      case rel => exact ⟨i + 1, by go_num, by omega, k3, by rw [HE.out]; exact k2⟩
      case measure => simp [intOf]; omega
    · obtain rfl : i = x.thr.length := by omega
      rw [List.take_length] at Br
      obtain ⟨a0, a1, a2, a3, -⟩ := box4_facts (heap_later Lr HBX)
      go_wp2
      go_loopw [24] (fun vi wr => ∃ (i : Nat), vi = .int .i64 (i : Nat) ∧ i ≤ x.bufs.length ∧ Hid (Later W wr ∧ Bld C C (rowL x.mem ++ x.thr.flatMap tsL ++ (x.bufs.take i).flatMap bufL) wr)) (fun vi _ => x.bufs.length - (intOf vi).toNat)
      case atStart => exact ⟨0, rfl, by omega, Lr, by simpa using Br⟩
      case round =>
        obtain ⟨j, rfl, hj, hrr⟩ := hrel
        clear Lr Br a0 a1 a2 a3
        obtain ⟨Lr, Br⟩ := hrr.out
        obtain ⟨w9, rfl⟩ : ∃ w9, w9 = wr := ⟨_, rfl⟩
        clear hrr
        by_cases h9 : j < x.bufs.length
        · obtain ⟨y, ht⟩ : ∃ y, x.bufs[j]? = some y := ⟨_, List.getElem?_eq_getElem h9⟩
          obtain ⟨g, o, v, rfl, hye, hy64, y0⟩ := HX.out.bufs.get ht
          replace y0 := cell_later y0 Lr
          have e1 := flatM_next bufL ht
          have e2 := flatM_le bufL x.bufs (j + 1)
          rw [e1, List.length_append] at e2
          have cT := writeBuf_any v y hy64 C (rowL x.mem ++ x.thr.flatMap tsL ++ (x.bufs.take j).flatMap bufL) W _ Lr HG.out hye (by rw [hC]; exact Br) (by have := HLN.out; simp only [List.length_append]; omega)
          have HE : Hid (rowL x.mem ++ x.thr.flatMap tsL ++ (x.bufs.take (j + 1)).flatMap bufL = rowL x.mem ++ x.thr.flatMap tsL ++ (x.bufs.take j).flatMap bufL ++ bufL y) := Lib.hid (by rw [e1]; simp only [List.append_assoc])
          rw [hC] at cT
          obtain ⟨vp, vc, rfl, -, -⟩ := RowIn.slice hye
          clear e1 e2 ht hye hy64 Br
          go_wp2_with (go_at_call 26; apply Calls.mono; (focus (with_reducible (exact cT))); rintro e w8 ⟨rfl, k2, k3, k4⟩)
          go_roundw
          case rel => exact ⟨j + 1, by go_num, by omega, k3, by rw [HE.out]; exact k2⟩
          case measure => simp [intOf]; omega
        · obtain rfl : j = x.bufs.length := by omega
          rw [List.take_length] at Br
          obtain ⟨a0, a1, a2, a3, -⟩ := box4_facts (heap_later Lr HBX)
          have cN := cL w9 (HG.out.later Lr)
          have hz : (rowL x.mem ++ x.thr.flatMap tsL ++ x.bufs.flatMap bufL).length + ((⟨#[35]⟩ : ByteArray) ++ txt x.lock).size ≤ 1000000000 := by
            have := HLN.out
            rw [bytes_size] at this
            simp only [List.length_append]
            omega
          have sT := txt_size x.lock HX.out.lock.1 HX.out.lock.2
          generalize hM : rowL x.mem ++ x.thr.flatMap tsL ++ x.bufs.flatMap bufL = M at *
          generalize hT : txt x.lock = T at *
          have HM : Hid (rowL x.mem ++ x.thr.flatMap tsL ++ x.bufs.flatMap bufL = M) := hM
          have HT : Hid (txt x.lock = T) := hT
          clear hM hT
          have cW := fun w' h => write_any C C M ((⟨#[35]⟩ : ByteArray) ++ T) w' h hz
          have cS := fun w' h => string_any C C (M ++ ((⟨#[35]⟩ : ByteArray) ++ T).data.toList) w' h
          generalize hR : M ++ ((⟨#[35]⟩ : ByteArray) ++ T).data.toList = R at *
          have HR : Hid (M ++ ((⟨#[35]⟩ : ByteArray) ++ T).data.toList = R) := hR
          clear hR
          clear hz cL HLN
          go_wp2_with (first
            | (go_at_call 28; apply Calls.mono; (focus (with_reducible (exact cN))); rintro e u1 ⟨rfl, hl1⟩)
            | (go_at_call 27; apply Calls.mono; (focus (with_reducible (exact cW _ (Br.later hl1)))); rintro e u2 ⟨rfl, k2, k3, k4⟩)
            | (go_at_call 29; apply Calls.mono; (focus (with_reducible (exact cS _ k2))); rintro e u3 ⟨rfl, k5⟩))
          go_ret
          have LF : Later W _ := Below.trans (Below.trans (Lr.trans hl1) (by rw [hC]; exact k3)) (by rw [hC]; exact k5)
          exact ⟨by rw [HM.out, HT.out, HR.out]; rfl, LL.trans LF⟩

end Go.Proofs.YtpnbpjhoilibcaaDoor
