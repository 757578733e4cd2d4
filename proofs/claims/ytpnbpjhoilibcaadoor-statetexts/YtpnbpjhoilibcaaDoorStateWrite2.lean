/-
  What package state writes of a buffer. All but the builder stands as it stood. Conditions: the listed table stands as it is laid; sizes as the theorem names them.
-/
import Derived.Test.YtpnbpjhoilibcaaDoorStateWrite
namespace Go.Proofs.YtpnbpjhoilibcaaDoor
open Go.RowKit
set_option linter.unusedVariables false
set_option linter.unusedSimpArgs false

def entS (e : Int × Int) : ByteArray := txt e.1 ++ ⟨#[61]⟩ ++ txt e.2
theorem entS_list (e : Int × Int) : (entS e).data.toList = entL e := by simp [entS, entL, numL, bytes_app]

theorem ents_next {L : List (Int × Int)} {i : Nat} {n : Int × Int} (h : L[i]? = some n) : joinL entL (L.take (i + 1)) = joinL entL (L.take i) ++ ((if i = 0 then [] else [44]) ++ entL n) := join_next entL h
theorem ents_le (L : List (Int × Int)) (i : Nat) : (joinL entL (L.take i)).length ≤ (joinL entL L).length := join_le entL L i

set_option maxRecDepth 1000000 in
set_option maxHeartbeats 4000000 in
theorem writeBuf_any (u : Value) (L : List (Int × Int)) (h64 : ∀ x ∈ L, I64 x.1 ∧ I64 x.2) (b : Nat) (l : List UInt8) (w0 w : World) (hl : Later w0 w) (hG : TabGood w0) (hI : EntRow w0 u L) (hb : Bld w0.heap.size b l w) (hlen : l.length + (bufL L).length ≤ 100000000) :
    Calls Tryd.prog 26 #[.pointer (some ⟨b, 0, none⟩), u] w fun e w' => e = .returned (.tuple #[]) ∧ Bld w0.heap.size b (l ++ bufL L) w' ∧ Later w0 w' ∧ Others b w w' := by
  obtain ⟨p, cap, rfl, h1, h2⟩ := RowIn.slice hI
  unfold maxLen at h2
  have HI : Hid (EntRow w0 (.slice p L.length cap) L) := hI
  have HG : Hid (TabGood w0) := hG
  have H64 : Hid (∀ x ∈ L, I64 x.1 ∧ I64 x.2) := h64
  have hbl : (bufL L).length = (joinL entL L).length + 2 := by simp [bufL]
  rw [hbl] at hlen
  have z40 := byte1_size 40
  have z44 := byte1_size 44
  have z41 := byte1_size 41
  have cO := fun w' h => write_any w0.heap.size b l (⟨#[40]⟩ : ByteArray) w' h (by omega)
  have HE0 : Hid (l ++ bufL L = (l ++ (⟨#[40]⟩ : ByteArray).data.toList) ++ joinL entL L ++ (⟨#[41]⟩ : ByteArray).data.toList) := Lib.hid (by simp [bufL, byte1])
  have hM : (l ++ (⟨#[40]⟩ : ByteArray).data.toList).length = l.length + 1 := by simp [byte1]
  rw [HE0.out]
  generalize l ++ (⟨#[40]⟩ : ByteArray).data.toList = M at *
  have hlenM : M.length + (joinL entL L).length ≤ 100000000 := by omega
  clear hG hI h64 hbl hM hlen HE0
  go_enter Tryd.func26, Tryd.ntmps26
  go_upto_region 1 with (go_at_call 27; apply Calls.mono; (focus (with_reducible (exact cO _ hb))); rintro e w1 ⟨rfl, k2, k3, k4⟩)
  have LW1 : Later w0 w1 := Below.trans hl k3
  clear cO hb hl k3
  go_wp2
  go_loopw [10] (fun vi wr => ∃ (i : Nat), vi = .int .i64 (i : Nat) ∧ i ≤ L.length ∧ Hid (Later w0 wr ∧ Bld w0.heap.size b (M ++ joinL entL (L.take i)) wr ∧ Others b w wr)) (fun vi _ => L.length - (intOf vi).toNat)
  case atStart => exact ⟨0, rfl, by omega, LW1, by simpa [joinL] using k2, k4⟩
  case round =>
    obtain ⟨i, rfl, hi, hrr⟩ := hrel
    clear LW1 k2 k4
    obtain ⟨Lr, Br, Or⟩ := hrr.out
    obtain ⟨w7, rfl⟩ : ∃ w7, w7 = wr := ⟨_, rfl⟩
    clear hrr
    by_cases h8 : i < L.length
    · obtain ⟨x, ht⟩ : ∃ t, L[i]? = some t := ⟨_, List.getElem?_eq_getElem h8⟩
      obtain ⟨h6a, h6b⟩ := H64.out x (List.mem_of_getElem? ht)
      obtain ⟨g, o, rfl, x0, x1⟩ := (HI.out.later Lr).get ht
      have cA := fun w' h => numTab_any x.1 h6a.1 h6a.2 w' h
      have cB := fun w' h => numTab_any x.2 h6b.1 h6b.2 w' h
      have sA := txt_size x.1 h6a.1 h6a.2
      have sB := txt_size x.2 h6b.1 h6b.2
      have e1 := ents_next ht
      have e2 := ents_le L (i + 1)
      rw [e1] at e2
      rw [← entS_list] at e1 e2
      unfold entS at e1 e2
      obtain ⟨xa, xb⟩ := x
      dsimp only at *
      generalize txt xa = TA at *
      generalize txt xb = TB at *
      have sZ : (TA ++ ⟨#[61]⟩ ++ TB).data.toList.length = (TA ++ ⟨#[61]⟩ ++ TB).size := bytes_size _
      have hE : Hid (joinL entL (L.take (i + 1)) = joinL entL (L.take i) ++ ((if i = 0 then [] else [44]) ++ (TA ++ ⟨#[61]⟩ ++ TB).data.toList)) := e1
      simp only [List.length_append] at e2 sZ
      have LB := Later.alloc (Later.refl w7) (.cells #[.int .i64 xa, .int .i64 xb] 41)
      have HB := at_new w7 (.cells #[.int .i64 xa, .int .i64 xb] 41)
      have LW := Lr.trans LB
      have BW := Br.later LB
      have OW := Or.trans (Later.others (b := b) LB)
      clear e1 ht h6a h6b Lr Br Or LB
      by_cases h0 : i = 0
      · subst h0
        simp only [Nat.add_zero, Nat.zero_mul] at x0 x1
        have hlz : (M ++ joinL entL (L.take 0)).length + (TA ++ ⟨#[61]⟩ ++ TB).size ≤ 1000000000 := by simp only [if_pos, List.length_nil] at e2; simp only [List.length_append]; omega
        have cW := fun w' h => write_any w0.heap.size b (M ++ joinL entL (L.take 0)) (TA ++ ⟨#[61]⟩ ++ TB) w' h hlz
        have hE2 : Hid (M ++ joinL entL (L.take (0 + 1)) = (M ++ joinL entL (L.take 0)) ++ (TA ++ ⟨#[61]⟩ ++ TB).data.toList) := Lib.hid (by rw [hE.out]; simp)
        generalize M ++ joinL entL (L.take 0) = M1 at *
        clear hlz e2 hE sZ
        go_upto_region 4 with (fail)
        generalize w7.alloc (.cells #[.int .i64 xa, .int .i64 xb] 41) = W7 at *
        generalize hC : w7.heap.size = C at *
        clear x0 x1
        go_upto_region 6 with (fail)
        obtain ⟨c0, c1, -⟩ := box2_facts HB
        have HWW : Hid (Later w0 W7 ∧ Bld w0.heap.size b M1 W7 ∧ Others b w W7) := ⟨LW, BW, OW⟩
        have ne : Nonempty (After W7) := ⟨⟨W7, Later.refl W7⟩⟩
        have k0 := fun p : After W7 => cell_after c0 p
        have k1 := fun p : After W7 => cell_after c1 p
        have d0 := fun p : After W7 => cA p.world (HG.out.later (LW.trans p.later))
        have d1 := fun p : After W7 => cB p.world (HG.out.later (LW.trans p.later))
        clear c0 c1 cA cB LW BW OW HB
        refine wp_later_off 9 rfl rfl (by kernel_rfl) (by kernel_rfl) rfl (by kernel_rfl) (by kernel_rfl) (by kernel_rfl) (by kernel_rfl) ?_
        simp only [List.take_succ_cons, List.take_zero]
        repeat (first | go_big_quiet_step (((go_at_call 28; with_reducible (first | exact Calls.after_of (d0 _) | exact Calls.after_of (d1 _))))) | quiet_step (((go_at_call 28; with_reducible (first | exact Calls.after_of (d0 _) | exact Calls.after_of (d1 _))))))
        refine wpQuiet_nil ?_
        intro _ hw'
        obtain ⟨p, hw''⟩ := hw'
        subst hw''
        obtain ⟨LW, BW, OW⟩ := HWW.out
        have BP := BW.later p.later
        clear k0 k1 d0 d1 ne
        show Oper.wp _ _ _ _ _ _
        go_simp
        go_at_call 27
        apply Calls.mono
        (focus (with_reducible (exact cW _ BP)))
        rintro e w9 ⟨rfl, k2, k3, k4⟩
        go_wp2
        go_roundw
        case rel => exact ⟨1, by go_num, by omega, Below.trans (LW.trans p.later) k3, by rw [hE2.out]; exact k2, OW.trans ((Later.others p.later).trans k4)⟩
        case measure => simp [intOf]; omega
      · have hpos : (0 : Int) < i := by omega
        rw [if_neg h0] at hE e2
        have e3 : ([44] : List UInt8).length = 1 := rfl
        have hlz : (M ++ joinL entL (L.take i)).length + (⟨#[44]⟩ : ByteArray).size ≤ 1000000000 := by simp only [List.length_append]; omega
        have cV := fun w' h => write_any w0.heap.size b (M ++ joinL entL (L.take i)) (⟨#[44]⟩ : ByteArray) w' h hlz
        have hlz2 : (M ++ joinL entL (L.take i) ++ (⟨#[44]⟩ : ByteArray).data.toList).length + (TA ++ ⟨#[61]⟩ ++ TB).size ≤ 1000000000 := by rw [byte1]; simp only [List.length_append]; omega
        have cW := fun w' h => write_any w0.heap.size b (M ++ joinL entL (L.take i) ++ (⟨#[44]⟩ : ByteArray).data.toList) (TA ++ ⟨#[61]⟩ ++ TB) w' h hlz2
        have hE2 : Hid (M ++ joinL entL (L.take (i + 1)) = (M ++ joinL entL (L.take i) ++ (⟨#[44]⟩ : ByteArray).data.toList) ++ (TA ++ ⟨#[61]⟩ ++ TB).data.toList) := Lib.hid (by rw [hE.out, byte1]; simp only [List.append_assoc])
        generalize M ++ joinL entL (L.take i) ++ (⟨#[44]⟩ : ByteArray).data.toList = M1 at *
        clear hlz hlz2 e2 hE sZ
        go_upto_region 4 with (fail)
        generalize w7.alloc (.cells #[.int .i64 xa, .int .i64 xb] 41) = W7 at *
        generalize hC : w7.heap.size = C at *
        clear x0 x1
        go_upto_region 6 with (go_at_call 27; apply Calls.mono; (focus (with_reducible (exact cV _ BW))); rintro e W8 ⟨rfl, j2, j3, j4⟩)
        replace HB := Others.box j4 BW HB (by decide) (by decide)
        replace LW : Later w0 W8 := Below.trans LW j3
        replace OW := OW.trans j4
        clear BW j3 j4 cV
        have BW := j2
        clear j2
        obtain ⟨c0, c1, -⟩ := box2_facts HB
        have HWW : Hid (Later w0 W8 ∧ Bld w0.heap.size b M1 W8 ∧ Others b w W8) := ⟨LW, BW, OW⟩
        have ne : Nonempty (After W8) := ⟨⟨W8, Later.refl W8⟩⟩
        have k0 := fun p : After W8 => cell_after c0 p
        have k1 := fun p : After W8 => cell_after c1 p
        have d0 := fun p : After W8 => cA p.world (HG.out.later (LW.trans p.later))
        have d1 := fun p : After W8 => cB p.world (HG.out.later (LW.trans p.later))
        clear c0 c1 cA cB LW BW OW HB
        refine wp_later_off 9 rfl rfl (by kernel_rfl) (by kernel_rfl) rfl (by kernel_rfl) (by kernel_rfl) (by kernel_rfl) (by kernel_rfl) ?_
        simp only [List.take_succ_cons, List.take_zero]
        repeat (first | go_big_quiet_step (((go_at_call 28; with_reducible (first | exact Calls.after_of (d0 _) | exact Calls.after_of (d1 _))))) | quiet_step (((go_at_call 28; with_reducible (first | exact Calls.after_of (d0 _) | exact Calls.after_of (d1 _))))))
        refine wpQuiet_nil ?_
        intro _ hw'
        obtain ⟨p, hw''⟩ := hw'
        subst hw''
        obtain ⟨LW, BW, OW⟩ := HWW.out
        have BP := BW.later p.later
        clear k0 k1 d0 d1 ne
        show Oper.wp _ _ _ _ _ _
        go_simp
        go_at_call 27
        apply Calls.mono
        (focus (with_reducible (exact cW _ BP)))
        rintro e w9 ⟨rfl, k2, k3, k4⟩
        go_wp2
        go_roundw
        case rel => exact ⟨i + 1, by go_num, by omega, Below.trans (LW.trans p.later) k3, by rw [hE2.out]; exact k2, OW.trans ((Later.others p.later).trans k4)⟩
        case measure => simp [intOf]; omega
    · obtain rfl : i = L.length := by omega
      rw [List.take_length] at Br
      have cW := fun w' h => write_any w0.heap.size b (M ++ joinL entL L) (⟨#[41]⟩ : ByteArray) w' h (by simp only [List.length_append]; omega)
      generalize hM1 : M ++ joinL entL L = M1 at *
      have HF : Hid (M ++ joinL entL L = M1) := hM1
      clear hM1
      go_wp2_with (go_at_call 27; apply Calls.mono; (focus (with_reducible (exact cW _ Br))); rintro e w2 ⟨rfl, k2, k3, k4⟩)
      (try simp only [Exit.inBlock, Exit.then])
      refine bodyPost_end (results_none rfl _ _ _) rfl ?_
      exact ⟨rfl, by rw [HF.out]; exact k2, Below.trans Lr k3, Or.trans k4⟩

end Go.Proofs.YtpnbpjhoilibcaaDoor
