/-
  What package state's writers write: numbers, a thread's state, a buffer. All but the builder stands as it stood. Conditions: the listed table stands as it is laid; sizes as the theorems name them.
-/
import Derived.Test.YtpnbpjhoilibcaaDoorStateText
import Derived.Test.YtpnbpjhoilibcaaDoorShowBuild
import Derived.Test.YtpnbpjhoilibcaaDoorNumTab
import Derived.Test.YtpnbpjhoilibcaaDoorLaterOff
import Derived.Deep.CutRange
namespace Go.Proofs.YtpnbpjhoilibcaaDoor
open Go.RowKit
set_option linter.unusedVariables false
set_option linter.unusedSimpArgs false

def bitS (b : Bool) : ByteArray := ⟨#[bitL b]⟩
theorem bitS_size (b : Bool) : (bitS b).size = 1 := rfl

set_option maxRecDepth 1000000 in
theorem digit_any (b : Bool) (w : World) : Calls Tryd.prog 42 #[.bool b] w fun e w' => e = .returned (.string (bitS b)) ∧ Later w w' := by
  cases b
  · go_enter Tryd.func42, Tryd.ntmps42
    go_wp2
    go_ret
    exact ⟨rfl, Later.refl w⟩
  · go_enter Tryd.func42, Tryd.ntmps42
    go_wp2
    go_ret
    exact ⟨rfl, Later.refl w⟩

def flagsS (z s c o : Bool) : ByteArray := bitS z ++ bitS s ++ bitS c ++ bitS o
theorem flagsS_list (x : TS) : (flagsS x.z x.s x.c x.o).data.toList = flagsL x := by simp [flagsS, flagsL, bitS]
theorem flagsS_size (z s c o : Bool) : (flagsS z s c o).size = 4 := by simp [flagsS, bitS_size]

set_option maxRecDepth 1000000 in
set_option maxHeartbeats 2000000 in
theorem flagsText_any (z s c o : Bool) (w : World) : Calls Tryd.prog 39 #[.agg #[.bool z, .bool s, .bool c, .bool o]] w fun e w' => e = .returned (.string (flagsS z s c o)) ∧ Later w w' := by
  have cD := fun b w => digit_any b w
  have s0 := bitS_size z
  have s1 := bitS_size s
  have s2 := bitS_size c
  have s3 := bitS_size o
  have LL := Later.alloc (Later.refl w) (.cells #[.bool z, .bool s, .bool c, .bool o] 36)
  obtain ⟨a0, a1, a2, a3, -⟩ := box4_facts (at_new w (.cells #[.bool z, .bool s, .bool c, .bool o] 36))
  have d0 := fun w => cD z w
  have d1 := fun w => cD s w
  have d2 := fun w => cD c w
  have d3 := fun w => cD o w
  unfold flagsS
  clear cD
  generalize bitS z = b0 at *
  generalize bitS s = b1 at *
  generalize bitS c = b2 at *
  generalize bitS o = b3 at *
  go_enter Tryd.func39, Tryd.ntmps39
  go_upto_region 1 with (fail)
  generalize w.alloc (.cells #[.bool z, .bool s, .bool c, .bool o] 36) = W at *
  have ne : Nonempty (After W) := ⟨⟨W, Later.refl W⟩⟩
  have k0 := fun p : After W => cell_after a0 p
  have k1 := fun p : After W => cell_after a1 p
  have k2 := fun p : After W => cell_after a2 p
  have k3 := fun p : After W => cell_after a3 p
  have c0 := fun p : After W => d0 p.world
  have c1 := fun p : After W => d1 p.world
  have c2 := fun p : After W => d2 p.world
  have c3 := fun p : After W => d3 p.world
  clear d0 d1 d2 d3 a0 a1 a2 a3
  refine wp_region_later (by kernel_rfl) (by kernel_rfl) ?_
  repeat (first | go_big_quiet_step (((go_at_call 42; with_reducible (first | exact Calls.after_of (c0 _) | exact Calls.after_of (c1 _) | exact Calls.after_of (c2 _) | exact Calls.after_of (c3 _))))) | quiet_step (((go_at_call 42; with_reducible (first | exact Calls.after_of (c0 _) | exact Calls.after_of (c1 _) | exact Calls.after_of (c2 _) | exact Calls.after_of (c3 _))))))
  refine wpQuiet_nil ?_
  intro _ hw'
  obtain ⟨p, hw''⟩ := hw'
  subst hw''
  clear k0 k1 k2 k3 c0 c1 c2 c3
  go_wp2
  go_ret
  exact ⟨rfl, LL.trans p.later⟩

theorem row_next {L : List Int} {i : Nat} {n : Int} (h : L[i]? = some n) : rowL (L.take (i + 1)) = rowL (L.take i) ++ ((if i = 0 then [] else [44]) ++ numL n) := join_next numL h
theorem row_le (L : List Int) (i : Nat) : (rowL (L.take i)).length ≤ (rowL L).length := join_le numL L i
theorem byte1 (b : UInt8) : (⟨#[b]⟩ : ByteArray).data.toList = [b] := rfl
theorem byte1_size (b : UInt8) : (⟨#[b]⟩ : ByteArray).size = 1 := rfl

set_option maxRecDepth 1000000 in
set_option maxHeartbeats 4000000 in
theorem writeNumbers_any (u : Value) (L : List Int) (b : Nat) (l : List UInt8) (w0 w : World) (hl : Later w0 w) (hG : TabGood w0) (hI : ∀ w', Later w0 w' → Others b w w' → IntsIn w' u L) (hb : Bld w0.heap.size b l w) (hlen : l.length + (rowL L).length ≤ 100000000) :
    Calls Tryd.prog 24 #[.pointer (some ⟨b, 0, none⟩), u] w fun e w' => e = .returned (.tuple #[]) ∧ Bld w0.heap.size b (l ++ rowL L) w' ∧ Later w0 w' ∧ Others b w w' := by
  obtain ⟨p, cap, rfl, h1, h2⟩ := RowIn.slice (hI w hl (Later.others (Later.refl w)))
  unfold maxLen at h2
  have HI : Hid (∀ w', Later w0 w' → Others b w w' → IntsIn w' (.slice p L.length cap) L) := hI
  have HG : Hid (TabGood w0) := hG
  clear hG hI
  go_enter Tryd.func24, Tryd.ntmps24
  go_wp2
  go_loopw [8] (fun vi wr => ∃ (i : Nat), vi = .int .i64 (i : Nat) ∧ i ≤ L.length ∧ Hid (Later w0 wr ∧ Bld w0.heap.size b (l ++ rowL (L.take i)) wr ∧ Others b w wr)) (fun vi _ => L.length - (intOf vi).toNat)
  case atStart => exact ⟨0, rfl, by omega, hl, by simpa [rowL, joinL] using hb, Later.others (Later.refl w)⟩
  case round =>
    obtain ⟨i, rfl, hi, hrr⟩ := hrel
    obtain ⟨Lr, Br, Or⟩ := hrr.out
    clear hrr
    by_cases h8 : i < L.length
    · obtain ⟨n, ht⟩ : ∃ t, L[i]? = some t := ⟨_, List.getElem?_eq_getElem h8⟩
      obtain ⟨g, o, rfl, hn64, hc⟩ := IntsIn.get (HI.out wr Lr Or) ht
      have cN := fun w' h => numTab_any n hn64.1 hn64.2 w' h
      have e1 := row_next ht
      have e2 := row_le L (i + 1)
      rw [e1] at e2
      unfold numL at e1 e2
      have hE : Hid (rowL (L.take (i + 1)) = rowL (L.take i) ++ ((if i = 0 then [] else [44]) ++ (txt n).data.toList)) := e1
      have sN := txt_size n hn64.1 hn64.2
      generalize txt n = Z at *
      have sZ : Z.data.toList.length = Z.size := bytes_size _
      simp only [List.length_append] at e2
      clear e1 ht hn64
      by_cases h0 : i = 0
      · subst h0
        simp only [Nat.add_zero] at hc
        have hlz : (l ++ rowL (L.take 0)).length + Z.size ≤ 1000000000 := by simp only [List.length_append]; omega
        have cW := fun w' h => write_any w0.heap.size b (l ++ rowL (L.take 0)) Z w' h hlz
        have hE2 : Hid (l ++ rowL (L.take (0 + 1)) = (l ++ rowL (L.take 0)) ++ Z.data.toList) := Lib.hid (by rw [hE.out]; simp)
        generalize l ++ rowL (L.take 0) = M at *
        clear hlz e2 hE
        go_wp2_with (first
          | (go_at_call 28; apply Calls.mono; (focus (with_reducible (exact cN _ (HG.out.later Lr)))); rintro e w1 ⟨rfl, hl1⟩)
          | (go_at_call 27; apply Calls.mono; (focus (with_reducible (exact cW _ (Br.later hl1)))); rintro e w2 ⟨rfl, k2, k3, k4⟩))
        go_roundw
        case rel => exact ⟨1, by go_num, by omega, Below.trans (Lr.trans hl1) k3, by rw [hE2.out]; exact k2, Or.trans ((Later.others hl1).trans k4)⟩
        case measure => simp [intOf]; omega
      · have hpos : (0 : Int) < i := by omega
        rw [if_neg h0] at hE e2
        have e3 : ([44] : List UInt8).length = 1 := rfl
        have b1 := byte1_size 44
        have hlz : (l ++ rowL (L.take i)).length + (⟨#[44]⟩ : ByteArray).size ≤ 1000000000 := by simp only [List.length_append]; omega
        have cV := fun w' h => write_any w0.heap.size b (l ++ rowL (L.take i)) (⟨#[44]⟩ : ByteArray) w' h hlz
        have hlz2 : (l ++ rowL (L.take i) ++ (⟨#[44]⟩ : ByteArray).data.toList).length + Z.size ≤ 1000000000 := by rw [byte1]; simp only [List.length_append]; omega
        have cW := fun w' h => write_any w0.heap.size b (l ++ rowL (L.take i) ++ (⟨#[44]⟩ : ByteArray).data.toList) Z w' h hlz2
        have hE2 : Hid (l ++ rowL (L.take (i + 1)) = (l ++ rowL (L.take i) ++ (⟨#[44]⟩ : ByteArray).data.toList) ++ Z.data.toList) := Lib.hid (by rw [hE.out, byte1]; simp only [List.append_assoc])
        generalize l ++ rowL (L.take i) ++ (⟨#[44]⟩ : ByteArray).data.toList = M at *
        clear hlz hlz2 e2 hE
        go_wp2_with (first
          | (go_at_call 28; apply Calls.mono; (focus (with_reducible (exact cN _ (HG.out.later Lv)))); rintro e w1 ⟨rfl, hl1⟩)
          | (go_at_call 27; apply Calls.mono; (focus (with_reducible (exact cV _ Br))); rintro e wv ⟨rfl, j2, j3, j4⟩; clear cV; have Lv : Later w0 wv := Below.trans Lr j3)
          | (go_at_call 27; apply Calls.mono; (focus (with_reducible (exact cW _ (j2.later hl1)))); rintro e w2 ⟨rfl, k2, k3, k4⟩))
        go_roundw
        case rel => exact ⟨i + 1, by go_num, by omega, Below.trans (Lv.trans hl1) k3, by rw [hE2.out]; exact k2, Or.trans (j4.trans ((Later.others hl1).trans k4))⟩
        case measure => simp [intOf]; omega
    · obtain rfl : i = L.length := by omega
      rw [List.take_length] at Br
      go_wp2
      (try simp only [Exit.inBlock, Exit.then])
      refine bodyPost_end (results_none rfl _ _ _) rfl ?_
      exact ⟨rfl, Br, Lr, Or⟩

theorem regs_get {x : TS} : ∀ {i : Nat} {a : Int}, (regsL x)[i]? = some a → i < 8 ∧ a = x.r i
  | 0, a, h => by simp [regsL] at h; exact ⟨by omega, h.symm⟩
  | 1, a, h => by simp [regsL] at h; exact ⟨by omega, h.symm⟩
  | 2, a, h => by simp [regsL] at h; exact ⟨by omega, h.symm⟩
  | 3, a, h => by simp [regsL] at h; exact ⟨by omega, h.symm⟩
  | 4, a, h => by simp [regsL] at h; exact ⟨by omega, h.symm⟩
  | 5, a, h => by simp [regsL] at h; exact ⟨by omega, h.symm⟩
  | 6, a, h => by simp [regsL] at h; exact ⟨by omega, h.symm⟩
  | 7, a, h => by simp [regsL] at h; exact ⟨by omega, h.symm⟩
  | i + 8, a, h => by simp [regsL] at h

/-- A thread's registers as a slice of their own. -/
theorem regs_row {w : World} {g : Nat} {x : TS} (h : w.heap[g]? = some (.cells #[.int .i64 (x.r 0), .int .i64 (x.r 1), .int .i64 (x.r 2), .int .i64 (x.r 3), .int .i64 (x.r 4), .int .i64 (x.r 5), .int .i64 (x.r 6), .int .i64 (x.r 7), .bool x.z, .bool x.s, .bool x.c, .bool x.o, .int .i64 x.pc, .int .i64 x.phase, .int .i64 x.latch, .int .i64 x.status] 38)) (ok : x.Ok) : IntsIn w (.slice (some ⟨g, 0, none⟩) 8 8) (regsL x) := by
  refine ⟨_, 8, rfl, by simp [regsL], by unfold maxLen; omega, fun _ => ⟨g, 0, rfl, fun i a hi => ?_⟩⟩
  obtain ⟨h8, rfl⟩ := regs_get hi
  refine ⟨_, ⟨rfl, ok.r i⟩, fun j c hj => ?_⟩
  obtain rfl : j = 0 := by
    have := (List.getElem?_eq_some_iff.1 hj).1
    simp at this
    omega
  simp at hj
  subst hj
  match i, h8 with
  | 0, _ => simp [World.cell?, h]
  | 1, _ => simp [World.cell?, h]
  | 2, _ => simp [World.cell?, h]
  | 3, _ => simp [World.cell?, h]
  | 4, _ => simp [World.cell?, h]
  | 5, _ => simp [World.cell?, h]
  | 6, _ => simp [World.cell?, h]
  | 7, _ => simp [World.cell?, h]
  | i + 8, h => omega

theorem box16_facts {w : World} {g : Nat} {x : TS} (h : w.heap[g]? = some (.cells #[.int .i64 (x.r 0), .int .i64 (x.r 1), .int .i64 (x.r 2), .int .i64 (x.r 3), .int .i64 (x.r 4), .int .i64 (x.r 5), .int .i64 (x.r 6), .int .i64 (x.r 7), .bool x.z, .bool x.s, .bool x.c, .bool x.o, .int .i64 x.pc, .int .i64 x.phase, .int .i64 x.latch, .int .i64 x.status] 38)) : At16 w g 0 x := by
  constructor <;> simp [World.cell?, h]

theorem ts_parts (x : TS) : tsL x = ((⟨#[124]⟩ : ByteArray) ++ txt x.pc ++ ⟨#[46]⟩ ++ txt x.phase ++ ⟨#[46]⟩ ++ txt x.latch).data.toList ++ (((⟨#[46]⟩ : ByteArray) ++ txt x.status ++ ⟨#[46]⟩ ++ flagsS x.z x.s x.c x.o ++ ⟨#[46]⟩).data.toList ++ rowL (regsL x)) := by
  simp [tsL, bytes_app, flagsS_list, numL]

set_option maxRecDepth 1000000 in
set_option maxHeartbeats 4000000 in
theorem writeThr_any (x : TS) (ok : x.Ok) (b : Nat) (l : List UInt8) (w0 w : World) (hl : Later w0 w) (hG : TabGood w0) (hb : Bld w0.heap.size b l w) (hlen : l.length + (tsL x).length ≤ 100000000) :
    Calls Tryd.prog 25 #[.pointer (some ⟨b, 0, none⟩), tsV x] w fun e w' => e = .returned (.tuple #[]) ∧ Bld w0.heap.size b (l ++ tsL x) w' ∧ Later w0 w' ∧ Others b w w' := by
  have HG : Hid (TabGood w0) := hG
  have HK : Hid x.Ok := ok
  have e1 := ts_parts x
  rw [e1] at hlen ⊢
  have cF := fun w' => flagsText_any x.z x.s x.c x.o w'
  have sF := flagsS_size x.z x.s x.c x.o
  have cA := fun w' h => numTab_any x.pc ok.pc.1 ok.pc.2 w' h
  have cB := fun w' h => numTab_any x.phase ok.phase.1 ok.phase.2 w' h
  have cC := fun w' h => numTab_any x.latch ok.latch.1 ok.latch.2 w' h
  have cS := fun w' h => numTab_any x.status ok.status.1 ok.status.2 w' h
  have sA := txt_size x.pc ok.pc.1 ok.pc.2
  have sB := txt_size x.phase ok.phase.1 ok.phase.2
  have sC := txt_size x.latch ok.latch.1 ok.latch.2
  have sS := txt_size x.status ok.status.1 ok.status.2
  clear e1
  generalize txt x.pc = TA at *
  generalize txt x.phase = TB at *
  generalize txt x.latch = TC at *
  generalize txt x.status = TD at *
  generalize flagsS x.z x.s x.c x.o = TF at *
  have z1 : ((⟨#[124]⟩ : ByteArray) ++ TA ++ ⟨#[46]⟩ ++ TB ++ ⟨#[46]⟩ ++ TC).data.toList.length = ((⟨#[124]⟩ : ByteArray) ++ TA ++ ⟨#[46]⟩ ++ TB ++ ⟨#[46]⟩ ++ TC).size := bytes_size _
  have z2 : ((⟨#[46]⟩ : ByteArray) ++ TD ++ ⟨#[46]⟩ ++ TF ++ ⟨#[46]⟩).data.toList.length = ((⟨#[46]⟩ : ByteArray) ++ TD ++ ⟨#[46]⟩ ++ TF ++ ⟨#[46]⟩).size := bytes_size _
  rw [List.length_append, List.length_append] at hlen
  have cW := fun w' h => write_any w0.heap.size b l ((⟨#[124]⟩ : ByteArray) ++ TA ++ ⟨#[46]⟩ ++ TB ++ ⟨#[46]⟩ ++ TC) w' h (by omega)
  have cV := fun w' h => write_any w0.heap.size b (l ++ ((⟨#[124]⟩ : ByteArray) ++ TA ++ ⟨#[46]⟩ ++ TB ++ ⟨#[46]⟩ ++ TC).data.toList) ((⟨#[46]⟩ : ByteArray) ++ TD ++ ⟨#[46]⟩ ++ TF ++ ⟨#[46]⟩) w' h (by rw [List.length_append]; omega)
  have hlen3 : (l ++ ((⟨#[124]⟩ : ByteArray) ++ TA ++ ⟨#[46]⟩ ++ TB ++ ⟨#[46]⟩ ++ TC).data.toList ++ ((⟨#[46]⟩ : ByteArray) ++ TD ++ ⟨#[46]⟩ ++ TF ++ ⟨#[46]⟩).data.toList).length + (rowL (regsL x)).length ≤ 100000000 := by rw [List.length_append, List.length_append]; omega
  have HE : Hid (l ++ (((⟨#[124]⟩ : ByteArray) ++ TA ++ ⟨#[46]⟩ ++ TB ++ ⟨#[46]⟩ ++ TC).data.toList ++ (((⟨#[46]⟩ : ByteArray) ++ TD ++ ⟨#[46]⟩ ++ TF ++ ⟨#[46]⟩).data.toList ++ rowL (regsL x))) = l ++ ((⟨#[124]⟩ : ByteArray) ++ TA ++ ⟨#[46]⟩ ++ TB ++ ⟨#[46]⟩ ++ TC).data.toList ++ ((⟨#[46]⟩ : ByteArray) ++ TD ++ ⟨#[46]⟩ ++ TF ++ ⟨#[46]⟩).data.toList ++ rowL (regsL x)) := Lib.hid (by simp only [List.append_assoc])
  rw [HE.out]
  generalize l ++ ((⟨#[124]⟩ : ByteArray) ++ TA ++ ⟨#[46]⟩ ++ TB ++ ⟨#[46]⟩ ++ TC).data.toList = M1 at *
  generalize M1 ++ ((⟨#[46]⟩ : ByteArray) ++ TD ++ ⟨#[46]⟩ ++ TF ++ ⟨#[46]⟩).data.toList = M2 at *
  clear HE z1 z2 hlen
  unfold tsV
  have LL := Later.alloc (Later.refl w) (.cells #[.int .i64 (x.r 0), .int .i64 (x.r 1), .int .i64 (x.r 2), .int .i64 (x.r 3), .int .i64 (x.r 4), .int .i64 (x.r 5), .int .i64 (x.r 6), .int .i64 (x.r 7), .bool x.z, .bool x.s, .bool x.c, .bool x.o, .int .i64 x.pc, .int .i64 x.phase, .int .i64 x.latch, .int .i64 x.status] 38)
  have HB := at_new w (.cells #[.int .i64 (x.r 0), .int .i64 (x.r 1), .int .i64 (x.r 2), .int .i64 (x.r 3), .int .i64 (x.r 4), .int .i64 (x.r 5), .int .i64 (x.r 6), .int .i64 (x.r 7), .bool x.z, .bool x.s, .bool x.c, .bool x.o, .int .i64 x.pc, .int .i64 x.phase, .int .i64 x.latch, .int .i64 x.status] 38)
  have HL3 : Hid (M2.length + (rowL (regsL x)).length ≤ 100000000) := hlen3
  clear hlen3 hG ok
  go_enter Tryd.func25, Tryd.ntmps25
  go_upto_region 1 with (fail)
  have LW := hl.trans LL
  have OW := Later.others (b := b) LL
  have BW := hb.later LL
  generalize w.alloc (.cells #[.int .i64 (x.r 0), .int .i64 (x.r 1), .int .i64 (x.r 2), .int .i64 (x.r 3), .int .i64 (x.r 4), .int .i64 (x.r 5), .int .i64 (x.r 6), .int .i64 (x.r 7), .bool x.z, .bool x.s, .bool x.c, .bool x.o, .int .i64 x.pc, .int .i64 x.phase, .int .i64 x.latch, .int .i64 x.status] 38) = W at *
  generalize hC : w.heap.size = C at *
  obtain ⟨a0, a1, a2, a3, a4, a5, a6, a7, a8, a9, a10, a11, a12, a13, a14, a15⟩ := box16_facts HB
  simp only [Nat.zero_add] at a0 a1 a2 a3 a4 a5 a6 a7 a8 a9 a10 a11 a12 a13 a14 a15
  have HWW : Hid (Later w0 W ∧ Bld w0.heap.size b l W ∧ Others b w W ∧ W.heap[C]? = some (.cells #[.int .i64 (x.r 0), .int .i64 (x.r 1), .int .i64 (x.r 2), .int .i64 (x.r 3), .int .i64 (x.r 4), .int .i64 (x.r 5), .int .i64 (x.r 6), .int .i64 (x.r 7), .bool x.z, .bool x.s, .bool x.c, .bool x.o, .int .i64 x.pc, .int .i64 x.phase, .int .i64 x.latch, .int .i64 x.status] 38)) := ⟨LW, BW, OW, HB⟩
  have ne : Nonempty (After W) := ⟨⟨W, Later.refl W⟩⟩
  have k0 := fun p : After W => cell_after a12 p
  have k1 := fun p : After W => cell_after a13 p
  have k2 := fun p : After W => cell_after a14 p
  have d0 := fun p : After W => cA p.world (HG.out.later (LW.trans p.later))
  have d1 := fun p : After W => cB p.world (HG.out.later (LW.trans p.later))
  have d2 := fun p : After W => cC p.world (HG.out.later (LW.trans p.later))
  clear a0 a1 a2 a3 a4 a5 a6 a7 a8 a9 a10 a11 a12 a13 a14 a15 cA cB cC LW BW OW HB hb hl LL
  refine wp_later_off 15 rfl rfl (by kernel_rfl) (by kernel_rfl) rfl (by kernel_rfl) (by kernel_rfl) (by kernel_rfl) (by kernel_rfl) ?_
  simp only [List.take_succ_cons, List.take_zero]
  repeat (first | go_big_quiet_step (((go_at_call 28; with_reducible (first | exact Calls.after_of (d0 _) | exact Calls.after_of (d1 _) | exact Calls.after_of (d2 _))))) | quiet_step (((go_at_call 28; with_reducible (first | exact Calls.after_of (d0 _) | exact Calls.after_of (d1 _) | exact Calls.after_of (d2 _))))))
  refine wpQuiet_nil ?_
  intro _ hw'
  obtain ⟨p, hw''⟩ := hw'
  subst hw''
  obtain ⟨LW, BW, OW, HB⟩ := HWW.out
  have BP := BW.later p.later
  clear k0 k1 k2 d0 d1 d2 ne
  show Oper.wp _ _ _ _ _ _
  go_simp
  go_at_call 27
  apply Calls.mono
  (focus (with_reducible (exact cW _ BP)))
  rintro e w2 ⟨rfl, k2, k3, k4⟩
  have L2 : Later w0 w2 := Below.trans (LW.trans p.later) k3
  have O2 := OW.trans ((Later.others p.later).trans k4)
  have H2 := Others.box k4 BP (heap_later p.later HB) (by decide) (by decide)
  clear cW LW BW OW HB BP HWW k3 k4
  go_upto_region 2 with (fail)
  obtain ⟨a0, a1, a2, a3, a4, a5, a6, a7, a8, a9, a10, a11, a12, a13, a14, a15⟩ := box16_facts H2
  simp only [Nat.zero_add] at a0 a1 a2 a3 a4 a5 a6 a7 a8 a9 a10 a11 a12 a13 a14 a15
  have HWW : Hid (Later w0 w2 ∧ Bld w0.heap.size b M1 w2 ∧ Others b w w2 ∧ w2.heap[C]? = some (.cells #[.int .i64 (x.r 0), .int .i64 (x.r 1), .int .i64 (x.r 2), .int .i64 (x.r 3), .int .i64 (x.r 4), .int .i64 (x.r 5), .int .i64 (x.r 6), .int .i64 (x.r 7), .bool x.z, .bool x.s, .bool x.c, .bool x.o, .int .i64 x.pc, .int .i64 x.phase, .int .i64 x.latch, .int .i64 x.status] 38)) := ⟨L2, k2, O2, H2⟩
  have ne : Nonempty (After w2) := ⟨⟨w2, Later.refl w2⟩⟩
  have q0 := fun p : After w2 => cell_after a15 p
  have q1 := fun p : After w2 => cell_after a8 p
  have q2 := fun p : After w2 => cell_after a9 p
  have q3 := fun p : After w2 => cell_after a10 p
  have q4 := fun p : After w2 => cell_after a11 p
  have d0 := fun p : After w2 => cS p.world (HG.out.later (L2.trans p.later))
  have d1 := fun p : After w2 => cF p.world
  clear a0 a1 a2 a3 a4 a5 a6 a7 a8 a9 a10 a11 a12 a13 a14 a15 cS cF L2 k2 O2 H2
  refine wp_later_off 11 rfl rfl (by kernel_rfl) (by kernel_rfl) rfl (by kernel_rfl) (by kernel_rfl) (by kernel_rfl) (by kernel_rfl) ?_
  simp only [List.take_succ_cons, List.take_zero]
  repeat (first | go_big_quiet_step ((first | (go_at_call 28; with_reducible (exact Calls.after_of (d0 _))) | (go_at_call 39; with_reducible (exact Calls.after_of (d1 _))))) | quiet_step ((first | (go_at_call 28; with_reducible (exact Calls.after_of (d0 _))) | (go_at_call 39; with_reducible (exact Calls.after_of (d1 _))))))
  refine wpQuiet_nil ?_
  intro _ hw'
  obtain ⟨p2, hw''⟩ := hw'
  subst hw''
  obtain ⟨LW, BW, OW, HB⟩ := HWW.out
  have BP := BW.later p2.later
  clear q0 q1 q2 q3 q4 d0 d1 ne
  show Oper.wp _ _ _ _ _ _
  go_simp
  go_at_call 27
  apply Calls.mono
  (focus (with_reducible (exact cV _ BP)))
  rintro e w3 ⟨rfl, k2, k3, k4⟩
  have L3 : Later w0 w3 := Below.trans (LW.trans p2.later) k3
  have O3 := OW.trans ((Later.others p2.later).trans k4)
  have H3 := Others.box k4 BP (heap_later p2.later HB) (by decide) (by decide)
  clear cV LW BW OW HB BP HWW k3 k4
  have cN2 := writeNumbers_any (.slice (some ⟨C, 0, none⟩) 8 8) (regsL x) b M2 w0 w3 L3 HG.out (fun w' _ ho => regs_row (Others.box ho k2 H3 (by decide) (by decide)) HK.out) k2 HL3.out
  go_wp2_with (go_at_call 24; apply Calls.mono; (focus (with_reducible (exact cN2))); rintro e w4 ⟨rfl, k2, k3, k4⟩)
  (try simp only [Exit.inBlock, Exit.then])
  refine bodyPost_end (results_none rfl _ _ _) rfl ?_
  exact ⟨rfl, k2, k3, O3.trans k4⟩

end Go.Proofs.YtpnbpjhoilibcaaDoor
