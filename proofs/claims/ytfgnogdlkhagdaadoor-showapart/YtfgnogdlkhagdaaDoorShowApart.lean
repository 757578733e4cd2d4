/-
  That palinglaw9.ShowApart returns true for every list of acts, two numbers and an act. Conditions: as the card names them.
-/
import Derived.Test.YtfgnogdlkhagdaaDoorRows
import Derived.Test.YtfgnogdlkhagdaaDoorCards
import Derived.Test.YtfgnogdlkhagdaaDoorTie
import Derived.Test.YtfgnogdlkhagdaaDoorShowLaid
import Derived.Test.YtfgnogdlkhagdaaDoorJh
import Derived.Test.YtfgnogdlkhagdaaDoorOpensActs
import Derived.Test.YtfgnogdlkhagdaaDoorOpensShow
import Derived.Test.YtfgnogdlkhagdaaDoorShowAlive
import Derived.Test.YtfgnogdlkhagdaaDoorSwapProg
import Derived.Test.YtfgnogdlkhagdaaDoorRefSameProg
import Derived.Test.YtfgnogdlkhagdaaDoorBookProg
import Derived.Test.YtfgnogdlkhagdaaDoorBookRight
import Derived.WalkKit
import Derived.ProofKit
import Derived.OpenShut
import Derived.SizedLaws
import Derived.ShutString
import Derived.Carry
import Derived.Stop.Joined
import Derived.SevenTiedAt
namespace Go.Proofs.YtfgnogdlkhagdaaDoor.showApart
open Go.ChangeShapes Go.WideShapes Go.ChangeAt Go.RowKit
open Go.ChangeMaps (open_string shut_string)
set_option linter.unusedVariables false
set_option linter.unusedSimpArgs false

theorem own : ownKnob Tryd.prog.godebug = none := by kernel_rfl
theorem laidOut : laidOutB Tryd.prog = true := by kernel_rfl

set_option maxRecDepth 1000000 in
set_option maxHeartbeats 100000000 in
theorem walk (w : World) (g : Good w) (v : Value) (l : List (List Act5)) (ia : ActsRow w v l) (t : Int) (ht : I64 t) (i : Int) (hi : I64 i) (a : Act5) (oka : a.Ok) (on : I64 a.n) :
    Calls Tryd.prog 6 #[v, .int .i64 t, .int .i64 i, a.val] w fun e w' => e = .returned (.bool true) ∧ Later w w' := by
  have cM : ∀ w', Calls Tryd.prog 26 #[a.val, .int .i64 1] w' fun e w'' => e = .returned (insOf a 1).val ∧ Later w' w'' := fun w' => bookIns_any a oka 1 (by omega) w'
  have cA := fun w' h => showAlive_any w' h
  have cB := fun w' h => bookProg_any v l 2 5 (by omega) (by omega) w' h
  rw [show ((2 : Nat) : Int) = 2 from rfl, show ((5 : Nat) : Int) = 5 from rfl] at cB
  have swap := @swap_prog
  have HA9 : Hid (I64 a.n) := on
  have hyl : (insOf a 1).labels = .slice none 0 0 := insOf_labels a 1
  have HIY : Hid (insOf a 1 = insOf a 1) := rfl
  obtain ⟨y, hyy⟩ : ∃ y, y = insOf a 1 := ⟨_, rfl⟩
  rw [← hyy] at cM hyl
  have HYY : Hid (y = insOf a 1) := hyy
  clear hyy HIY
  obtain ⟨op, lock, cond, ⟨ak, ar, ay, an⟩, ⟨bk, br, bs, bn⟩, dest, lb⟩ := y
  dsimp only at hyl
  subst hyl
  have HG : Hid (Good w) := g
  have HIA : Hid (ActsRow w v l) := ia
  have hval : a.val = .agg #[.int .i64 a.kind, .int .i64 a.a, .int .i64 a.b, .int .i64 a.c, .int .i64 a.n] := rfl
  rw [hval] at cM ⊢
  unfold Ins.val Ins.cells at cM
  dsimp only at cM
  clear g ia on oka hval
  have L0 := Later.alloc (Later.refl w) (.cells #[.int .i64 a.kind, .int .i64 a.a, .int .i64 a.b, .int .i64 a.c, .int .i64 a.n] 60)
  have HA := at_new w (.cells #[.int .i64 a.kind, .int .i64 a.a, .int .i64 a.b, .int .i64 a.c, .int .i64 a.n] 60)
  go_enter Tryd.func6, Tryd.ntmps6
  go_upto_region 1 with (fail)
  generalize w.alloc (.cells #[.int .i64 a.kind, .int .i64 a.a, .int .i64 a.b, .int .i64 a.c, .int .i64 a.n] 60) = W0 at *
  have c1 := cB W0 (ActsRow.kept HIA.out L0.kept)
  go_upto_region 2 with (first
    | (go_at_call 8; apply Calls.mono; (focus (with_reducible (exact c1))); rintro e w1 ⟨tvp, vsp, Pp, rfl, hl1, hx1, ho1, hm1⟩; obtain ⟨p0, p1, rfl⟩ := owns_slice ho1; have c2 := cB w1 (ActsRow.kept HIA.out (L0.trans hl1).kept))
    | (go_at_call 8; apply Calls.mono; (focus (with_reducible (exact c2))); rintro e w2 ⟨tvq, vsq, Pq, rfl, hl2, hx2, ho2, hm2⟩; obtain ⟨q0, q1, rfl⟩ := owns_slice ho2))
  have htl : min l.length 2 ≤ l.length := Nat.min_le_left _ _
  have hn2 : min l.length 2 ≤ 2 := Nat.min_le_right _ _
  generalize hnn : min l.length 2 = n at *
  clear hnn
  have HN := at_new w2 (.cells #[.slice (some ⟨W0.heap.size + 1 + 1 + 1, 0, none⟩) 3 3, .slice p0 n p1] 28)
  have hsz : (w2.alloc (.cells #[.slice (some ⟨W0.heap.size + 1 + 1 + 1, 0, none⟩) 3 3, .slice p0 n p1] 28)).heap.size = w2.heap.size + 1 := by simp
  have HQ9 := at_new (w2.alloc (.cells #[.slice (some ⟨W0.heap.size + 1 + 1 + 1, 0, none⟩) 3 3, .slice p0 n p1] 28)) (.cells #[.slice (some ⟨w1.heap.size + 1 + 1 + 1, 0, none⟩) 3 3, .slice q0 n q1] 28)
  rw [hsz] at HQ9
  have HP9 := heap_later (Later.alloc (Later.refl _) (.cells #[.slice (some ⟨w1.heap.size + 1 + 1 + 1, 0, none⟩) 3 3, .slice q0 n q1] 28)) HN
  have L23 := Later.alloc (Later.alloc (Later.refl w2) (.cells #[.slice (some ⟨W0.heap.size + 1 + 1 + 1, 0, none⟩) 3 3, .slice p0 n p1] 28)) (.cells #[.slice (some ⟨w1.heap.size + 1 + 1 + 1, 0, none⟩) 3 3, .slice q0 n q1] 28)
  generalize (w2.alloc (.cells #[.slice (some ⟨W0.heap.size + 1 + 1 + 1, 0, none⟩) 3 3, .slice p0 n p1] 28)).alloc (.cells #[.slice (some ⟨w1.heap.size + 1 + 1 + 1, 0, none⟩) 3 3, .slice q0 n q1] 28) = W3 at *
  clear hsz HN
  have L13 := hl2.trans L23
  have LF := (L0.trans hl1).trans L13
  have hSp := SymRow.kept hx1.row L13.kept
  have hPp := ThrRow.kept (made_row htl ho1 hm1) L13.kept
  have hSq := SymRow.kept hx2.row L23.kept
  have hQ := ThrRow.kept (made_row htl ho2 hm2) L23.kept
  have hfP := (made_valid (b := W0.heap.size) (by omega) (by omega) htl hm1).2
  have hlP := progL_length (made_small (b := W0.heap.size) (by omega) (by omega) htl hm1)
  have hvQ := made_valid (b := w1.heap.size) (by omega) (by omega) htl hm2
  have hlQ := progL_length (made_small (b := w1.heap.size) (by omega) (by omega) htl hm2)
  obtain ⟨hst1, hst2⟩ := same_text (b := W0.heap.size) (b' := w1.heap.size) (by omega) (by omega) htl hm1 hm2
  have cP := fun w' h h' h'' => showProg_any (.slice (some ⟨W0.heap.size + 1 + 1 + 1, 0, none⟩) 3 3) (.slice p0 n p1) (xyz W0.heap.size) Pp w' h h' h'' hfP hlP
  have HW1 : Hid (∀ (N : Nat), N = w1.heap.size → w1.heap.size ≤ N) := fun N h => by omega
  have hLW1 : Later w1 W3 := L13
  have HSp1 : Hid (SymRow w1 (.slice (some ⟨W0.heap.size + 1 + 1 + 1, 0, none⟩) 3 3) (xyz W0.heap.size)) := hx1.row
  have HPp1 : Hid (ThrRow w1 (.slice p0 n p1) Pp) := made_row htl ho1 hm1
  have HPBe : Hid (∀ x, x < w2.heap.size → x ≠ w2.heap.size ∧ x ≠ w2.heap.size + 1) := fun x h => by omega
  have HM1 : Hid (MadeThrs w1 W0.heap.size 5 l n vsp Pp) := hm1
  have HM2 : Hid (MadeThrs w2 w1.heap.size 5 l n vsq Pq) := hm2
  have HO2 : Hid (w2.ownsRow w1.heap.size 49 1 (.slice q0 n q1) n (flatC oneV vsq)) := ho2
  have HX2 : Hid (XYZ w2 w1.heap.size) := hx2
  have HF : Hid (checkC (xyz w1.heap.size) Pq = 0 ∧ FineP (xyz w1.heap.size) Pq ∧ (progL (xyz w1.heap.size) Pq).length ≤ 10000000) := ⟨hvQ.1, hvQ.2, hlQ⟩
  have HST : Hid (progL (xyz W0.heap.size) Pp = progL (xyz w1.heap.size) Pq ∧ progEq (xyz W0.heap.size) Pp (xyz w1.heap.size) Pq = true) := ⟨hst1, hst2⟩
  generalize hbp : W0.heap.size = bp at *
  generalize hbq : w1.heap.size = bq at *
  have HBQ : Hid (w1.heap.size = bq) := hbq
  clear hbp hbq hx1 ho1 hm1 hx2 ho2 hm2 hfP hlP hvQ hlQ hst1 hst2 HW1 c1 c2 cB HIA
  generalize hPBq : w2.heap.size = PB at *
  have HPBq : Hid (w2.heap.size = PB) := hPBq
  clear hPBq
  obtain ⟨e0, e1, -⟩ := box2_facts HP9
  obtain ⟨d0, d1, -⟩ := box2_facts HQ9
  by_cases hn0 : n = 0
  · skip
    have cQ := fun w' h h' h'' => showProg_any (.slice (some ⟨bq + 1 + 1 + 1, 0, none⟩) 3 3) (.slice q0 n q1) (xyz bq) Pq w' h h' h'' HF.out.2.1 HF.out.2.2
    rw [← HST.out.1] at cQ
    generalize (⟨(progL (xyz bp) Pp).toArray⟩ : ByteArray) = X at *
    have hX : (X.toList == X.toList) = true := by simp
    generalize xyz bp = Sp at *
    generalize xyz bq = Sq at *
    subst hn0
    go_upto_region 3 with (fail)
    have ne : Nonempty (After W3) := ⟨⟨W3, Later.refl W3⟩⟩
    have m0 := fun p : After W3 => cell_after e0 p
    have m1 := fun p : After W3 => cell_after e1 p
    have m2 := fun p : After W3 => cell_after d0 p
    have m3 := fun p : After W3 => cell_after d1 p
    have sS : ∀ z : After W3, SymRow z.world (.slice (some ⟨bp + 1 + 1 + 1, 0, none⟩) 3 3) Sp := fun z => hSp.kept z.later.kept
    have sP : ∀ z : After W3, ThrRow z.world (.slice p0 0 p1) Pp := fun z => hPp.kept z.later.kept
    have tS : ∀ z : After W3, SymRow z.world (.slice (some ⟨bq + 1 + 1 + 1, 0, none⟩) 3 3) Sq := fun z => hSq.kept z.later.kept
    have tQ : ∀ z : After W3, ThrRow z.world (.slice q0 0 q1) Pq := fun z => hQ.kept z.later.kept
    have gg : ∀ z : After W3, ShowGood z.world := fun z => HG.out.later (LF.trans z.later)
    clear e0 e1 d0 d1 hSp hPp hSq hQ
    refine wp_region_later (by kernel_rfl) (by kernel_rfl) ?_
    repeat (first | go_big_quiet_step ((first | (go_at_call 24; with_reducible (exact Calls.after_of (cP _ (gg _) (sS _) (sP _)))) | (go_at_call 24; with_reducible (exact Calls.after_of (cQ _ (gg _) (tS _) (tQ _)))) | (go_at_call 25; with_reducible (exact Calls.after_of (cA _ (gg _)))))) | quiet_step ((first | (go_at_call 24; with_reducible (exact Calls.after_of (cP _ (gg _) (sS _) (sP _)))) | (go_at_call 24; with_reducible (exact Calls.after_of (cQ _ (gg _) (tS _) (tQ _)))) | (go_at_call 25; with_reducible (exact Calls.after_of (cA _ (gg _)))))))
    refine wpQuiet_nil ?_
    intro _ hw'
    obtain ⟨z, hw''⟩ := hw'
    subst hw''
    go_wp2
    go_ret
    exact ⟨rfl, LF.trans z.later⟩
  · obtain ⟨k1, hk1, hk1n⟩ := pick_nat t n (by omega)
    have cT : ∀ w', Calls Tryd.prog 9 #[.int .i64 t, .int .i64 n] w' fun e w'' => e = .returned (.int .i64 (k1 : Nat)) ∧ Later w' w'' := fun w' => (pick_any t n ht (by omega) w').mono fun e w'' h => ⟨by rw [h.1, hk1], by rw [h.2]; exact Later.refl _⟩
    have hv1 : k1 < vsq.length := by rw [HM2.out.vlen]; exact hk1n
    have hP1 : k1 < Pq.length := by rw [HM2.out.plen]; exact hk1n
    have hl1' : k1 < l.length := by omega
    have hmk := HM2.out.each k1 vsq[k1] Pq[k1] l[k1] (List.getElem?_eq_getElem hv1) (List.getElem?_eq_getElem hP1) (List.getElem?_eq_getElem hl1')
    have hTk : Pq[k1]? = some Pq[k1] := List.getElem?_eq_getElem hP1
    have hvk : vsq[k1]? = some vsq[k1] := List.getElem?_eq_getElem hv1
    have hlen := hmk.is.len
    rw [rawL_length (Nat.min_le_left _ _)] at hlen
    have hmin : min l[k1].length 5 ≤ 5 := Nat.min_le_right _ _
    obtain ⟨g, cap, cur, hgv, hgN, hgc⟩ := hmk.own.block (by omega)
    obtain ⟨aq, caq, hqs, hcrow⟩ := crow_of_owns (by rw [flatC_length oneV 1 oneV_len, HM2.out.vlen]) HO2.out
    cases hqs
    obtain ⟨gq, rfl⟩ := CRow.some oneV_len (by omega) hcrow hvk
    have hcell := CRow.cell oneV_len hcrow hvk (k := 0) (u := vsq[k1]) (by omega) rfl
    rw [Nat.mul_one, Nat.add_zero] at hcell
    replace hcell := cell_later hcell L23
    have hown := hmk.own
    generalize hTe : Pq[k1] = T at *
    generalize hve : vsq[k1] = vk at *
    subst hgv
    have HTK : Hid (Pq[k1]? = some T) := hTk
    have HVK : Hid (vsq[k1]? = some (.slice (some ⟨g, 0, none⟩) T.length cap)) := hvk
    have HOW : Hid (OwnThr w2 bq (.slice (some ⟨g, 0, none⟩) T.length cap) T) := hown
    have HGC : Hid (w2.heap[g]? = some (.cells cur 54)) := hgc
    have hT6 : T.length ≤ 6 := by omega
    have hT1 : 0 < T.length := by omega
    clear hTe hve hmk hlen hmin hown hgc hcrow hTk hvk hv1 hP1
    have hk1i : (k1 : Int) < n := by omega
    go_upto_region 4 with (fail)
    have ne : Nonempty (After W3) := ⟨⟨W3, Later.refl W3⟩⟩
    have m2 := fun p : After W3 => cell_after d0 p
    have m3 := fun p : After W3 => cell_after d1 p
    have m4 := fun p : After W3 => cell_after hcell p
    clear e0 e1 d0 d1 hcell
    refine wp_region_later (by kernel_rfl) (by kernel_rfl) ?_
    repeat (first | go_big_quiet_step ((first | (go_at_call 9; with_reducible (exact Calls.after_of (cT _))))) | quiet_step ((first | (go_at_call 9; with_reducible (exact Calls.after_of (cT _))))))
    refine wpQuiet_nil ?_
    intro _ hw'
    obtain ⟨z, hw''⟩ := hw'
    subst hw''
    clear m2 m3 m4 ne cT
    have L34 := z.later
    generalize z.world = W4 at *
    obtain ⟨k2, hk2, hk2n⟩ := pick_nat i T.length hT1
    have cI : ∀ w', Calls Tryd.prog 9 #[.int .i64 i, .int .i64 T.length] w' fun e w'' => e = .returned (.int .i64 (k2 : Nat)) ∧ w'' = w' := fun w' => (pick_any i T.length hi (by omega) w').mono fun e w'' h => ⟨by rw [h.1, hk2], h.2⟩
    obtain ⟨f0, f1, f2, f3, f4⟩ := box5_facts (heap_later (hl1.trans (L13.trans L34)) HA)
    clear hk2 hk1 HA
    go_upto_region 7 with (first
      | (go_at_call 9; apply Calls.mono; (focus (with_reducible (exact cI _))); rintro e wn ⟨rfl, hr⟩; obtain rfl := hr.symm)
      | (go_at_call 26; apply Calls.mono; (focus (with_reducible (exact cM _))); rintro e W6 ⟨rfl, hl6⟩))
    have HY := at_new W6 (.cells #[.int .i64 op, .bool lock, .int .i64 cond, .int .i64 ak, .int .i64 ar, .int .i64 ay, .int .i64 an, .int .i64 bk, .int .i64 br, .int .i64 bs, .int .i64 bn, .string dest, .slice none 0 0] 54)
    have L67 := Later.alloc (Later.refl W6) (.cells #[.int .i64 op, .bool lock, .int .i64 cond, .int .i64 ak, .int .i64 ar, .int .i64 ay, .int .i64 an, .int .i64 bk, .int .i64 br, .int .i64 bs, .int .i64 bn, .string dest, .slice none 0 0] 54)
    have L37 := (L34.trans hl6).trans L67
    have hY3 : W3.heap.size ≤ W6.heap.size := (L34.trans hl6).size
    generalize W6.alloc (.cells #[.int .i64 op, .bool lock, .int .i64 cond, .int .i64 ak, .int .i64 ar, .int .i64 ay, .int .i64 an, .int .i64 bk, .int .i64 br, .int .i64 bs, .int .i64 bn, .string dest, .slice none 0 0] 54) = W7 at *
    generalize hYB : W6.heap.size = YB at *
    obtain ⟨⟨x, L⟩, hx⟩ : ∃ x, T[k2]? = some x := ⟨_, List.getElem?_eq_getElem hk2n⟩
    have HX : Hid (T[k2]? = some (x, L)) := hx
    have how7 := HOW.out.later (L23.trans L37)
    obtain ⟨g1, o1, hgo, okx, ⟨lp, lc, hlv, -⟩, c0, c1, c2, c3, c4, c5, c6, c7, c8, c9, c10, c11, c12⟩ := how7.insRow.get hx
    simp only [Option.some.injEq, Addr.mk.injEq] at hgo
    obtain ⟨rfl, rfl, -⟩ := hgo
    simp only [Nat.zero_add] at c0 c1 c2 c3 c4 c5 c6 c7 c8 c9 c10 c11 c12
    have hgc7 := heap_later (L23.trans L37) HGC.out
    have hfz : ∀ j, W7.frozen? ⟨g, j, none⟩ = false := fun j => by simp [World.frozen?, hgc7]
    clear cM cI f0 f1 f2 f3 f4 hx how7 hl6 L67
    have k2i : (k2 : Int) < T.length := by omega
    have hgY : g ≠ YB := by
      have h1 := lt_block HGC.out
      have h2 := L23.size
      omega
    obtain ⟨b0, b1, b2, b3, b4, b5, b6, b7, b8, b9, b10, b11, b12⟩ := box13_facts HY
    by_cases hc : k2 + 1 < T.length
    · by_cases hd : dest.toList.isEmpty = true
      · skip
        have hci : (k2 : Int) + 1 < T.length := by omega
        obtain rfl : dest = ⟨#[]⟩ := by
          rw [ByteArray.toList_eq] at hd
          exact bytes_ext (by rw [List.isEmpty_iff.1 hd])
        rw [hlv] at c12
        obtain ⟨f0, f1, f2, f3, f4, f5, f6, f7, f8, f9, f10, f11, f12⟩ := box13_free HY
        go_upto_region 9 with (fail)
        have HY8 := set13_12 HY (.slice lp L.length lc)
        have L38 : Later W3 (W7.setCell ⟨YB, 12, none⟩ (.slice lp L.length lc)) := Later.setCell L37 hY3 12 (.slice lp L.length lc)
        have hgc8 : (W7.setCell ⟨YB, 12, none⟩ (.slice lp L.length lc)).heap[g]? = some (.cells cur 54) := (setCell_other hgY 12 (.slice lp L.length lc)).trans hgc7
        have hofY : Off YB W7 (W7.setCell ⟨YB, 12, none⟩ (.slice lp L.length lc)) := (Off.refl YB W7).set 12 (.slice lp L.length lc)
        have hfz8 : ∀ j, (W7.setCell ⟨YB, 12, none⟩ (.slice lp L.length lc)).frozen? ⟨g, j, none⟩ = false := fun j => by simp [World.frozen?, hgc8]
        have cel : ∀ j, (W7.setCell ⟨YB, 12, none⟩ (.slice lp L.length lc)).cell? ⟨g, j, none⟩ = W7.cell? ⟨g, j, none⟩ := fun j => by simp only [World.cell?, hgc8, hgc7]
        have r0 := (cel (k2 * 13)).trans c0
        have r1 := (cel (k2 * 13 + 1)).trans c1
        have r2 := (cel (k2 * 13 + 2)).trans c2
        have r3 := (cel (k2 * 13 + 3)).trans c3
        have r4 := (cel (k2 * 13 + 4)).trans c4
        have r5 := (cel (k2 * 13 + 5)).trans c5
        have r6 := (cel (k2 * 13 + 6)).trans c6
        have r7 := (cel (k2 * 13 + 7)).trans c7
        have r8 := (cel (k2 * 13 + 8)).trans c8
        have r9 := (cel (k2 * 13 + 9)).trans c9
        have r10 := (cel (k2 * 13 + 10)).trans c10
        have r11 := (cel (k2 * 13 + 11)).trans c11
        have r12 := (cel (k2 * 13 + 12)).trans c12
        clear c0 c1 c2 c3 c4 c5 c6 c7 c8 c9 c10 c11 c12 b0 b1 b2 b3 b4 b5 b6 b7 b8 b9 b10 b11 b12 f0 f1 f2 f3 f4 f5 f6 f7 f8 f9 f10 f11 f12 hgc7 hfz cel
        generalize W7.setCell ⟨YB, 12, none⟩ (.slice lp L.length lc) = W8 at *
        obtain ⟨b0, b1, b2, b3, b4, b5, b6, b7, b8, b9, b10, b11, b12⟩ := box13_facts HY8
        have z0 := hfz8 (k2 * 13)
        have z1 := hfz8 (k2 * 13 + 1)
        have z2 := hfz8 (k2 * 13 + 2)
        have z3 := hfz8 (k2 * 13 + 3)
        have z4 := hfz8 (k2 * 13 + 4)
        have z5 := hfz8 (k2 * 13 + 5)
        have z6 := hfz8 (k2 * 13 + 6)
        have z7 := hfz8 (k2 * 13 + 7)
        have z8 := hfz8 (k2 * 13 + 8)
        have z9 := hfz8 (k2 * 13 + 9)
        have z10 := hfz8 (k2 * 13 + 10)
        have z11 := hfz8 (k2 * 13 + 11)
        have z12 := hfz8 (k2 * 13 + 12)
        have K1 : PLift _ := ⟨cP⟩
        have K2 : PLift _ := ⟨HP9⟩
        have K3 : PLift _ := ⟨HQ9⟩
        have K4 : PLift _ := ⟨hgc8⟩
        have K5 : PLift _ := ⟨L38⟩
        clear cP HP9 HQ9 hgc8 L38 hSp hPp hSq hQ LF swap hofY cA HY8 hfz8 L37 hd okx
        go_upto_region 10 with (fail)
        have cP := K1.down
        have HP9 := K2.down
        have HQ9 := K3.down
        have hgc8 := K4.down
        have L38 := K5.down
        have cA := fun w' h => showAlive_any w' h
        clear K1 K2 K3 K4 K5
        have L28 := L23.trans L38
        have oy : (⟨op, lock, cond, ⟨ak, ar, ay, an⟩, ⟨bk, br, bs, bn⟩, ⟨#[]⟩, (.slice lp L.length lc)⟩ : Ins).Ok := by
          have o1 := insOf_ok a HA9.out 1
          rw [show insOf a ((1 : Nat) : Int) = insOf a 1 from rfl, ← HYY.out] at o1
          exact ⟨o1.op, o1.cond, o1.a, o1.b, o1.dest⟩
        have how := (HOW.out.later L28).put HX.out ⟨op, lock, cond, ⟨ak, ar, ay, an⟩, ⟨bk, br, bs, bn⟩, ⟨#[]⟩, (.slice lp L.length lc)⟩ oy hlv.symm
        have hoff := put13_off W8 g (k2 * 13) ⟨op, lock, cond, ⟨ak, ar, ay, an⟩, ⟨bk, br, bs, bn⟩, ⟨#[]⟩, (.slice lp L.length lc)⟩
        have hgb : w1.heap.size ≤ g := by rw [HBQ.out]; exact hgN
        have L19 := put13_later (hLW1.trans L38) hgb (k2 * 13) ⟨op, lock, cond, ⟨ak, ar, ay, an⟩, ⟨bk, br, bs, bn⟩, ⟨#[]⟩, (.slice lp L.length lc)⟩
        obtain ⟨vc, fineQ, lenQ, eqv⟩ := swap_prog (b := bp) (b' := bq) (by omega) (by omega) htl HM1.out HM2.out HTK.out HX.out hc (y := ⟨op, lock, cond, ⟨ak, ar, ay, an⟩, ⟨bk, br, bs, bn⟩, ⟨#[]⟩, (.slice lp L.length lc)⟩) (a := a) HA9.out (by rw [← HYY.out]) (by rw [← HYY.out]; rfl)
        have someQ := text_some vc (by simp [xyz])
        have hgPB : g ≠ PB ∧ g ≠ PB + 1 := by
          have h1 := lt_block HGC.out
          rw [HPBq.out] at h1
          omega
        unfold put13 at how hoff L19
        dsimp only at how hoff L19
        generalize (((((((((((((W8).setCell ⟨g, k2 * 13, none⟩ (.int .i64 op)).setCell ⟨g, k2 * 13 + 1, none⟩ (.bool lock)).setCell ⟨g, k2 * 13 + 2, none⟩ (.int .i64 cond)).setCell ⟨g, k2 * 13 + 3, none⟩ (.int .i64 ak)).setCell ⟨g, k2 * 13 + 4, none⟩ (.int .i64 ar)).setCell ⟨g, k2 * 13 + 5, none⟩ (.int .i64 ay)).setCell ⟨g, k2 * 13 + 6, none⟩ (.int .i64 an)).setCell ⟨g, k2 * 13 + 7, none⟩ (.int .i64 bk)).setCell ⟨g, k2 * 13 + 8, none⟩ (.int .i64 br)).setCell ⟨g, k2 * 13 + 9, none⟩ (.int .i64 bs)).setCell ⟨g, k2 * 13 + 10, none⟩ (.int .i64 bn)).setCell ⟨g, k2 * 13 + 11, none⟩ (.string ⟨#[]⟩)).setCell ⟨g, k2 * 13 + 12, none⟩ (.slice lp L.length lc) = W9 at *
        replace HP9 := (hoff PB (fun e => hgPB.1 e.symm)).trans (heap_later L38 HP9)
        replace HQ9 := (hoff (PB + 1) (fun e => hgPB.2 e.symm)).trans (heap_later L38 HQ9)
        have hQ9 : ThrRow W9 (.slice (some ⟨gq, 0, none⟩) n q1) (Pq.set k1 (T.set k2 (⟨op, lock, cond, ⟨ak, ar, ay, an⟩, ⟨bk, br, bs, bn⟩, ⟨#[]⟩, (.slice lp L.length lc)⟩, L))) := by
          refine thr_row (hoff.owns (ownsC_later HO2.out L28) (owns_ne (ownsC_later HO2.out L28) hgc8 (by decide))) HM2.out.vlen (by rw [List.length_set]; exact HM2.out.plen) fun j vj U hj hU => ?_
          by_cases hjk : j = k1
          · subst hjk
            rw [HVK.out] at hj
            cases hj
            rw [set_at HTK.out] at hU
            cases hU
            exact how
          · rw [List.getElem?_set_ne (fun e => hjk e.symm)] at hU
            have hjl : j < l.length := by
              have := (List.getElem?_eq_some_iff.1 hU).1
              rw [HM2.out.plen] at this
              omega
            refine OwnThr.off hoff hgc8 (((HM2.out.each j vj U l[j] hj hU (List.getElem?_eq_getElem hjl)).own).later L28) fun e => hjk ?_
            exact HM2.out.apart j k1 vj _ hj HVK.out (by rw [e]; rfl)
        have hSq9 := (XYZ.off hoff hgc8 (HX2.out.later L28)).row
        have LF9 : Later w W9 := (L0.trans hl1).trans L19
        have hSp9 := SymRow.kept HSp1.out L19.kept
        have hPp9 := ThrRow.kept HPp1.out L19.kept
        clear how hoff oy
        have hSp := hSp9
        have hPp := hPp9
        have hSq := hSq9
        have hQ := hQ9
        have LF := LF9
        clear hSp9 hPp9 hSq9 hQ9 LF9
        generalize Pq.set k1 (T.set k2 (⟨op, lock, cond, ⟨ak, ar, ay, an⟩, ⟨bk, br, bs, bn⟩, ⟨#[]⟩, (.slice lp L.length lc)⟩, L)) = Q at *
        generalize xyz bp = Sp at *
        generalize xyz bq = Sq at *
        obtain ⟨e0, e1, -⟩ := box2_facts HP9
        obtain ⟨d0, d1, -⟩ := box2_facts HQ9
        have cQ := fun w' h h' h'' => showProg_any (.slice (some ⟨bq + 1 + 1 + 1, 0, none⟩) 3 3) (.slice (some ⟨gq, 0, none⟩) n q1) Sq Q w' h h' h'' fineQ lenQ
        have cS := fun w' h1 h2 h3 h4 => refSameProg_any (.slice (some ⟨bp + 1 + 1 + 1, 0, none⟩) 3 3) (.slice p0 n p1) (.slice (some ⟨bq + 1 + 1 + 1, 0, none⟩) 3 3) (.slice (some ⟨gq, 0, none⟩) n q1) Sp Sq Pp Q w' h1 h2 h3 h4
        have ne : Nonempty (After W9) := ⟨⟨W9, Later.refl W9⟩⟩
        have m0 := fun p : After W9 => cell_after e0 p
        have m1 := fun p : After W9 => cell_after e1 p
        have m2 := fun p : After W9 => cell_after d0 p
        have m3 := fun p : After W9 => cell_after d1 p
        have sS : ∀ z : After W9, SymRow z.world (.slice (some ⟨bp + 1 + 1 + 1, 0, none⟩) 3 3) Sp := fun z => hSp.kept z.later.kept
        have sP : ∀ z : After W9, ThrRow z.world (.slice p0 n p1) Pp := fun z => hPp.kept z.later.kept
        have tS : ∀ z : After W9, SymRow z.world (.slice (some ⟨bq + 1 + 1 + 1, 0, none⟩) 3 3) Sq := fun z => hSq.kept z.later.kept
        have tQ : ∀ z : After W9, ThrRow z.world (.slice (some ⟨gq, 0, none⟩) n q1) Q := fun z => hQ.kept z.later.kept
        have gg : ∀ z : After W9, ShowGood z.world := fun z => HG.out.later (LF.trans z.later)
        have hb1 : ((⟨(progL Sp Pp).toArray⟩ : ByteArray).toList == (⟨(progL Sq Q).toArray⟩ : ByteArray).toList) = decide (progL Sp Pp = progL Sq Q) := by
          rw [ByteArray.toList_eq, ByteArray.toList_eq, Bool.eq_iff_iff]
          simp
        have hne1 : (⟨(progL Sq Q).toArray⟩ : ByteArray).toList.isEmpty = false := by
          rw [ByteArray.toList_eq]
          simpa using someQ
        have hne2 : ((⟨(progL Sq Q).toArray⟩ : ByteArray).toList == []) = false := by
          rw [ByteArray.toList_eq]
          simpa using someQ
        rw [eqv] at hb1
        generalize (⟨(progL Sp Pp).toArray⟩ : ByteArray) = X at *
        generalize (⟨(progL Sq Q).toArray⟩ : ByteArray) = Y at *
        generalize progEq Sp Pp Sq Q = bb at *
        clear e0 e1 d0 d1 hSp hPp hSq hQ HP9 HQ9 fineQ lenQ someQ eqv
        cases bb
        · skip
          refine wp_region_later (by kernel_rfl) (by kernel_rfl) ?_
          repeat (first | go_big_quiet_step ((first | (go_at_call 24; with_reducible (exact Calls.after_of (cP _ (gg _) (sS _) (sP _)))) | (go_at_call 24; with_reducible (exact Calls.after_of (cQ _ (gg _) (tS _) (tQ _)))) | (go_at_call 22; with_reducible (exact Calls.after_of (cS _ (sS _) (sP _) (tS _) (tQ _)))) | (go_at_call 25; with_reducible (exact Calls.after_of (cA _ (gg _)))))) | quiet_step ((first | (go_at_call 24; with_reducible (exact Calls.after_of (cP _ (gg _) (sS _) (sP _)))) | (go_at_call 24; with_reducible (exact Calls.after_of (cQ _ (gg _) (tS _) (tQ _)))) | (go_at_call 22; with_reducible (exact Calls.after_of (cS _ (sS _) (sP _) (tS _) (tQ _)))) | (go_at_call 25; with_reducible (exact Calls.after_of (cA _ (gg _)))))))
          refine wpQuiet_nil ?_
          intro _ hw'
          obtain ⟨z, hw''⟩ := hw'
          subst hw''
          clear m0 m1 m2 m3 sS sP tS tQ gg
          go_wp2
          go_ret
          exact ⟨rfl, LF.trans z.later⟩
        · skip
          refine wp_region_later (by kernel_rfl) (by kernel_rfl) ?_
          repeat (first | go_big_quiet_step ((first | (go_at_call 24; with_reducible (exact Calls.after_of (cP _ (gg _) (sS _) (sP _)))) | (go_at_call 24; with_reducible (exact Calls.after_of (cQ _ (gg _) (tS _) (tQ _)))) | (go_at_call 22; with_reducible (exact Calls.after_of (cS _ (sS _) (sP _) (tS _) (tQ _)))) | (go_at_call 25; with_reducible (exact Calls.after_of (cA _ (gg _)))))) | quiet_step ((first | (go_at_call 24; with_reducible (exact Calls.after_of (cP _ (gg _) (sS _) (sP _)))) | (go_at_call 24; with_reducible (exact Calls.after_of (cQ _ (gg _) (tS _) (tQ _)))) | (go_at_call 22; with_reducible (exact Calls.after_of (cS _ (sS _) (sP _) (tS _) (tQ _)))) | (go_at_call 25; with_reducible (exact Calls.after_of (cA _ (gg _)))))))
          refine wpQuiet_nil ?_
          intro _ hw'
          obtain ⟨z, hw''⟩ := hw'
          subst hw''
          clear m0 m1 m2 m3 sS sP tS tQ gg
          go_wp2
          go_ret
          exact ⟨rfl, LF.trans z.later⟩
      · skip
        have hci : (k2 : Int) + 1 < T.length := by omega
        have hd' : dest.toList.isEmpty = false := by simpa using hd
        have LF7 : Later w W7 := LF.trans L37
        have hSp7 := SymRow.kept hSp L37.kept
        have hPp7 := ThrRow.kept hPp L37.kept
        have hSq7 := SymRow.kept hSq L37.kept
        have hQ7 := ThrRow.kept hQ L37.kept
        clear hSp hPp hSq hQ LF swap
        have hSp := hSp7
        have hPp := hPp7
        have hSq := hSq7
        have hQ := hQ7
        have LF := LF7
        clear hSp7 hPp7 hSq7 hQ7 LF7
        replace HP9 := heap_later L37 HP9
        replace HQ9 := heap_later L37 HQ9
        have fineQ := HF.out.2.1
        have lenQ := HF.out.2.2
        have someQ := text_some HF.out.1 (by simp [xyz])
        have eqv : decide (progL (xyz bp) Pp = progL (xyz bq) Pq) = progEq (xyz bp) Pp (xyz bq) Pq := by rw [decide_eq_true HST.out.1, HST.out.2]
        generalize Pq = Q at *
        generalize xyz bp = Sp at *
        generalize xyz bq = Sq at *
        go_upto_region 10 with (fail)
        obtain ⟨e0, e1, -⟩ := box2_facts HP9
        obtain ⟨d0, d1, -⟩ := box2_facts HQ9
        have cQ := fun w' h h' h'' => showProg_any (.slice (some ⟨bq + 1 + 1 + 1, 0, none⟩) 3 3) (.slice (some ⟨gq, 0, none⟩) n q1) Sq Q w' h h' h'' fineQ lenQ
        have cS := fun w' h1 h2 h3 h4 => refSameProg_any (.slice (some ⟨bp + 1 + 1 + 1, 0, none⟩) 3 3) (.slice p0 n p1) (.slice (some ⟨bq + 1 + 1 + 1, 0, none⟩) 3 3) (.slice (some ⟨gq, 0, none⟩) n q1) Sp Sq Pp Q w' h1 h2 h3 h4
        have ne : Nonempty (After W7) := ⟨⟨W7, Later.refl W7⟩⟩
        have m0 := fun p : After W7 => cell_after e0 p
        have m1 := fun p : After W7 => cell_after e1 p
        have m2 := fun p : After W7 => cell_after d0 p
        have m3 := fun p : After W7 => cell_after d1 p
        have sS : ∀ z : After W7, SymRow z.world (.slice (some ⟨bp + 1 + 1 + 1, 0, none⟩) 3 3) Sp := fun z => hSp.kept z.later.kept
        have sP : ∀ z : After W7, ThrRow z.world (.slice p0 n p1) Pp := fun z => hPp.kept z.later.kept
        have tS : ∀ z : After W7, SymRow z.world (.slice (some ⟨bq + 1 + 1 + 1, 0, none⟩) 3 3) Sq := fun z => hSq.kept z.later.kept
        have tQ : ∀ z : After W7, ThrRow z.world (.slice (some ⟨gq, 0, none⟩) n q1) Q := fun z => hQ.kept z.later.kept
        have gg : ∀ z : After W7, ShowGood z.world := fun z => HG.out.later (LF.trans z.later)
        have hb1 : ((⟨(progL Sp Pp).toArray⟩ : ByteArray).toList == (⟨(progL Sq Q).toArray⟩ : ByteArray).toList) = decide (progL Sp Pp = progL Sq Q) := by
          rw [ByteArray.toList_eq, ByteArray.toList_eq, Bool.eq_iff_iff]
          simp
        have hne1 : (⟨(progL Sq Q).toArray⟩ : ByteArray).toList.isEmpty = false := by
          rw [ByteArray.toList_eq]
          simpa using someQ
        have hne2 : ((⟨(progL Sq Q).toArray⟩ : ByteArray).toList == []) = false := by
          rw [ByteArray.toList_eq]
          simpa using someQ
        rw [eqv] at hb1
        generalize (⟨(progL Sp Pp).toArray⟩ : ByteArray) = X at *
        generalize (⟨(progL Sq Q).toArray⟩ : ByteArray) = Y at *
        generalize progEq Sp Pp Sq Q = bb at *
        clear e0 e1 d0 d1 hSp hPp hSq hQ HP9 HQ9 fineQ lenQ someQ eqv
        cases bb
        · skip
          refine wp_region_later (by kernel_rfl) (by kernel_rfl) ?_
          repeat (first | go_big_quiet_step ((first | (go_at_call 24; with_reducible (exact Calls.after_of (cP _ (gg _) (sS _) (sP _)))) | (go_at_call 24; with_reducible (exact Calls.after_of (cQ _ (gg _) (tS _) (tQ _)))) | (go_at_call 22; with_reducible (exact Calls.after_of (cS _ (sS _) (sP _) (tS _) (tQ _)))) | (go_at_call 25; with_reducible (exact Calls.after_of (cA _ (gg _)))))) | quiet_step ((first | (go_at_call 24; with_reducible (exact Calls.after_of (cP _ (gg _) (sS _) (sP _)))) | (go_at_call 24; with_reducible (exact Calls.after_of (cQ _ (gg _) (tS _) (tQ _)))) | (go_at_call 22; with_reducible (exact Calls.after_of (cS _ (sS _) (sP _) (tS _) (tQ _)))) | (go_at_call 25; with_reducible (exact Calls.after_of (cA _ (gg _)))))))
          refine wpQuiet_nil ?_
          intro _ hw'
          obtain ⟨z, hw''⟩ := hw'
          subst hw''
          clear m0 m1 m2 m3 sS sP tS tQ gg
          go_wp2
          go_ret
          exact ⟨rfl, LF.trans z.later⟩
        · skip
          refine wp_region_later (by kernel_rfl) (by kernel_rfl) ?_
          repeat (first | go_big_quiet_step ((first | (go_at_call 24; with_reducible (exact Calls.after_of (cP _ (gg _) (sS _) (sP _)))) | (go_at_call 24; with_reducible (exact Calls.after_of (cQ _ (gg _) (tS _) (tQ _)))) | (go_at_call 22; with_reducible (exact Calls.after_of (cS _ (sS _) (sP _) (tS _) (tQ _)))) | (go_at_call 25; with_reducible (exact Calls.after_of (cA _ (gg _)))))) | quiet_step ((first | (go_at_call 24; with_reducible (exact Calls.after_of (cP _ (gg _) (sS _) (sP _)))) | (go_at_call 24; with_reducible (exact Calls.after_of (cQ _ (gg _) (tS _) (tQ _)))) | (go_at_call 22; with_reducible (exact Calls.after_of (cS _ (sS _) (sP _) (tS _) (tQ _)))) | (go_at_call 25; with_reducible (exact Calls.after_of (cA _ (gg _)))))))
          refine wpQuiet_nil ?_
          intro _ hw'
          obtain ⟨z, hw''⟩ := hw'
          subst hw''
          clear m0 m1 m2 m3 sS sP tS tQ gg
          go_wp2
          go_ret
          exact ⟨rfl, LF.trans z.later⟩
    · skip
      have hci : ¬ (k2 : Int) + 1 < T.length := by omega
      have LF7 : Later w W7 := LF.trans L37
      have hSp7 := SymRow.kept hSp L37.kept
      have hPp7 := ThrRow.kept hPp L37.kept
      have hSq7 := SymRow.kept hSq L37.kept
      have hQ7 := ThrRow.kept hQ L37.kept
      clear hSp hPp hSq hQ LF swap
      have hSp := hSp7
      have hPp := hPp7
      have hSq := hSq7
      have hQ := hQ7
      have LF := LF7
      clear hSp7 hPp7 hSq7 hQ7 LF7
      replace HP9 := heap_later L37 HP9
      replace HQ9 := heap_later L37 HQ9
      have fineQ := HF.out.2.1
      have lenQ := HF.out.2.2
      have someQ := text_some HF.out.1 (by simp [xyz])
      have eqv : decide (progL (xyz bp) Pp = progL (xyz bq) Pq) = progEq (xyz bp) Pp (xyz bq) Pq := by rw [decide_eq_true HST.out.1, HST.out.2]
      generalize Pq = Q at *
      generalize xyz bp = Sp at *
      generalize xyz bq = Sq at *
      go_upto_region 10 with (fail)
      obtain ⟨e0, e1, -⟩ := box2_facts HP9
      obtain ⟨d0, d1, -⟩ := box2_facts HQ9
      have cQ := fun w' h h' h'' => showProg_any (.slice (some ⟨bq + 1 + 1 + 1, 0, none⟩) 3 3) (.slice (some ⟨gq, 0, none⟩) n q1) Sq Q w' h h' h'' fineQ lenQ
      have cS := fun w' h1 h2 h3 h4 => refSameProg_any (.slice (some ⟨bp + 1 + 1 + 1, 0, none⟩) 3 3) (.slice p0 n p1) (.slice (some ⟨bq + 1 + 1 + 1, 0, none⟩) 3 3) (.slice (some ⟨gq, 0, none⟩) n q1) Sp Sq Pp Q w' h1 h2 h3 h4
      have ne : Nonempty (After W7) := ⟨⟨W7, Later.refl W7⟩⟩
      have m0 := fun p : After W7 => cell_after e0 p
      have m1 := fun p : After W7 => cell_after e1 p
      have m2 := fun p : After W7 => cell_after d0 p
      have m3 := fun p : After W7 => cell_after d1 p
      have sS : ∀ z : After W7, SymRow z.world (.slice (some ⟨bp + 1 + 1 + 1, 0, none⟩) 3 3) Sp := fun z => hSp.kept z.later.kept
      have sP : ∀ z : After W7, ThrRow z.world (.slice p0 n p1) Pp := fun z => hPp.kept z.later.kept
      have tS : ∀ z : After W7, SymRow z.world (.slice (some ⟨bq + 1 + 1 + 1, 0, none⟩) 3 3) Sq := fun z => hSq.kept z.later.kept
      have tQ : ∀ z : After W7, ThrRow z.world (.slice (some ⟨gq, 0, none⟩) n q1) Q := fun z => hQ.kept z.later.kept
      have gg : ∀ z : After W7, ShowGood z.world := fun z => HG.out.later (LF.trans z.later)
      have hb1 : ((⟨(progL Sp Pp).toArray⟩ : ByteArray).toList == (⟨(progL Sq Q).toArray⟩ : ByteArray).toList) = decide (progL Sp Pp = progL Sq Q) := by
        rw [ByteArray.toList_eq, ByteArray.toList_eq, Bool.eq_iff_iff]
        simp
      have hne1 : (⟨(progL Sq Q).toArray⟩ : ByteArray).toList.isEmpty = false := by
        rw [ByteArray.toList_eq]
        simpa using someQ
      have hne2 : ((⟨(progL Sq Q).toArray⟩ : ByteArray).toList == []) = false := by
        rw [ByteArray.toList_eq]
        simpa using someQ
      rw [eqv] at hb1
      generalize (⟨(progL Sp Pp).toArray⟩ : ByteArray) = X at *
      generalize (⟨(progL Sq Q).toArray⟩ : ByteArray) = Y at *
      generalize progEq Sp Pp Sq Q = bb at *
      clear e0 e1 d0 d1 hSp hPp hSq hQ HP9 HQ9 fineQ lenQ someQ eqv
      cases bb
      · skip
        refine wp_region_later (by kernel_rfl) (by kernel_rfl) ?_
        repeat (first | go_big_quiet_step ((first | (go_at_call 24; with_reducible (exact Calls.after_of (cP _ (gg _) (sS _) (sP _)))) | (go_at_call 24; with_reducible (exact Calls.after_of (cQ _ (gg _) (tS _) (tQ _)))) | (go_at_call 22; with_reducible (exact Calls.after_of (cS _ (sS _) (sP _) (tS _) (tQ _)))) | (go_at_call 25; with_reducible (exact Calls.after_of (cA _ (gg _)))))) | quiet_step ((first | (go_at_call 24; with_reducible (exact Calls.after_of (cP _ (gg _) (sS _) (sP _)))) | (go_at_call 24; with_reducible (exact Calls.after_of (cQ _ (gg _) (tS _) (tQ _)))) | (go_at_call 22; with_reducible (exact Calls.after_of (cS _ (sS _) (sP _) (tS _) (tQ _)))) | (go_at_call 25; with_reducible (exact Calls.after_of (cA _ (gg _)))))))
        refine wpQuiet_nil ?_
        intro _ hw'
        obtain ⟨z, hw''⟩ := hw'
        subst hw''
        clear m0 m1 m2 m3 sS sP tS tQ gg
        go_wp2
        go_ret
        exact ⟨rfl, LF.trans z.later⟩
      · skip
        refine wp_region_later (by kernel_rfl) (by kernel_rfl) ?_
        repeat (first | go_big_quiet_step ((first | (go_at_call 24; with_reducible (exact Calls.after_of (cP _ (gg _) (sS _) (sP _)))) | (go_at_call 24; with_reducible (exact Calls.after_of (cQ _ (gg _) (tS _) (tQ _)))) | (go_at_call 22; with_reducible (exact Calls.after_of (cS _ (sS _) (sP _) (tS _) (tQ _)))) | (go_at_call 25; with_reducible (exact Calls.after_of (cA _ (gg _)))))) | quiet_step ((first | (go_at_call 24; with_reducible (exact Calls.after_of (cP _ (gg _) (sS _) (sP _)))) | (go_at_call 24; with_reducible (exact Calls.after_of (cQ _ (gg _) (tS _) (tQ _)))) | (go_at_call 22; with_reducible (exact Calls.after_of (cS _ (sS _) (sP _) (tS _) (tQ _)))) | (go_at_call 25; with_reducible (exact Calls.after_of (cA _ (gg _)))))))
        refine wpQuiet_nil ?_
        intro _ hw'
        obtain ⟨z, hw''⟩ := hw'
        subst hw''
        clear m0 m1 m2 m3 sS sP tS tQ gg
        go_wp2
        go_ret
        exact ⟨rfl, LF.trans z.later⟩

set_option maxRecDepth 100000 in
theorem lifted (os : Os) (started : os.Started) (H : Type) (enc : TypeId × Value → H) :
    ReturnsInHanded {} Tryd.checked os 6 .any (fun w args => (Rows.showApartSpec.pre enc Tryd.prog Tryd.f6 [] false w args ∧ laidMetH Tryd.prog theList w) ∧ sizedMet enc Tryd.prog Tryd.f6 (OpenSpec.ofChange Rows.showApartSpec) false w args)
      (Rows.showApartSpec.post enc Tryd.prog Tryd.f6 false true false false) := by
  refine returnsInHanded_of_change_and (C := Tryd.checked) (X := fun w _ => laidMetH Tryd.prog theList w) (fun _ _ _ hh h => h.of_heap hh) own started (by kernel_rfl) Tryd.func6
    (ChangeSpec.witness_shaped (enc := enc) (C := Tryd.checked) (os := os) (X := fun w _ => laidMetH Tryd.prog theList w) false (World.laidAll Tryd.prog os theList) #[.slice none 0 0, .int .i64 0, .int .i64 0, .agg #[.int .i64 0, .int .i64 0, .int .i64 0, .int .i64 0, .int .i64 0]] 8 (World.laidAll_os _ _ _) (World.shaped_of_ZipB (by kernel_rfl) (by kernel_rfl)) (by kernel_rfl) (by kernel_rfl) (by kernel_rfl) (door_met os _)) ?_
  intro W base args ds gs before hval0 hW _ hsz0 hL _
  have hsz : (DataW.weightsEach Tryd.prog (Tryd.f6.params.toList ++ Rows.showApartSpec.plain.varTypes Tryd.prog) (ds ++ gs)).all (· ≤ reachBytes) = true := hsz0
  clear hsz0
  have hval : ∀ (j : Nat) t v, Tryd.f6.params[j]? = some t → args[j]? = some v → Value.okWide Tryd.prog W .any base t v := hval0
  have hW' := hW
  obtain ⟨p, q, hA0, hV, rfl, hfz, hnd⟩ := hW
  have hA : DataW.TrodAll enc Tryd.prog W 0 (fun _ => true) true Tryd.f6.params.toList args.toList ds p := hA0
  rw [Tryd.params6] at hA hval hsz
  obtain ⟨v0, vs0, d0, ds0, p0, q0, hargs, rfl, rfl, h0, r0⟩ := trodAll_cons hA
  obtain ⟨v1, vs1, d1, ds1, p1, q1, rfl, rfl, rfl, h1, r1⟩ := trodAll_cons r0
  obtain ⟨v2, vs2, d2, ds2, p2, q2, rfl, rfl, rfl, h2, r2⟩ := trodAll_cons r1
  obtain ⟨v3, vs3, d3, ds3, p3, q3, rfl, rfl, rfl, h3, r3⟩ := trodAll_cons r2
  obtain ⟨rfl, rfl, rfl⟩ := trodAll_nil r3
  obtain rfl : args = #[v0, v1, v2, v3] := by cases args; simp_all
  obtain ⟨rfl, rfl⟩ := trodVars_none hV
  simp only [List.append_nil] at hW'
  have h0k := h0
  have hlt0 : ∀ x ∈ p0, x.block < W.heap.size := fun x hx => by simpa using hW'.lt x (by simp [hx])
  obtain ⟨l0, ia0⟩ := open_acts (hval 0 22 v0 rfl rfl) h0
  obtain ⟨a1, rfl, rfl, rfl, w1⟩ := open_int Tryd.underlying3 (hval 1 3 v1 rfl rfl) h1
  obtain ⟨a2, rfl, rfl, rfl, w2⟩ := open_int Tryd.underlying3 (hval 2 3 v2 rfl rfl) h2
  have h3k := h3
  have hlt3 : ∀ x ∈ p3, x.block < W.heap.size := fun x hx => by simpa using hW'.lt x (by simp [hx])
  obtain ⟨x3, rfl, ok3, on3⟩ := open_act2 (hval 3 60 v3 rfl rfl) h3
  clear hA0 hval0
  refine (walk W (Good.of_laid hL) _ l0 ia0 a1 (int64_of_wf w1) a2 (int64_of_wf w2) x3 ok3 on3).mono fun e W' ⟨he, hnx⟩ => ?_
  subst he
  refine ⟨_, rfl, _, _, _, [], (p0 ++ ([] ++ ([] ++ (p3 ++ [])))), [], hW', ?_, ?_, rfl, Below.frame hnx _, fun h => by cases h⟩
  · exact (trodAll_cons_mk (shut_bool Tryd.underlying4 _) trodAll_mk0)
  · exact (trodAll_cons_mk (Below.trod laidOut (by kernel_rfl) (of_decide_eq_true (by kernel_rfl)) h0k hnx hlt0) (trodAll_cons_mk (shut_int Tryd.underlying3 w1) (trodAll_cons_mk (shut_int Tryd.underlying3 w2) (trodAll_cons_mk (Below.trod laidOut (by kernel_rfl) (of_decide_eq_true (by kernel_rfl)) h3k hnx hlt3) trodAll_mk0))))

theorem over : Rows.showApartRow.holds Tryd.pinned (OpenSpec.ofChange Rows.showApartSpec) :=
  OpenClaim.holds_of_wide 6 Tryd.f6 rfl rfl rfl rfl rfl rfl rfl ⟨rfl, rfl, rfl, rfl, rfl⟩ rfl rfl rfl rfl rfl (by kernel_rfl) Tryd.func6 (by kernel_rfl)
    (of_decide_eq_true (by kernel_rfl)) (by unfold Func.isWrapper; first | (rw [if_pos (by decide +kernel)]; kernel_rfl) | (rw [if_neg (by decide +kernel)]; exact ⟨rfl, rfl⟩))
    (fun os started H enc _ => lifted os started H enc)

end Go.Proofs.YtfgnogdlkhagdaaDoor.showApart

namespace Go.Proofs.YtfgnogdlkhagdaaDoor
open Go
/-- The statement: the row, with its listed variables tied to the program's text. -/
theorem showApart_holds : Rows.ShowApartCardSaid :=
  Claim7.holds_tied_plain_at .later [] [.data, .data, .data, .data, .data, .data, .data, .pinned] true Rows.showApartCard.stood.harness true
    showApart.over (fun _ h => by cases h) (by kernel_rfl) (fun _ h => by cases h) showApart_row_tie rfl ⟨rfl, rfl⟩ (by kernel_rfl) rfl
    (fun f fn hf hfn => by
      obtain rfl : f = 6 := Option.some.inj ((show Tryd.prog.funcNamed Rows.showApartRow.func = some 6 by kernel_rfl).symm.trans hf) |>.symm
      obtain rfl : fn = Tryd.f6 := (Option.some.inj (Tryd.func6.symm.trans hfn)).symm
      exact ⟨by kernel_rfl, fun j t ht => by
        rw [Tryd.params6] at ht
        have hm : t ∈ [22, 3, 3, 60] := by simpa using Array.mem_of_getElem? ht
        have hall : ([22, 3, 3, 60].all fun u => !Tryd.prog.wantsStandIn u) = true := by kernel_rfl
        exact (show Tryd.prog.wantsStandIn t = false by simpa using List.all_eq_true.1 hall t hm)⟩)
    (by kernel_rfl)
#print axioms showApart_holds
end Go.Proofs.YtfgnogdlkhagdaaDoor
