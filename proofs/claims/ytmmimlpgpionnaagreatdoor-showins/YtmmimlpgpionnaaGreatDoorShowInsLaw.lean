/-
  That palinglaw9.ShowIns returns true for every instruction, act and list of texts. Conditions: as the card names them.
-/
import Derived.Test.YtmmimlpgpionnaaGreatDoorRows
import Derived.Test.YtmmimlpgpionnaaGreatDoorCards
import Derived.Test.YtmmimlpgpionnaaGreatDoorTie
import Derived.Test.YtmmimlpgpionnaaGreatDoorShowLaid
import Derived.Test.YtmmimlpgpionnaaGreatDoorJh
import Derived.Test.YtmmimlpgpionnaaGreatDoorJi
import Derived.Test.YtmmimlpgpionnaaGreatDoorRefShowIns
import Derived.Test.YtmmimlpgpionnaaGreatDoorShowAlive
import Derived.Test.YtmmimlpgpionnaaGreatDoorShowRow
import Derived.Test.YtmmimlpgpionnaaGreatDoorBookIns
import Derived.Test.YtmmimlpgpionnaaGreatDoorBookRight
import Derived.Test.YtmmimlpgpionnaaGreatDoorOpensShow
import Derived.Test.YtmmimlpgpionnaaGreatDoorShortsW
import Derived.Test.YtmmimlpgpionnaaGreatDoorJl
import Derived.Deep.RegionHeld3
import Derived.WalkKit
import Derived.ProofKit
import Derived.OpenShut
import Derived.SizedLaws
import Derived.ShutString
import Derived.Carry
import Derived.Stop.Joined
import Derived.SevenTiedAt
namespace Go.Proofs.YtmmimlpgpionnaaGreatDoor.showIns
open Go.ChangeShapes Go.WideShapes Go.ChangeAt Go.RowKit
open Go.ChangeMaps (open_string shut_string)
set_option linter.unusedVariables false
set_option linter.unusedSimpArgs false

theorem own : ownKnob Tryz.prog.godebug = none := by kernel_rfl
theorem laidOut : laidOutB Tryz.prog = true := by kernel_rfl

theorem at_new_eq {w : World} {o : Obj} {n : Nat} (h : n = w.heap.size) : (w.alloc o).heap[n]? = some o := by rw [h]; exact at_new w o

def xyzT : List ByteArray := [⟨#[120]⟩, ⟨#[121]⟩, ⟨#[122]⟩]
theorem xyz_crow {w : World} {k : Nat} (h : w.heap[k]? = some (.cells #[.string ⟨#[120]⟩, .string ⟨#[121]⟩, .string ⟨#[122]⟩] 9)) : CRow w (some ⟨k, 0, none⟩) (xyzT.map Value.string) := by
  intro j u hj
  refine ⟨k, rfl, ?_⟩
  simp only [World.cell?, h]
  have : j = 0 ∨ j = 1 ∨ j = 2 := by
    have := (List.getElem?_eq_some_iff.1 hj).1
    simp [xyzT] at this
    omega
  rcases this with rfl | rfl | rfl
  all_goals
    simp [xyzT] at hj
    subst hj
    rfl

theorem s_of {w' : World} {XB YB : Nat} {op cond ak ar ay an bk br bs bn op2 cond2 ak2 ar2 ay2 an2 bk2 br2 bs2 bn2 : Int} {lock lock2 : Bool} {dest dest2 : ByteArray} {lp : Option Addr} {ln lc : Nat}
    (hx : w'.heap[XB]? = some (.cells #[.int .i64 op, .bool lock, .int .i64 cond, .int .i64 ak, .int .i64 ar, .int .i64 ay, .int .i64 an, .int .i64 bk, .int .i64 br, .int .i64 bs, .int .i64 bn, .string dest, .slice lp ln lc] 36)) (hy : w'.heap[YB]? = some (.cells #[.int .i64 op2, .bool lock2, .int .i64 cond2, .int .i64 ak2, .int .i64 ar2, .int .i64 ay2, .int .i64 an2, .int .i64 bk2, .int .i64 br2, .int .i64 bs2, .int .i64 bn2, .string dest2, .slice none 0 0] 36)) : w'.cell? ⟨XB, 0, none⟩ = some (.int .i64 op) ∧ w'.cell? ⟨XB, 1, none⟩ = some (.bool lock) ∧ w'.cell? ⟨XB, 2, none⟩ = some (.int .i64 cond) ∧ w'.cell? ⟨XB, 3, none⟩ = some (.int .i64 ak) ∧ w'.cell? ⟨XB, 4, none⟩ = some (.int .i64 ar) ∧ w'.cell? ⟨XB, 5, none⟩ = some (.int .i64 ay) ∧ w'.cell? ⟨XB, 6, none⟩ = some (.int .i64 an) ∧ w'.cell? ⟨XB, 7, none⟩ = some (.int .i64 bk) ∧ w'.cell? ⟨XB, 8, none⟩ = some (.int .i64 br) ∧ w'.cell? ⟨XB, 9, none⟩ = some (.int .i64 bs) ∧ w'.cell? ⟨XB, 10, none⟩ = some (.int .i64 bn) ∧ w'.cell? ⟨XB, 11, none⟩ = some (.string dest) ∧ w'.cell? ⟨XB, 12, none⟩ = some (.slice lp ln lc) ∧ w'.cell? ⟨YB, 0, none⟩ = some (.int .i64 op2) ∧ w'.cell? ⟨YB, 1, none⟩ = some (.bool lock2) ∧ w'.cell? ⟨YB, 2, none⟩ = some (.int .i64 cond2) ∧ w'.cell? ⟨YB, 3, none⟩ = some (.int .i64 ak2) ∧ w'.cell? ⟨YB, 4, none⟩ = some (.int .i64 ar2) ∧ w'.cell? ⟨YB, 5, none⟩ = some (.int .i64 ay2) ∧ w'.cell? ⟨YB, 6, none⟩ = some (.int .i64 an2) ∧ w'.cell? ⟨YB, 7, none⟩ = some (.int .i64 bk2) ∧ w'.cell? ⟨YB, 8, none⟩ = some (.int .i64 br2) ∧ w'.cell? ⟨YB, 9, none⟩ = some (.int .i64 bs2) ∧ w'.cell? ⟨YB, 10, none⟩ = some (.int .i64 bn2) ∧ w'.cell? ⟨YB, 11, none⟩ = some (.string dest2) ∧ w'.cell? ⟨YB, 12, none⟩ = some (.slice none 0 0) := by
  obtain ⟨b0, b1, b2, b3, b4, b5, b6, b7, b8, b9, b10, b11, b12⟩ := box13_facts hx
  obtain ⟨c0, c1, c2, c3, c4, c5, c6, c7, c8, c9, c10, c11, c12⟩ := box13_facts hy
  exact ⟨b0, b1, b2, b3, b4, b5, b6, b7, b8, b9, b10, b11, b12, c0, c1, c2, c3, c4, c5, c6, c7, c8, c9, c10, c11, c12⟩

theorem own_later {w w' : World} {base : Nat} {v : Value} {N : List ByteArray} (h : OwnNames w base v N) (hl : Later w w') : OwnNames w' base v N := ownsC_later h hl

theorem sz0d (w : World) : w.heap.size = w.drew.heap.size := rfl
theorem sz1 (w : World) (o : Obj) : w.heap.size + 1 = (w.alloc o).heap.size := by simp
theorem sz1d (w : World) (o : Obj) : w.heap.size + 1 = (w.drew.alloc o).heap.size := sz1 w.drew o
theorem sz1e (w : World) (o : Obj) : w.heap.size + 1 = (w.alloc o).drew.heap.size := sz1 w o

theorem shorts_next {L : List ByteArray} {i : Nat} {t : ByteArray} (h : L[i]? = some t) : (((L.take (i + 1)).map shortT).map Value.string) = (((L.take i).map shortT).map Value.string) ++ [.string (shortT t)] := by
  rw [List.take_add_one, h]
  simp

set_option maxRecDepth 1000000 in
set_option maxHeartbeats 40000000 in
theorem walk (w : World) (g : Good w) (x : Ins) (Lx : List ByteArray) (ok : x.Ok) (ti : TextsIn w x.labels Lx) (a : Act5) (oka : a.Ok) (on : I64 a.n) (v : Value) (L : List ByteArray) (tl : TextsIn w v L) :
    Calls Tryz.prog 5 #[x.val, a.val, v] w fun e w' => e = .returned (.bool true) ∧ Later w w' := by
  have cM : ∀ w', Calls Tryz.prog 13 #[a.val, .int .i64 9] w' fun e w'' => e = .returned (insOf a 9).val ∧ Later w' w'' := fun w' => bookIns_any a oka 9 (by omega) w'
  have oky : (insOf a 9).Ok := insOf_ok a on 9
  have hyd : (insOf a 9).dest.size ≤ 1000 := insOf_dest a 9 (by omega)
  have hyl : (insOf a 9).labels = .slice none 0 0 := insOf_labels a 9
  have cA := fun w' h => showAlive_any w' h
  have cG := fun w' h => great_any x Lx w' ok.dest h
  have hgr := fun (h : greatF x Lx = false) => (great_size h).1
  obtain ⟨tp, tc, rfl, t1, t2, t3, t4⟩ := tl
  unfold maxLen at t2 t3
  obtain ⟨i0, hi0, hz0, hz1, hz2⟩ := info_parts infoStr
  have HTI : Hid (TextsIn w x.labels Lx) := ti
  have HG : Hid (Good w) := g
  have HT3 : Hid (∀ t ∈ L, t.size ≤ 2 ^ 63 - 1) := t3
  have HT4 : Hid (L ≠ [] → ∃ g o, tp = some ⟨g, o, none⟩ ∧ ∀ i t, L[i]? = some t → w.cell? ⟨g, o + i, none⟩ = some (.string t)) := t4
  obtain ⟨lp, lc, hlv, -⟩ := ti
  have mkX := fun (hd : x.dest.size ≤ 1000) (N : List ByteArray) (h1 : N.length ≤ 1000) (h2 : ∀ t ∈ N, t.size ≤ 1000) ad cap w' h h' => showIns_any x ok hd N h1 h2 ad cap w' h h'
  have mkX' := fun (hd : x.dest.size ≤ 1000) (N : List ByteArray) (h1 : N.length ≤ 1000) (h2 : ∀ t ∈ N, t.size ≤ 1000) ad cap w' h' => refShowIns_any x ok hd N h1 h2 ad cap w' h'
  have mkY := fun (N : List ByteArray) (h1 : N.length ≤ 1000) (h2 : ∀ t ∈ N, t.size ≤ 1000) ad cap w' h h' => showIns_any (insOf a 9) oky hyd N h1 h2 ad cap w' h h'
  have mkY' := fun (N : List ByteArray) (h1 : N.length ≤ 1000) (h2 : ∀ t ∈ N, t.size ≤ 1000) ad cap w' h' => refShowIns_any (insOf a 9) oky hyd N h1 h2 ad cap w' h'
  clear g t3 t4 oky on oka ok hyd
  generalize insOf a 9 = y at *
  obtain ⟨op, lock, cond, ⟨ak, ar, ay, an⟩, ⟨bk, br, bs, bn⟩, dest, lb⟩ := x
  obtain ⟨op2, lock2, cond2, ⟨ak2, ar2, ay2, an2⟩, ⟨bk2, br2, bs2, bn2⟩, dest2, lb2⟩ := y
  obtain ⟨k9, a9, e9, c9, n9⟩ := a
  unfold Ins.val Ins.cells Act5.val at *
  dsimp only at *
  subst hlv hyl
  generalize Lx.length = ln at *
  have L0 := Later.alloc (Later.alloc (Later.refl w) (.cells #[.int .i64 op, .bool lock, .int .i64 cond, .int .i64 ak, .int .i64 ar, .int .i64 ay, .int .i64 an, .int .i64 bk, .int .i64 br, .int .i64 bs, .int .i64 bn, .string dest, .slice lp ln lc] 36)) (.cells #[.int .i64 k9, .int .i64 a9, .int .i64 e9, .int .i64 c9, .int .i64 n9] 38)
  have hz : (w.alloc (.cells #[.int .i64 op, .bool lock, .int .i64 cond, .int .i64 ak, .int .i64 ar, .int .i64 ay, .int .i64 an, .int .i64 bk, .int .i64 br, .int .i64 bs, .int .i64 bn, .string dest, .slice lp ln lc] 36)).heap.size = w.heap.size + 1 := by simp
  have HX := heap_later (Later.alloc (Later.refl (w.alloc (.cells #[.int .i64 op, .bool lock, .int .i64 cond, .int .i64 ak, .int .i64 ar, .int .i64 ay, .int .i64 an, .int .i64 bk, .int .i64 br, .int .i64 bs, .int .i64 bn, .string dest, .slice lp ln lc] 36))) (.cells #[.int .i64 k9, .int .i64 a9, .int .i64 e9, .int .i64 c9, .int .i64 n9] 38)) (at_new w (.cells #[.int .i64 op, .bool lock, .int .i64 cond, .int .i64 ak, .int .i64 ar, .int .i64 ay, .int .i64 an, .int .i64 bk, .int .i64 br, .int .i64 bs, .int .i64 bn, .string dest, .slice lp ln lc] 36))
  have HA := at_new (w.alloc (.cells #[.int .i64 op, .bool lock, .int .i64 cond, .int .i64 ak, .int .i64 ar, .int .i64 ay, .int .i64 an, .int .i64 bk, .int .i64 br, .int .i64 bs, .int .i64 bn, .string dest, .slice lp ln lc] 36)) (.cells #[.int .i64 k9, .int .i64 a9, .int .i64 e9, .int .i64 c9, .int .i64 n9] 38)
  rw [hz] at HA
  clear hz
  go_enter Tryz.func5, Tryz.ntmps5
  go_upto_region 1 with (fail)
  generalize (w.alloc (.cells #[.int .i64 op, .bool lock, .int .i64 cond, .int .i64 ak, .int .i64 ar, .int .i64 ay, .int .i64 an, .int .i64 bk, .int .i64 br, .int .i64 bs, .int .i64 bn, .string dest, .slice lp ln lc] 36)).alloc (.cells #[.int .i64 k9, .int .i64 a9, .int .i64 e9, .int .i64 c9, .int .i64 n9] 38) = W at *
  generalize hXB : w.heap.size = XB at *
  go_wp2
  go_loopw [7, 8] (fun vo vi wr => ∃ (i : Nat) (p : Option Addr) (cap : Nat), vo = .slice p i cap ∧ vi = .int .i64 (i : Nat) ∧ i ≤ L.length ∧ i ≤ 5 ∧ Hid (Later W wr ∧ wr.ownsRow W.heap.size 9 1 (.slice p i cap) i (((L.take i).map shortT).map Value.string))) (fun _ vi _ => L.length - (intOf vi).toNat)
  case atStart => exact ⟨0, none, 0, rfl, rfl, by omega, by omega, Later.refl _, rfl, Or.inl ⟨rfl, rfl⟩⟩
  case round =>
    obtain ⟨i, p, cap, rfl, rfl, hi8, hi5, hrr⟩ := hrel
    obtain ⟨Lr, Or⟩ := hrr.out
    clear hrr
    by_cases h8 : i < L.length ∧ i < 5
    · obtain ⟨h8, h5⟩ := h8
      obtain ⟨t, ht⟩ : ∃ t, L[i]? = some t := ⟨_, List.getElem?_eq_getElem h8⟩
      have HT : Hid (L[i]? = some t) := ht
      have hts := HT3.out t (List.mem_of_getElem? ht)
      obtain ⟨gg, oo, rfl, hcell⟩ := HT4.out (by rintro rfl; simp at h8)
      have hc := cell_later (hcell i t ht) (L0.trans Lr)
      have cS := fun w' => shortAny t (by omega) w'
      have OX : Hid (wr.ownsRow W.heap.size 9 1 (.slice p i cap) i (((L.take i).map shortT).map Value.string)) := Or
      generalize hsT : shortT t = st at *
      have HST : Hid (shortT t = st) := hsT
      clear hsT ht hcell Or
      go_wp2_with (first
        | (go_at_call 11; (apply Calls.mono; (focus (with_reducible (exact cS _))); rintro e w2 ⟨rfl, hl2⟩; have hsx := (Lr.trans hl2).size; have OY := ownsC_later OX.out hl2))
        | (at_builtin; refine wpList_append_own _ rfl _ _ 34 rfl W.heap.size 9 i0 (.string ⟨#[]⟩) 1 16 Tryz.underlying34 hi0 hz0 hz1 hz2 rfl (by decide) _ _ _ rfl (OY.alloc _) ⟨w2.heap.size, 0, none⟩ 1 1 [.string st] rfl rfl (news_at _ _ _) (fun u hu => by simp at hu; subst hu; rfl) (by unfold maxLen; omega) (by omega) (by simp; omega) ?_; intro v3 w3 hown3 hgrow3 hnil3; obtain ⟨p5, q5, rfl⟩ := owns_slice hown3; have X5 := after_app (Lr.trans hl2) (Nat.le_refl _) OY hgrow3 hown3; clear hown3 hgrow3 hnil3))
      go_roundw
      case rel => exact ⟨i + 1, _, _, rfl, by go_num, by omega, by omega, X5.out.2.1, by rw [shorts_next HT.out, HST.out]; exact X5.out.1⟩
      case measure => simp [intOf]; omega
    · have hN : ((L.take i).map shortT).length = i := by simp; omega
      have hNs : ∀ t ∈ (L.take i).map shortT, t.size ≤ 1000 := fun t ht => by
        obtain ⟨s, -, rfl⟩ := List.mem_map.1 ht
        have := short_size 30 s
        unfold shortT
        omega
      generalize (L.take i).map shortT = N at *
      have hnot : ¬ (i < L.length ∧ i < 5) := h8
      have hN5 : N.length ≤ 5 := by omega
      have hN1 : N.length ≤ L.length := by omega
      have hnot' : ¬ (N.length < L.length ∧ N.length < 5) := by omega
      subst hN
      clear h8 hnot hi8 hi5
      have NN : OwnNames wr W.heap.size (.slice p N.length cap) N := Or
      clear Or
      have LL := L0.trans Lr
      replace HX := heap_later Lr HX
      replace HA := heap_later Lr HA
      obtain ⟨wn, rfl⟩ : ∃ wn, wn = wr := ⟨_, rfl⟩
      have hti := TextsIn.later HTI.out LL
      have cG1 := cG wn hti
      obtain ⟨b0, b1, b2, b3, b4, b5, b6, b7, b8, b9, b10, b11, b12⟩ := box13_facts HX
      obtain ⟨f0, f1, f2, f3, f4⟩ := box5_facts HA
      have mk1 := fun hd => mkX hd N (by omega) hNs p cap
      have mk2 := fun hd => mkX' hd N (by omega) hNs p cap
      have cY := mkY N (by omega) hNs p cap
      have dY := mkY' N (by omega) hNs p cap
      have cZ := mkY xyzT (by decide) (by decide)
      have dZ := mkY' xyzT (by decide) (by decide)
      have h3z : xyzT.length = 3 := rfl
      simp only [h3z] at cZ dZ
      clear mkX mkX' mkY mkY' cG hti h3z
      generalize W.heap.size = WB at *
      have hlen : (N.length : Int) < 1000 := by omega
      cases hg : greatF ⟨op, lock, cond, ⟨ak, ar, ay, an⟩, ⟨bk, br, bs, bn⟩, dest, .slice lp ln lc⟩ Lx with
      | true =>
        rw [hg] at cG1
        clear hgr hg cY dY cZ dZ mk1 mk2
        by_cases hq : N.length < L.length
        · have hq5 : ¬ N.length < 5 := by omega
          go_wp2_with (first
            | (go_at_call 12; apply Calls.mono; (focus (with_reducible (exact cG1))); rintro e wm ⟨rfl, hl⟩)
            | (go_at_call 7; apply Calls.mono; (focus (with_reducible (exact cA _ (HG.out.later (LL.trans hl))))); rintro e w5 ⟨rfl, hl5⟩))
          go_ret
          exact ⟨rfl, LL.trans (hl.trans hl5)⟩
        · go_wp2_with (first
            | (go_at_call 12; apply Calls.mono; (focus (with_reducible (exact cG1))); rintro e wm ⟨rfl, hl⟩)
            | (go_at_call 7; apply Calls.mono; (focus (with_reducible (exact cA _ (HG.out.later (LL.trans hl))))); rintro e w5 ⟨rfl, hl5⟩))
          go_ret
          exact ⟨rfl, LL.trans (hl.trans hl5)⟩
      | false =>
        rw [hg] at cG1
        have hdx := hgr hg
        have cX := mk1 (by omega)
        have dX := mk2 (by omega)
        clear hgr hg mk1 mk2
        generalize insT _ N = X1 at cX dX
        generalize insT _ N = X2 at cY dY
        generalize insT _ xyzT = X3 at cZ dZ
        have q1 : (X1.toList == X1.toList) = true := by simp
        have q2 : (X2.toList == X2.toList) = true := by simp
        have q3 : (X3.toList == X3.toList) = true := by simp
        rcases (by omega : (N.length < L.length ∧ ¬ N.length < 5) ∨ ¬ N.length < L.length) with ⟨hq, hq5⟩ | hq
        all_goals
          as_aux_lemma =>
          go_upto_region 9 with (first
            | (go_at_call 12; apply Calls.mono; (focus (with_reducible (exact cG1))); rintro e wm ⟨rfl, hl⟩; replace HX := heap_later hl HX; replace HA := heap_later hl HA; replace NN := own_later NN hl; replace LL := Later.trans LL hl; obtain ⟨f0, f1, f2, f3, f4⟩ := box5_facts HA)
            | (go_at_call 13; apply Calls.mono; (focus (with_reducible (exact cM _))); rintro e wn ⟨rfl, hl⟩; replace HX := heap_later hl HX; replace NN := own_later NN hl; replace LL := Later.trans LL hl))
          have HY := at_new wn (.cells #[.int .i64 op2, .bool lock2, .int .i64 cond2, .int .i64 ak2, .int .i64 ar2, .int .i64 ay2, .int .i64 an2, .int .i64 bk2, .int .i64 br2, .int .i64 bs2, .int .i64 bn2, .string dest2, .slice none 0 0] 36)
          replace HX := heap_later (Later.alloc (Later.refl wn) (.cells #[.int .i64 op2, .bool lock2, .int .i64 cond2, .int .i64 ak2, .int .i64 ar2, .int .i64 ay2, .int .i64 an2, .int .i64 bk2, .int .i64 br2, .int .i64 bs2, .int .i64 bn2, .string dest2, .slice none 0 0] 36)) HX
          replace NN : OwnNames _ WB (.slice p N.length cap) N := own_later NN (Later.alloc (Later.refl wn) (.cells #[.int .i64 op2, .bool lock2, .int .i64 cond2, .int .i64 ak2, .int .i64 ar2, .int .i64 ay2, .int .i64 an2, .int .i64 bk2, .int .i64 br2, .int .i64 bs2, .int .i64 bn2, .string dest2, .slice none 0 0] 36))
          replace LL := Later.alloc LL (.cells #[.int .i64 op2, .bool lock2, .int .i64 cond2, .int .i64 ak2, .int .i64 ar2, .int .i64 ay2, .int .i64 an2, .int .i64 bk2, .int .i64 br2, .int .i64 bs2, .int .i64 bn2, .string dest2, .slice none 0 0] 36)
          clear hl f0 f1 f2 f3 f4 HA cG1 cM
          generalize wn.alloc (.cells #[.int .i64 op2, .bool lock2, .int .i64 cond2, .int .i64 ak2, .int .i64 ar2, .int .i64 ay2, .int .i64 an2, .int .i64 bk2, .int .i64 br2, .int .i64 bs2, .int .i64 bn2, .string dest2, .slice none 0 0] 36) = W9 at *
          generalize wn.heap.size = YB at *
          obtain ⟨b0, b1, b2, b3, b4, b5, b6, b7, b8, b9, b10, b11, b12⟩ := box13_facts HX
          obtain ⟨c0, c1, c2, c3, c4, c5, c6, c7, c8, c9, c10, c11, c12⟩ := box13_facts HY
          obtain ⟨wn, rfl⟩ : ∃ wn, wn = W9 := ⟨_, rfl⟩
          go_region_held3 (fun w' => w'.cell? ⟨XB, 0, none⟩ = some (.int .i64 op) ∧ w'.cell? ⟨XB, 1, none⟩ = some (.bool lock) ∧ w'.cell? ⟨XB, 2, none⟩ = some (.int .i64 cond) ∧ w'.cell? ⟨XB, 3, none⟩ = some (.int .i64 ak) ∧ w'.cell? ⟨XB, 4, none⟩ = some (.int .i64 ar) ∧ w'.cell? ⟨XB, 5, none⟩ = some (.int .i64 ay) ∧ w'.cell? ⟨XB, 6, none⟩ = some (.int .i64 an) ∧ w'.cell? ⟨XB, 7, none⟩ = some (.int .i64 bk) ∧ w'.cell? ⟨XB, 8, none⟩ = some (.int .i64 br) ∧ w'.cell? ⟨XB, 9, none⟩ = some (.int .i64 bs) ∧ w'.cell? ⟨XB, 10, none⟩ = some (.int .i64 bn) ∧ w'.cell? ⟨XB, 11, none⟩ = some (.string dest) ∧ w'.cell? ⟨XB, 12, none⟩ = some (.slice lp ln lc) ∧ w'.cell? ⟨YB, 0, none⟩ = some (.int .i64 op2) ∧ w'.cell? ⟨YB, 1, none⟩ = some (.bool lock2) ∧ w'.cell? ⟨YB, 2, none⟩ = some (.int .i64 cond2) ∧ w'.cell? ⟨YB, 3, none⟩ = some (.int .i64 ak2) ∧ w'.cell? ⟨YB, 4, none⟩ = some (.int .i64 ar2) ∧ w'.cell? ⟨YB, 5, none⟩ = some (.int .i64 ay2) ∧ w'.cell? ⟨YB, 6, none⟩ = some (.int .i64 an2) ∧ w'.cell? ⟨YB, 7, none⟩ = some (.int .i64 bk2) ∧ w'.cell? ⟨YB, 8, none⟩ = some (.int .i64 br2) ∧ w'.cell? ⟨YB, 9, none⟩ = some (.int .i64 bs2) ∧ w'.cell? ⟨YB, 10, none⟩ = some (.int .i64 bn2) ∧ w'.cell? ⟨YB, 11, none⟩ = some (.string dest2) ∧ w'.cell? ⟨YB, 12, none⟩ = some (.slice none 0 0))
            ((first | (with_reducible exact ⟨b0, b1, b2, b3, b4, b5, b6, b7, b8, b9, b10, b11, b12, c0, c1, c2, c3, c4, c5, c6, c7, c8, c9, c10, c11, c12⟩) | (with_reducible exact s_of (heap_later (by (repeat (first | exact Later.refl _ | refine Later.drew ?_ | refine Later.alloc ?_ _)); done) HX) (heap_later (by (repeat (first | exact Later.refl _ | refine Later.drew ?_ | refine Later.alloc ?_ _)); done) HY))))
            (first | (go_at_call 14; apply Calls.mono; (focus (with_reducible (exact cX _ (HG.out.later (by (repeat (first | exact LL | refine Later.drew ?_ | refine Later.alloc ?_ _)); done)) (OwnNames.crow (own_later NN (by (repeat (first | exact Later.refl _ | refine Later.drew ?_ | refine Later.alloc ?_ _)); done)))))); rintro e w1 ⟨rfl, hl⟩; replace HX := heap_later (Later.trans (by (repeat (first | exact Later.refl _ | refine Later.drew ?_ | refine Later.alloc ?_ _)); done) hl) HX; replace HY := heap_later (Later.trans (by (repeat (first | exact Later.refl _ | refine Later.drew ?_ | refine Later.alloc ?_ _)); done) hl) HY; replace NN := own_later NN (Later.trans (by (repeat (first | exact Later.refl _ | refine Later.drew ?_ | refine Later.alloc ?_ _)); done) hl); replace LL : Later w w1 := Later.trans (by (repeat (first | exact LL | refine Later.drew ?_ | refine Later.alloc ?_ _)); done) hl; obtain ⟨b0, b1, b2, b3, b4, b5, b6, b7, b8, b9, b10, b11, b12⟩ := box13_facts HX; obtain ⟨c0, c1, c2, c3, c4, c5, c6, c7, c8, c9, c10, c11, c12⟩ := box13_facts HY; clear hl) | (go_at_call 15; apply Calls.mono; (focus (with_reducible (exact dX _ (OwnNames.crow (own_later NN (by (repeat (first | exact Later.refl _ | refine Later.drew ?_ | refine Later.alloc ?_ _)); done)))))); rintro e w2 ⟨rfl, hl⟩; replace HX := heap_later (Later.trans (by (repeat (first | exact Later.refl _ | refine Later.drew ?_ | refine Later.alloc ?_ _)); done) hl) HX; replace HY := heap_later (Later.trans (by (repeat (first | exact Later.refl _ | refine Later.drew ?_ | refine Later.alloc ?_ _)); done) hl) HY; replace NN := own_later NN (Later.trans (by (repeat (first | exact Later.refl _ | refine Later.drew ?_ | refine Later.alloc ?_ _)); done) hl); replace LL : Later w w2 := Later.trans (by (repeat (first | exact LL | refine Later.drew ?_ | refine Later.alloc ?_ _)); done) hl; obtain ⟨b0, b1, b2, b3, b4, b5, b6, b7, b8, b9, b10, b11, b12⟩ := box13_facts HX; obtain ⟨c0, c1, c2, c3, c4, c5, c6, c7, c8, c9, c10, c11, c12⟩ := box13_facts HY; clear hl) | (go_at_call 14; apply Calls.mono; (focus (with_reducible (exact cY _ (HG.out.later (by (repeat (first | exact LL | refine Later.drew ?_ | refine Later.alloc ?_ _)); done)) (OwnNames.crow (own_later NN (by (repeat (first | exact Later.refl _ | refine Later.drew ?_ | refine Later.alloc ?_ _)); done)))))); rintro e w3 ⟨rfl, hl⟩; replace HX := heap_later (Later.trans (by (repeat (first | exact Later.refl _ | refine Later.drew ?_ | refine Later.alloc ?_ _)); done) hl) HX; replace HY := heap_later (Later.trans (by (repeat (first | exact Later.refl _ | refine Later.drew ?_ | refine Later.alloc ?_ _)); done) hl) HY; replace NN := own_later NN (Later.trans (by (repeat (first | exact Later.refl _ | refine Later.drew ?_ | refine Later.alloc ?_ _)); done) hl); replace LL : Later w w3 := Later.trans (by (repeat (first | exact LL | refine Later.drew ?_ | refine Later.alloc ?_ _)); done) hl; obtain ⟨b0, b1, b2, b3, b4, b5, b6, b7, b8, b9, b10, b11, b12⟩ := box13_facts HX; obtain ⟨c0, c1, c2, c3, c4, c5, c6, c7, c8, c9, c10, c11, c12⟩ := box13_facts HY; clear hl) | (go_at_call 15; apply Calls.mono; (focus (with_reducible (exact dY _ (OwnNames.crow (own_later NN (by (repeat (first | exact Later.refl _ | refine Later.drew ?_ | refine Later.alloc ?_ _)); done)))))); rintro e w4 ⟨rfl, hl⟩; replace HX := heap_later (Later.trans (by (repeat (first | exact Later.refl _ | refine Later.drew ?_ | refine Later.alloc ?_ _)); done) hl) HX; replace HY := heap_later (Later.trans (by (repeat (first | exact Later.refl _ | refine Later.drew ?_ | refine Later.alloc ?_ _)); done) hl) HY; replace NN := own_later NN (Later.trans (by (repeat (first | exact Later.refl _ | refine Later.drew ?_ | refine Later.alloc ?_ _)); done) hl); replace LL : Later w w4 := Later.trans (by (repeat (first | exact LL | refine Later.drew ?_ | refine Later.alloc ?_ _)); done) hl; obtain ⟨b0, b1, b2, b3, b4, b5, b6, b7, b8, b9, b10, b11, b12⟩ := box13_facts HX; obtain ⟨c0, c1, c2, c3, c4, c5, c6, c7, c8, c9, c10, c11, c12⟩ := box13_facts HY; clear hl) | (go_at_call 14; apply Calls.mono; (focus (with_reducible (exact cZ _ _ _ (HG.out.later (by (repeat (first | exact LL | refine Later.drew ?_ | refine Later.alloc ?_ _)); done)) (xyz_crow (by first | exact at_new_eq rfl | exact at_new_eq (sz0d _) | exact at_new_eq (sz1 _ _) | exact at_new_eq (sz1d _ _) | exact at_new_eq (sz1e _ _) | exact heap_later (Later.alloc (Later.refl _) _) (at_new_eq rfl) | exact heap_later (Later.alloc (Later.refl _) _) (at_new_eq (sz0d _)) | exact heap_later (Later.alloc (Later.refl _) _) (at_new_eq (sz1 _ _)) | exact heap_later (Later.alloc (Later.refl _) _) (at_new_eq (sz1d _ _)) | exact heap_later (Later.alloc (Later.refl _) _) (at_new_eq (sz1e _ _)) | exact heap_later (Later.drew (Later.refl _)) (at_new_eq rfl) | exact heap_later (Later.drew (Later.refl _)) (at_new_eq (sz0d _)) | exact heap_later (Later.drew (Later.refl _)) (at_new_eq (sz1 _ _)) | exact heap_later (Later.drew (Later.refl _)) (at_new_eq (sz1d _ _)) | exact heap_later (Later.drew (Later.refl _)) (at_new_eq (sz1e _ _)) | exact heap_later (Later.drew (Later.refl _)) (heap_later (Later.alloc (Later.refl _) _) (at_new_eq rfl)) | exact heap_later (Later.drew (Later.refl _)) (heap_later (Later.alloc (Later.refl _) _) (at_new_eq (sz0d _))) | exact heap_later (Later.drew (Later.refl _)) (heap_later (Later.alloc (Later.refl _) _) (at_new_eq (sz1 _ _))) | exact heap_later (Later.drew (Later.refl _)) (heap_later (Later.alloc (Later.refl _) _) (at_new_eq (sz1d _ _))) | exact heap_later (Later.drew (Later.refl _)) (heap_later (Later.alloc (Later.refl _) _) (at_new_eq (sz1e _ _)))))))); rintro e w5 ⟨rfl, hl⟩; (try have H1 : w5.heap[w4.heap.size]? = some (.cells #[.string ⟨#[120]⟩, .string ⟨#[121]⟩, .string ⟨#[122]⟩] 9) := heap_later hl (by first | exact at_new_eq rfl | exact at_new_eq (sz0d _) | exact at_new_eq (sz1 _ _) | exact at_new_eq (sz1d _ _) | exact at_new_eq (sz1e _ _) | exact heap_later (Later.alloc (Later.refl _) _) (at_new_eq rfl) | exact heap_later (Later.alloc (Later.refl _) _) (at_new_eq (sz0d _)) | exact heap_later (Later.alloc (Later.refl _) _) (at_new_eq (sz1 _ _)) | exact heap_later (Later.alloc (Later.refl _) _) (at_new_eq (sz1d _ _)) | exact heap_later (Later.alloc (Later.refl _) _) (at_new_eq (sz1e _ _)) | exact heap_later (Later.drew (Later.refl _)) (at_new_eq rfl) | exact heap_later (Later.drew (Later.refl _)) (at_new_eq (sz0d _)) | exact heap_later (Later.drew (Later.refl _)) (at_new_eq (sz1 _ _)) | exact heap_later (Later.drew (Later.refl _)) (at_new_eq (sz1d _ _)) | exact heap_later (Later.drew (Later.refl _)) (at_new_eq (sz1e _ _)) | exact heap_later (Later.drew (Later.refl _)) (heap_later (Later.alloc (Later.refl _) _) (at_new_eq rfl)) | exact heap_later (Later.drew (Later.refl _)) (heap_later (Later.alloc (Later.refl _) _) (at_new_eq (sz0d _))) | exact heap_later (Later.drew (Later.refl _)) (heap_later (Later.alloc (Later.refl _) _) (at_new_eq (sz1 _ _))) | exact heap_later (Later.drew (Later.refl _)) (heap_later (Later.alloc (Later.refl _) _) (at_new_eq (sz1d _ _))) | exact heap_later (Later.drew (Later.refl _)) (heap_later (Later.alloc (Later.refl _) _) (at_new_eq (sz1e _ _))))); (try have H2 : w5.heap[w4.heap.size + 1]? = some (.cells #[.string ⟨#[120]⟩, .string ⟨#[121]⟩, .string ⟨#[122]⟩] 9) := heap_later hl (by first | exact at_new_eq rfl | exact at_new_eq (sz0d _) | exact at_new_eq (sz1 _ _) | exact at_new_eq (sz1d _ _) | exact at_new_eq (sz1e _ _) | exact heap_later (Later.alloc (Later.refl _) _) (at_new_eq rfl) | exact heap_later (Later.alloc (Later.refl _) _) (at_new_eq (sz0d _)) | exact heap_later (Later.alloc (Later.refl _) _) (at_new_eq (sz1 _ _)) | exact heap_later (Later.alloc (Later.refl _) _) (at_new_eq (sz1d _ _)) | exact heap_later (Later.alloc (Later.refl _) _) (at_new_eq (sz1e _ _)) | exact heap_later (Later.drew (Later.refl _)) (at_new_eq rfl) | exact heap_later (Later.drew (Later.refl _)) (at_new_eq (sz0d _)) | exact heap_later (Later.drew (Later.refl _)) (at_new_eq (sz1 _ _)) | exact heap_later (Later.drew (Later.refl _)) (at_new_eq (sz1d _ _)) | exact heap_later (Later.drew (Later.refl _)) (at_new_eq (sz1e _ _)) | exact heap_later (Later.drew (Later.refl _)) (heap_later (Later.alloc (Later.refl _) _) (at_new_eq rfl)) | exact heap_later (Later.drew (Later.refl _)) (heap_later (Later.alloc (Later.refl _) _) (at_new_eq (sz0d _))) | exact heap_later (Later.drew (Later.refl _)) (heap_later (Later.alloc (Later.refl _) _) (at_new_eq (sz1 _ _))) | exact heap_later (Later.drew (Later.refl _)) (heap_later (Later.alloc (Later.refl _) _) (at_new_eq (sz1d _ _))) | exact heap_later (Later.drew (Later.refl _)) (heap_later (Later.alloc (Later.refl _) _) (at_new_eq (sz1e _ _))))); replace HX := heap_later (Later.trans (by (repeat (first | exact Later.refl _ | refine Later.drew ?_ | refine Later.alloc ?_ _)); done) hl) HX; replace HY := heap_later (Later.trans (by (repeat (first | exact Later.refl _ | refine Later.drew ?_ | refine Later.alloc ?_ _)); done) hl) HY; replace NN := own_later NN (Later.trans (by (repeat (first | exact Later.refl _ | refine Later.drew ?_ | refine Later.alloc ?_ _)); done) hl); replace LL : Later w w5 := Later.trans (by (repeat (first | exact LL | refine Later.drew ?_ | refine Later.alloc ?_ _)); done) hl; obtain ⟨b0, b1, b2, b3, b4, b5, b6, b7, b8, b9, b10, b11, b12⟩ := box13_facts HX; obtain ⟨c0, c1, c2, c3, c4, c5, c6, c7, c8, c9, c10, c11, c12⟩ := box13_facts HY; clear hl) | (go_at_call 15; apply Calls.mono; (focus (with_reducible (exact dZ _ _ _ (xyz_crow (by first | exact H1 | exact H2 | exact heap_later (Later.drew (Later.refl _)) H1 | exact heap_later (Later.drew (Later.refl _)) H2 | exact heap_later (Later.alloc (Later.refl _) _) H1 | exact heap_later (Later.alloc (Later.refl _) _) H2 | exact at_new_eq rfl | exact at_new_eq (sz0d _) | exact at_new_eq (sz1 _ _) | exact at_new_eq (sz1d _ _) | exact at_new_eq (sz1e _ _) | exact heap_later (Later.alloc (Later.refl _) _) (at_new_eq rfl) | exact heap_later (Later.alloc (Later.refl _) _) (at_new_eq (sz0d _)) | exact heap_later (Later.alloc (Later.refl _) _) (at_new_eq (sz1 _ _)) | exact heap_later (Later.alloc (Later.refl _) _) (at_new_eq (sz1d _ _)) | exact heap_later (Later.alloc (Later.refl _) _) (at_new_eq (sz1e _ _)) | exact heap_later (Later.drew (Later.refl _)) (at_new_eq rfl) | exact heap_later (Later.drew (Later.refl _)) (at_new_eq (sz0d _)) | exact heap_later (Later.drew (Later.refl _)) (at_new_eq (sz1 _ _)) | exact heap_later (Later.drew (Later.refl _)) (at_new_eq (sz1d _ _)) | exact heap_later (Later.drew (Later.refl _)) (at_new_eq (sz1e _ _)) | exact heap_later (Later.drew (Later.refl _)) (heap_later (Later.alloc (Later.refl _) _) (at_new_eq rfl)) | exact heap_later (Later.drew (Later.refl _)) (heap_later (Later.alloc (Later.refl _) _) (at_new_eq (sz0d _))) | exact heap_later (Later.drew (Later.refl _)) (heap_later (Later.alloc (Later.refl _) _) (at_new_eq (sz1 _ _))) | exact heap_later (Later.drew (Later.refl _)) (heap_later (Later.alloc (Later.refl _) _) (at_new_eq (sz1d _ _))) | exact heap_later (Later.drew (Later.refl _)) (heap_later (Later.alloc (Later.refl _) _) (at_new_eq (sz1e _ _)))))))); rintro e w6 ⟨rfl, hl⟩; replace HX := heap_later (Later.trans (by (repeat (first | exact Later.refl _ | refine Later.drew ?_ | refine Later.alloc ?_ _)); done) hl) HX; replace HY := heap_later (Later.trans (by (repeat (first | exact Later.refl _ | refine Later.drew ?_ | refine Later.alloc ?_ _)); done) hl) HY; replace NN := own_later NN (Later.trans (by (repeat (first | exact Later.refl _ | refine Later.drew ?_ | refine Later.alloc ?_ _)); done) hl); replace LL : Later w w6 := Later.trans (by (repeat (first | exact LL | refine Later.drew ?_ | refine Later.alloc ?_ _)); done) hl; obtain ⟨b0, b1, b2, b3, b4, b5, b6, b7, b8, b9, b10, b11, b12⟩ := box13_facts HX; obtain ⟨c0, c1, c2, c3, c4, c5, c6, c7, c8, c9, c10, c11, c12⟩ := box13_facts HY; clear hl) | (go_at_call 7; apply Calls.mono; (focus (with_reducible (exact cA _ (HG.out.later (by (repeat (first | exact LL | refine Later.drew ?_ | refine Later.alloc ?_ _)); done))))); rintro e w7 ⟨rfl, hl⟩; replace HX := heap_later (Later.trans (by (repeat (first | exact Later.refl _ | refine Later.drew ?_ | refine Later.alloc ?_ _)); done) hl) HX; replace HY := heap_later (Later.trans (by (repeat (first | exact Later.refl _ | refine Later.drew ?_ | refine Later.alloc ?_ _)); done) hl) HY; replace NN := own_later NN (Later.trans (by (repeat (first | exact Later.refl _ | refine Later.drew ?_ | refine Later.alloc ?_ _)); done) hl); replace LL : Later w w7 := Later.trans (by (repeat (first | exact LL | refine Later.drew ?_ | refine Later.alloc ?_ _)); done) hl; obtain ⟨b0, b1, b2, b3, b4, b5, b6, b7, b8, b9, b10, b11, b12⟩ := box13_facts HX; obtain ⟨c0, c1, c2, c3, c4, c5, c6, c7, c8, c9, c10, c11, c12⟩ := box13_facts HY; clear hl))
          all_goals go_wp2
          all_goals go_ret
          all_goals exact ⟨rfl, by first | exact LL | exact Later.drew LL⟩

set_option maxRecDepth 100000 in
theorem lifted (os : Os) (started : os.Started) (H : Type) (enc : TypeId × Value → H) :
    ReturnsInHanded {} Tryz.checked os 5 .any (fun w args => (Rows.showInsSpec.pre enc Tryz.prog Tryz.f5 [] false w args ∧ laidMetH Tryz.prog theList w) ∧ sizedMet enc Tryz.prog Tryz.f5 (OpenSpec.ofChange Rows.showInsSpec) false w args)
      (Rows.showInsSpec.post enc Tryz.prog Tryz.f5 false true false false) := by
  refine returnsInHanded_of_change_and (C := Tryz.checked) (X := fun w _ => laidMetH Tryz.prog theList w) (fun _ _ _ hh h => h.of_heap hh) own started (by kernel_rfl) Tryz.func5
    (ChangeSpec.witness_shaped (enc := enc) (C := Tryz.checked) (os := os) (X := fun w _ => laidMetH Tryz.prog theList w) false (World.laidAll Tryz.prog os theList) #[.agg #[.int .i64 0, .bool false, .int .i64 0, .int .i64 0, .int .i64 0, .int .i64 0, .int .i64 0, .int .i64 0, .int .i64 0, .int .i64 0, .int .i64 0, .string ⟨#[]⟩, .slice none 0 0], .agg #[.int .i64 0, .int .i64 0, .int .i64 0, .int .i64 0, .int .i64 0], .slice none 0 0] 8 (World.laidAll_os _ _ _) (World.shaped_of_ZipB (by kernel_rfl) (by kernel_rfl)) (by kernel_rfl) (by kernel_rfl) (by kernel_rfl) (door_met os _)) ?_
  intro W base args ds gs before hval0 hW _ hsz0 hL _
  have hsz : (DataW.weightsEach Tryz.prog (Tryz.f5.params.toList ++ Rows.showInsSpec.plain.varTypes Tryz.prog) (ds ++ gs)).all (· ≤ reachBytes) = true := hsz0
  clear hsz0
  have hval : ∀ (j : Nat) t v, Tryz.f5.params[j]? = some t → args[j]? = some v → Value.okWide Tryz.prog W .any base t v := hval0
  have hW' := hW
  obtain ⟨p, q, hA0, hV, rfl, hfz, hnd⟩ := hW
  have hA : DataW.TrodAll enc Tryz.prog W 0 (fun _ => true) true Tryz.f5.params.toList args.toList ds p := hA0
  rw [Tryz.params5] at hA hval hsz
  obtain ⟨v0, vs0, d0, ds0, p0, q0, hargs, rfl, rfl, h0, r0⟩ := trodAll_cons hA
  obtain ⟨v1, vs1, d1, ds1, p1, q1, rfl, rfl, rfl, h1, r1⟩ := trodAll_cons r0
  obtain ⟨v2, vs2, d2, ds2, p2, q2, rfl, rfl, rfl, h2, r2⟩ := trodAll_cons r1
  obtain ⟨rfl, rfl, rfl⟩ := trodAll_nil r2
  obtain rfl : args = #[v0, v1, v2] := by cases args; simp_all
  obtain ⟨rfl, rfl⟩ := trodVars_none hV
  simp only [List.append_nil] at hW'
  have h0k := h0
  have hlt0 : ∀ x ∈ p0, x.block < W.heap.size := fun x hx => by simpa using hW'.lt x (by simp [hx])
  obtain ⟨x0, L0, rfl, ok0, ti0⟩ := open_ins (hval 0 36 v0 rfl rfl) h0
  have h1k := h1
  have hlt1 : ∀ x ∈ p1, x.block < W.heap.size := fun x hx => by simpa using hW'.lt x (by simp [hx])
  obtain ⟨x1, rfl, ok1, on1⟩ := open_act2 (hval 1 38 v1 rfl rfl) h1
  have h2k := h2
  have hlt2 : ∀ x ∈ p2, x.block < W.heap.size := fun x hx => by simpa using hW'.lt x (by simp [hx])
  obtain ⟨L2, tl2⟩ := open_texts (hval 2 34 v2 rfl rfl) h2
  clear hA0 hval0
  refine (walk W (Good.of_laid hL) x0 L0 ok0 ti0 x1 ok1 on1 _ L2 tl2).mono fun e W' ⟨he, hnx⟩ => ?_
  subst he
  refine ⟨_, rfl, _, _, _, [], (p0 ++ (p1 ++ (p2 ++ []))), [], hW', ?_, ?_, rfl, Below.frame hnx _, fun h => by cases h⟩
  · exact (trodAll_cons_mk (shut_bool Tryz.underlying4 _) trodAll_mk0)
  · exact (trodAll_cons_mk (Below.trod laidOut (by kernel_rfl) (of_decide_eq_true (by kernel_rfl)) h0k hnx hlt0) (trodAll_cons_mk (Below.trod laidOut (by kernel_rfl) (of_decide_eq_true (by kernel_rfl)) h1k hnx hlt1) (trodAll_cons_mk (Below.trod laidOut (by kernel_rfl) (of_decide_eq_true (by kernel_rfl)) h2k hnx hlt2) trodAll_mk0)))

theorem over : Rows.showInsRow.holds Tryz.pinned (OpenSpec.ofChange Rows.showInsSpec) :=
  OpenClaim.holds_of_wide 5 Tryz.f5 rfl rfl rfl rfl rfl rfl rfl ⟨rfl, rfl, rfl, rfl, rfl⟩ rfl rfl rfl rfl rfl (by kernel_rfl) Tryz.func5 (by kernel_rfl)
    (of_decide_eq_true (by kernel_rfl)) (by unfold Func.isWrapper; first | (rw [if_pos (by decide +kernel)]; kernel_rfl) | (rw [if_neg (by decide +kernel)]; exact ⟨rfl, rfl⟩))
    (fun os started H enc _ => lifted os started H enc)

end Go.Proofs.YtmmimlpgpionnaaGreatDoor.showIns

namespace Go.Proofs.YtmmimlpgpionnaaGreatDoor
open Go
/-- The statement: the row, with its listed variables tied to the program's text. -/
theorem showIns_holds : Rows.ShowInsCardSaid :=
  Claim7.holds_tied_plain_at .later [] [.data, .data, .data, .data, .data, .data, .data, .pinned] true Rows.showInsCard.stood.harness true
    showIns.over (fun _ h => by cases h) (by kernel_rfl) (fun _ h => by cases h) showIns_row_tie rfl ⟨rfl, rfl⟩ (by kernel_rfl) rfl
    (fun f fn hf hfn => by
      obtain rfl : f = 5 := Option.some.inj ((show Tryz.prog.funcNamed Rows.showInsRow.func = some 5 by kernel_rfl).symm.trans hf) |>.symm
      obtain rfl : fn = Tryz.f5 := (Option.some.inj (Tryz.func5.symm.trans hfn)).symm
      exact ⟨by kernel_rfl, fun j t ht => by
        rw [Tryz.params5] at ht
        have hm : t ∈ [36, 38, 34] := by simpa using Array.mem_of_getElem? ht
        have hall : ([36, 38, 34].all fun u => !Tryz.prog.wantsStandIn u) = true := by kernel_rfl
        exact (show Tryz.prog.wantsStandIn t = false by simpa using List.all_eq_true.1 hall t hm)⟩)
    (by kernel_rfl)
#print axioms showIns_holds
end Go.Proofs.YtmmimlpgpionnaaGreatDoor
