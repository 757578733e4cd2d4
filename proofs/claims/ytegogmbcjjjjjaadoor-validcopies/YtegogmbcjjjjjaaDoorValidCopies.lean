/-
  For every two programs and every raw acts: the statement returns true and nothing that was in memory turns. Conditions: the listed variables stand as the program text lays them.
-/
import Derived.Test.YtegogmbcjjjjjaaDoorRows
import Derived.Test.YtegogmbcjjjjjaaDoorCards
import Derived.Test.YtegogmbcjjjjjaaDoorTie
import Derived.Test.YtegogmbcjjjjjaaDoorNamesLaid
import Derived.Test.YtegogmbcjjjjjaaDoorJh
import Derived.Test.YtegogmbcjjjjjaaDoorJi
import Derived.Test.YtegogmbcjjjjjaaDoorCopyLaw
import Derived.Test.YtegogmbcjjjjjaaDoorCopyOver
import Derived.Test.YtegogmbcjjjjjaaDoorRefCopyCall
import Derived.Test.YtegogmbcjjjjjaaDoorRefSameProg
import Derived.Test.YtegogmbcjjjjjaaDoorBookProg
import Derived.Test.YtegogmbcjjjjjaaDoorMadeRow
import Derived.Test.YtegogmbcjjjjjaaDoorJl
import Derived.Test.YtegogmbcjjjjjaaDoorJk
import Derived.Test.YtegogmbcjjjjjaaDoorOpensActs
import Derived.Deep.RegionHeld3
import Derived.WalkKit
import Derived.ProofKit
import Derived.OpenShut
import Derived.SizedLaws
import Derived.ShutString
import Derived.Carry
import Derived.Stop.Joined
import Derived.SevenTiedAt
namespace Go.Proofs.YtegogmbcjjjjjaaDoor.validCopies
open Go.ChangeShapes Go.WideShapes Go.ChangeAt Go.RowKit
open Go.ChangeMaps (open_string shut_string)
set_option linter.unusedVariables false
set_option linter.unusedSimpArgs false

theorem own : ownKnob Tryd.prog.godebug = none := by kernel_rfl
theorem laidOut : laidOutB Tryd.prog = true := by kernel_rfl

theorem great_bounds {S : Syms} {P : List Thr} (h : greatPF S P = false) : S.length ≤ 66 ∧ P.length ≤ 66 ∧ (∀ T ∈ P, T.length ≤ 1000000) ∧ ∀ s ∈ S, s.2.length ≤ 1000000 := by
  simp only [greatPF, Bool.or_eq_false_iff, List.any_eq_false, decide_eq_false_iff_not] at h
  obtain ⟨⟨⟨h1, h2⟩, h3⟩, h4⟩ := h
  refine ⟨by omega, by omega, fun T hT => ?_, fun s hs => ?_⟩
  · have := (fine_thread (by simpa using h4 T hT)).2
    omega
  · have := h3 s hs
    simp [greatS] at this
    omega

theorem row_good {w : World} {u : Value} {S : Syms} (h : SymRow w u S) (hf : FineS S) : GoodS S := by
  intro s hs
  obtain ⟨i, hi⟩ := List.getElem?_of_mem hs
  obtain ⟨p, cap, rfl, -, -⟩ := RowIn.slice h
  obtain ⟨g, o, -, -, h2, h3, -⟩ := SymRow.get h (x := s.1) (L := s.2) hi
  refine ⟨hf s hs, h2, fun n hn => ?_⟩
  obtain ⟨j, hj⟩ := List.getElem?_of_mem hn
  obtain ⟨p', cap', hv, -, -⟩ := RowIn.slice h3
  rw [hv] at h3
  obtain ⟨-, -, -, h4, -⟩ := IntsIn.get h3 hj
  exact h4

theorem progEq_refl (S : Syms) (P : List Thr) : progEq S P S P = true := by
  unfold progEq
  rw [listEq_all rfl (fun k a b ha hb => by rw [ha] at hb; cases hb; simp [symEq]), listEq_all rfl (fun k a b ha hb => by
    rw [ha] at hb
    cases hb
    refine listEq_all rfl (fun j x y hx hy => ?_)
    rw [hx] at hy
    cases hy
    exact (insEq_copy x.1 x.2 x.1.labels).1)]
  rfl

/-- A copy, its parts at hand. -/
theorem copy_some (u v : Value) (S : Syms) (P : List Thr) (w : World) (hS : SymRow w u S) (hP : ThrRow w v P) (f : FineP S P) (hs : S.length ≤ 66) (hp : P.length ≤ 66) (hT : ∀ T ∈ P, T.length ≤ 1000000) (hI : ∀ s ∈ S, s.2.length ≤ 1000000) (hg : GoodS S) :
    Calls Tryd.prog 8 #[.agg #[u, v]] w fun e w' => ∃ p c q d S' P', e = .returned (.agg #[.slice p S.length c, .slice q P.length d]) ∧ SymRow w' (.slice p S.length c) S' ∧ ThrRow w' (.slice q P.length d) P' ∧ progEq S' P' S P = true ∧ Later w w' := by
  refine (copy_any u v S P w hS hP f (by omega) (by omega) hT hI).mono ?_
  rintro e w' ⟨u', v', rfl, hc, hl⟩
  obtain ⟨p, c, q, d, S', P', rfl, rfl, h1, h2, h3, -⟩ := hc.parts hg rfl rfl
  exact ⟨p, c, q, d, S', P', rfl, h1, h2, h3, hl⟩

theorem copySame_true {n : Nat} {av : Array Value} {w : World} {b : Bool} (h : Calls Tryd.prog n av w fun e w' => e = .returned (.bool b) ∧ Later w w') (hb : b = true) : Calls Tryd.prog n av w fun e w' => e = .returned (.bool true) ∧ Later w w' := hb ▸ h

set_option maxRecDepth 1000000 in
set_option maxHeartbeats 16000000 in
theorem walk (w : World) (g : Good w) (u v : Value) (S0 : Syms) (P0 : List Thr) (is : SymRow w u S0) (it : ThrRow w v P0) (u2 v2 : Value) (S1 : Syms) (P1 : List Thr) (is2 : SymRow w u2 S1) (it2 : ThrRow w v2 P1) (lv : Value) (l : List (List Act5)) (ia : ActsRow w lv l) :
    Calls Tryd.prog 3 #[.agg #[u, v], .agg #[u2, v2], lv] w fun e w' => e = .returned (.bool true) ∧ Later w w' := by
  have cA := fun w' h => alive_any w' h
  have HG : Hid (NamesGood w) := g
  have HIA : Hid (ActsRow w lv l) := ia
  obtain ⟨pu, cu, rfl, -, -⟩ := RowIn.slice is
  obtain ⟨pv, cv, rfl, -, -⟩ := RowIn.slice it
  obtain ⟨pu2, cu2, rfl, -, -⟩ := RowIn.slice is2
  obtain ⟨pv2, cv2, rfl, -, -⟩ := RowIn.slice it2
  have L0 := Later.alloc (Later.alloc (Later.refl w) (.cells #[.slice pu S0.length cu, .slice pv P0.length cv] 25)) (.cells #[.slice pu2 S1.length cu2, .slice pv2 P1.length cv2] 25)
  obtain ⟨HP, HQ⟩ := two_new2 w (.cells #[.slice pu S0.length cu, .slice pv P0.length cv] 25) (.cells #[.slice pu2 S1.length cu2, .slice pv2 P1.length cv2] 25)
  have cG := fun w' (hl : Later w w') => greatProg_any (.slice pu S0.length cu) (.slice pv P0.length cv) S0 P0 w' (is.kept hl.kept) (it.kept hl.kept)
  have cG2 := fun w' (hl : Later w w') => greatProg_any (.slice pu2 S1.length cu2) (.slice pv2 P1.length cv2) S1 P1 w' (is2.kept hl.kept) (it2.kept hl.kept)
  have HF := @fine_prog S0 P0
  have HB0 := @great_bounds S0 P0
  have IS : Hid (SymRow w (.slice pu S0.length cu) S0 ∧ ThrRow w (.slice pv P0.length cv) P0) := ⟨is, it⟩
  have IS2 : Hid (SymRow w (.slice pu2 S1.length cu2) S1 ∧ ThrRow w (.slice pv2 P1.length cv2) P1) := ⟨is2, it2⟩
  clear g ia is it is2 it2
  generalize hgp : greatPF S0 P0 = gp at *
  generalize hgq : greatPF S1 P1 = gq at *
  by_cases hbad : gp = true ∨ gq = true
  · clear HF HB0 IS IS2 HIA
    have hbb : (gp || gq) = true := by rcases hbad with rfl | rfl <;> simp
    cases gp
    · have hq : gq = true := by simpa using hbb
      subst hq
      go_enter Tryd.func3, Tryd.ntmps3
      go_upto_region 1 with (fail)
      generalize (w.alloc (.cells #[.slice pu S0.length cu, .slice pv P0.length cv] 25)).alloc (.cells #[.slice pu2 S1.length cu2, .slice pv2 P1.length cv2] 25) = W at *
      obtain ⟨a0, a1, -⟩ := box2_facts HP
      obtain ⟨b0, b1, -⟩ := box2_facts HQ
      go_wp2_with (first
        | (go_at_call 4; refine (cG _ L0).mono ?_; rintro e w1 ⟨rfl, l1⟩; clear cG; have b2 := cell_later b0 l1; have b3 := cell_later b1 l1)
        | (go_at_call 4; refine (cG2 _ (L0.trans l1)).mono ?_; rintro e w2 ⟨rfl, l2⟩; clear cG2)
        | (go_at_call 5; refine (cA _ (NamesGood.later HG.out (L0.trans (l1.trans l2)))).mono ?_; rintro e w3 ⟨rfl, l3⟩))
      go_ret
      exact ⟨rfl, L0.trans (l1.trans (l2.trans l3))⟩
    · go_enter Tryd.func3, Tryd.ntmps3
      go_upto_region 1 with (fail)
      generalize (w.alloc (.cells #[.slice pu S0.length cu, .slice pv P0.length cv] 25)).alloc (.cells #[.slice pu2 S1.length cu2, .slice pv2 P1.length cv2] 25) = W at *
      obtain ⟨a0, a1, -⟩ := box2_facts HP
      go_wp2_with (first
        | (go_at_call 4; refine (cG _ L0).mono ?_; rintro e w1 ⟨rfl, l1⟩; clear cG)
        | (go_at_call 5; refine (cA _ (NamesGood.later HG.out (L0.trans l1))).mono ?_; rintro e w3 ⟨rfl, l3⟩))
      go_ret
      exact ⟨rfl, L0.trans (l1.trans l3)⟩
  · obtain ⟨rfl, rfl⟩ : gp = false ∧ gq = false := by
      cases gp <;> cases gq <;> simp at hbad ⊢
    have hf0 := HF rfl
    obtain ⟨hB1, hB2, hB3, hB4⟩ := HB0 rfl
    clear HF HB0 hbad hgq
    go_enter Tryd.func3, Tryd.ntmps3
    go_upto_region 1 with (fail)
    generalize (w.alloc (.cells #[.slice pu S0.length cu, .slice pv P0.length cv] 25)).alloc (.cells #[.slice pu2 S1.length cu2, .slice pv2 P1.length cv2] 25) = W at *
    obtain ⟨a0, a1, -⟩ := box2_facts HP
    obtain ⟨b0, b1, -⟩ := box2_facts HQ
    go_upto_region 3 with (first
      | (go_at_call 4; refine (cG _ L0).mono ?_; rintro e w1 ⟨rfl, l1⟩; clear cG; have b2 := cell_later b0 l1; have b3 := cell_later b1 l1)
      | (go_at_call 4; refine (cG2 _ (L0.trans l1)).mono ?_; rintro e w2 ⟨rfl, l2⟩; clear cG2))
    have L2 := L0.trans (l1.trans l2)
    have hp2 := heap_later (l1.trans l2) HP
    have hq2 := heap_later (l1.trans l2) HQ
    have cB := bookProg_any lv l 2 5 (by omega) (by omega) w2 (ActsRow.kept HIA.out L2.kept)
    rw [show ((2 : Nat) : Int) = 2 from rfl, show ((5 : Nat) : Int) = 5 from rfl] at cB
    clear a0 a1 b0 b1 b2 b3 HP HQ HIA L0 l1 l2
    go_upto_region 4 with (go_at_call 6; apply Calls.mono; (focus (with_reducible (exact cB))); rintro e w3 ⟨tv, vs, P, rfl, hl3, hx, hw3, hm⟩; obtain ⟨q0, q1, rfl⟩ := owns_slice hw3)
    have htl : min l.length 2 ≤ l.length := Nat.min_le_left _ _
    have ht2 : min l.length 2 ≤ 2 := Nat.min_le_right _ _
    have hf := (made_valid (b := w2.heap.size) (by omega) (by omega) htl hm).2
    have hsm := made_small (b := w2.heap.size) (by omega) (by omega) htl hm
    have hfew := made_few (by omega) htl hm
    have hpl := hm.plen
    have L4 := Later.alloc (Later.refl w3) (.cells #[.slice (some ⟨w2.heap.size + 1 + 1 + 1, 0, none⟩) 3 3, .slice q0 (min l.length 2) q1] 25)
    have H7 := at_new w3 (.cells #[.slice (some ⟨w2.heap.size + 1 + 1 + 1, 0, none⟩) 3 3, .slice q0 (min l.length 2) q1] 25)
    have ms := SymRow.kept hx.row L4.kept
    have mt := ThrRow.kept (made_row htl hw3 hm) L4.kept
    have hp4 := heap_later (hl3.trans L4) hp2
    have hq4 := heap_later (hl3.trans L4) hq2
    have LL := L2.trans (hl3.trans L4)
    obtain ⟨S, hSe⟩ : ∃ S, xyz w2.heap.size = S := ⟨_, rfl⟩
    have HS1 : Hid (∃ s, S[0]? = some s ∧ s.1.size = 1) := by rw [← hSe]; exact ⟨_, rfl, rfl⟩
    have hSl : S.length = 3 := by rw [← hSe]; rfl
    rw [hSe] at hf hsm ms
    clear hSe
    generalize min l.length 2 = n at *
    generalize w2.heap.size + 1 + 1 + 1 = sb at *
    have HGS : Hid (GoodS S) := row_good ms hf.syms
    clear cB hl3 hx hw3 hm hp2 hq2 L4 htl L2
    generalize w3.alloc (.cells #[.slice (some ⟨sb, 0, none⟩) 3 3, .slice q0 n q1] 25) = W4 at *
    generalize w3.heap.size = B7 at *
    clear W
    have HT : Hid (∀ T ∈ P, T.length ≤ 1000000 ∧ ∀ x ∈ T, x.2.length ≤ 1000) := fun T hT => ⟨by have := hsm.inss T hT; omega, fun x hx => by have := hsm.labs T hT x hx; omega⟩
    have HI : Hid (∀ s ∈ S, s.2.length ≤ 1000000) := fun s hs => by have := hsm.inits s hs; omega
    have HSM : Hid (SmallP S P) := hsm
    have HFE : Hid (∀ T ∈ P, 0 < T.length ∧ T.length ≤ 7) := hfew
    have cK := refCopy_any (.slice (some ⟨sb, 0, none⟩) 3 3) (.slice q0 n q1) S P W4 ms mt hf (by omega) (by omega) HT.out HI.out
    clear hsm hfew
    obtain ⟨a0, a1, -⟩ := box2_facts H7
    go_upto_region 5 with (go_at_call 7; apply Calls.mono; (focus (with_reducible (exact cK))); rintro e w5 ⟨u8, v8, rfl, hc8, l5⟩; obtain ⟨p8, c8, q8, d8, S8, P8, rfl, rfl, s8, t8, -, e8⟩ := hc8.parts HGS.out hSl hpl; have a2 := cell_later a0 l5; have a3 := cell_later a1 l5)
    have L5 := Later.alloc (Later.refl w5) (.cells #[.slice p8 3 c8, .slice q8 n d8] 25)
    have H8 := at_new w5 (.cells #[.slice p8 3 c8, .slice q8 n d8] 25)
    replace H7 := heap_later (l5.trans L5) H7
    replace hp4 := heap_later (l5.trans L5) hp4
    replace hq4 := heap_later (l5.trans L5) hq4
    replace ms := ms.kept (l5.trans L5).kept
    replace mt := mt.kept (l5.trans L5).kept
    replace s8 := s8.kept L5.kept
    replace t8 := t8.kept L5.kept
    replace LL := LL.trans (l5.trans L5)
    clear L5 l5 hc8 cK a0 a1 a2 a3
    generalize w5.alloc (.cells #[.slice p8 3 c8, .slice q8 n d8] 25) = W5 at *
    generalize w5.heap.size = B8 at *
    have cC := copy_any (.slice (some ⟨sb, 0, none⟩) 3 3) (.slice q0 n q1) S P W5 ms mt hf (by omega) (by omega) (fun T hT => (HT.out T hT).1) HI.out
    obtain ⟨a0, a1, -⟩ := box2_facts H7
    have HE8 : Hid (progEq S P S8 P8 = true) := e8
    clear e8
    go_upto_region 6 with (go_at_call 8; apply Calls.mono; (focus (with_reducible (exact cC))); rintro e w6 ⟨u9, v9, rfl, hc9, l6⟩; obtain ⟨p9, c9, q9, d9, S9, P9, rfl, rfl, s9, t9, e9, -⟩ := hc9.parts HGS.out hSl hpl; have a2 := cell_later a0 l6; have a3 := cell_later a1 l6)
    have L6 := Later.alloc (Later.refl w6) (.cells #[.slice p9 3 c9, .slice q9 n d9] 25)
    have H9 := at_new w6 (.cells #[.slice p9 3 c9, .slice q9 n d9] 25)
    obtain ⟨vs, HOV⟩ := hc9.over (W := W5) HGS.out HSM.out HFE.out hSl hpl (by omega) (Nat.le_add_right _ _) L6 (l6.trans L6) H9
    replace HOV : Hid (Over W5 _ _ _ _ _ _ _ _) := HOV
    have H7' := heap_later (l6.trans L6) H7
    have ms6 := ms.kept (l6.trans L6).kept
    have mt6 := mt.kept (l6.trans L6).kept
    replace s9 := s9.kept L6.kept
    replace t9 := t9.kept L6.kept
    clear L6 l6 hc9 cC a0 a1 a2 a3
    generalize w6.alloc (.cells #[.slice p9 3 c9, .slice q9 n d9] 25) = W6 at *
    generalize w6.heap.size = B9 at *
    generalize W5.heap.size + 2 = N at *
    have cR := fun w' (hl : Later W6 w') => refSameProg_any (.slice p9 3 c9) (.slice q9 n d9) (.slice (some ⟨sb, 0, none⟩) 3 3) (.slice q0 n q1) S9 S P9 P w' (s9.kept hl.kept) (t9.kept hl.kept) (ms6.kept hl.kept) (mt6.kept hl.kept)
    have cS := fun w' (hl : Later W6 w') => same_any (.slice p9 3 c9) (.slice q9 n d9) (.slice (some ⟨sb, 0, none⟩) 3 3) (.slice q0 n q1) S9 S P9 P w' (s9.kept hl.kept) (t9.kept hl.kept) (ms6.kept hl.kept) (mt6.kept hl.kept)
    simp only [e9] at cR cS
    obtain ⟨a0, a1, -⟩ := box2_facts H7'
    obtain ⟨b0, b1, -⟩ := box2_facts H9
    have HSY : Hid (SymRow W5 (.slice (some ⟨sb, 0, none⟩) 3 3) S ∧ ThrRow W5 (.slice q0 n q1) P ∧ SymRow W5 (.slice p8 3 c8) S8 ∧ ThrRow W5 (.slice q8 n d8) P8) := ⟨ms, mt, s8, t8⟩
    have HBX : Hid (W5.heap[B7]? = some (.cells #[.slice (some ⟨sb, 0, none⟩) 3 3, .slice q0 n q1] 25) ∧ W5.heap[B8]? = some (.cells #[.slice p8 3 c8, .slice q8 n d8] 25) ∧ W5.heap[w.heap.size]? = some (.cells #[.slice pu S0.length cu, .slice pv P0.length cv] 25) ∧ W5.heap[w.heap.size + 1]? = some (.cells #[.slice pu2 S1.length cu2, .slice pv2 P1.length cv2] 25)) := ⟨H7, H8, hp4, hq4⟩
    have LW : Hid (Later w W5) := LL
    clear ms mt s8 t8 H7 H7' H8 hp4 hq4 LL H9 s9 t9 ms6 mt6 e9 S9 P9 hf HI HT HSM HFE
    have L0 : Later W6 W6 := Later.refl _
    go_upto_region 8 with (first
      | (go_at_call 9; refine (cR _ L0).mono ?_; rintro e w7 ⟨rfl, l7⟩; clear cR; have a2 := cell_later a0 l7; have a3 := cell_later a1 l7; have b2 := cell_later b0 l7; have b3 := cell_later b1 l7)
      | (go_at_call 10; refine (cS _ (L0.trans l7)).mono ?_; rintro e w8 ⟨rfl, l8⟩; clear cS))
    replace HOV : Hid (Over W5 w8 _ _ _ _ _ _ _) := HOV.out.mono (l7.trans l8)
    clear a0 a1 b0 b1 a2 a3 b2 b3 l7 l8 L0
    go_wp2
    clear w1 w2 w3 w5 w6 w7 W4 W6
    obtain ⟨wl, rfl⟩ : ∃ wl, wl = w8 := ⟨_, rfl⟩
    go_loopw [10] (fun vi wr => ∃ (j : Nat), vi = .int .i64 (j : Nat) ∧ j ≤ n ∧ Hid (Over W5 wr N B9 (.slice p9 3 c9) (.slice q9 n d9) n vs 0)) (fun vi _ => n - (intOf vi).toNat)
    case atStart => exact ⟨0, rfl, by omega, HOV⟩
    case round =>
      clear HOV
      obtain ⟨j, rfl, hj, HOV⟩ := hrel
      obtain ⟨b0, b1, -⟩ := box2_facts HOV.out.box
      by_cases hjn : j < n
      · obtain ⟨g, gt, m, ct, cur, rfl, hNg, hg, hv, hm7, hNt⟩ := HOV.out.thr.find hjn
        have HV : Hid (vs[j]? = some (.slice (some ⟨gt, 0, none⟩) m ct)) := hv
        clear hv hg hNg
        go_wp2
        obtain ⟨wm, rfl⟩ : ∃ wm, wm = wr := ⟨_, rfl⟩
        go_loopw [11] (fun vi wr => ∃ (i : Nat), vi = .int .i64 (i : Nat) ∧ i ≤ m ∧ Hid (Over W5 wr N B9 (.slice p9 3 c9) (.slice (some ⟨g, 0, none⟩) n d9) n vs 0)) (fun vi _ => m - (intOf vi).toNat)
        case atStart => exact ⟨0, rfl, by omega, HOV⟩
        case round =>
          clear HOV b0 b1
          obtain ⟨i, rfl, hi, HOV⟩ := hrel
          obtain ⟨b0, b1, -⟩ := box2_facts HOV.out.box
          obtain ⟨k0, curI, hgI⟩ := HOV.out.thr.cells HV.out
          by_cases him : i < m
          · obtain ⟨pl, k, cl, k1, hk6⟩ := HOV.out.thr.labels? HV.out him
            have HL : Hid (wr.cell? ⟨gt, i * 13 + 12, none⟩ = some (.slice pl k cl)) := k1
            clear k1 hgI
            go_wp2
            obtain ⟨wo, rfl⟩ : ∃ wo, wo = wr := ⟨_, rfl⟩
            go_loopw [12] (fun vi wr => ∃ (q : Nat), vi = .int .i64 (q : Nat) ∧ q ≤ k ∧ Hid (Over W5 wr N B9 (.slice p9 3 c9) (.slice (some ⟨g, 0, none⟩) n d9) n vs 0) ∧ Hid (wr.cell? ⟨gt, i * 13 + 12, none⟩ = some (.slice pl k cl))) (fun vi _ => k - (intOf vi).toNat)
            case atStart => exact ⟨0, rfl, by omega, HOV, HL⟩
            case round =>
              clear HOV HL b0 b1 k0
              obtain ⟨q, rfl, hq, HOV, HL⟩ := hrel
              obtain ⟨b0, b1, -⟩ := box2_facts HOV.out.box
              obtain ⟨k0, curI, hgI⟩ := HOV.out.thr.cells HV.out
              have k1 := HL.out
              by_cases hqk : q < k
              · obtain ⟨gs, cur, rfl, hNs, hgs, s, k2⟩ := HOV.out.thr.label? HV.out him HL.out hqk
                have kz : wr.frozen? ⟨gs, q, none⟩ = false := by simp [World.frozen?, hgs]
                have hne := block_ne hgI hgs (by decide)
                go_wp2
                go_roundw
                case rel => exact ⟨q + 1, by go_num, by omega, HOV.out.text hNs hgs q, cell_off (off_set _ gs q _) hne HL.out⟩
                case measure => simp [intOf] <;> omega
              · have kz : wr.frozen? ⟨gt, i * 13, none⟩ = false := by simp [World.frozen?, hgI]
                obtain ⟨z, k2⟩ := HOV.out.thr.op? HV.out him
                go_wp2
                go_roundw
                case rel => exact ⟨i + 1, by go_num, by omega, HOV.out.op HV.out hNt hgI i⟩
                case measure => simp [intOf] <;> omega
          · go_wp2
            go_roundw
            case rel => exact ⟨j + 1, by go_num, by omega, HOV⟩
            case measure => simp [intOf] <;> omega
      · go_wp2
        obtain ⟨wm, rfl⟩ : ∃ wm, wm = wr := ⟨_, rfl⟩
        go_loopw [13] (fun vi wr => ∃ (i : Nat), vi = .int .i64 (i : Nat) ∧ i ≤ 3 ∧ Hid (Over W5 wr N B9 (.slice p9 3 c9) (.slice q9 n d9) n vs i)) (fun vi _ => 3 - (intOf vi).toNat)
        case atStart => exact ⟨0, rfl, by omega, HOV⟩
        case round =>
          clear HOV b0 b1
          obtain ⟨i, rfl, hi, HOV⟩ := hrel
          obtain ⟨b0, b1, -⟩ := box2_facts HOV.out.box
          by_cases hi3 : i < 3
          · obtain ⟨g, cur, -, -, -, rfl, hNg, hg, -, -, z, k2⟩ := HOV.out.nums? hi3
            have kz : wr.frozen? ⟨g, i * 3 + 1, none⟩ = false := by simp [World.frozen?, hg]
            have HO5 := HOV.out.size hi3 hNg hg
            obtain ⟨g', cur', pi, k, ci, e, -, -, hc, hkm, -⟩ := HO5.nums? hi3
            cases e
            unfold maxLen at hkm
            replace HO5 : Hid (Over W5 _ _ _ _ _ _ _ _) := HO5
            replace hc : Hid (World.cell? _ _ = _) := hc
            clear hg HOV
            go_wp2
            clear kz b0 b1 k2
            generalize wr.setCell ⟨g, i * 3 + 1, none⟩ (.int .i64 99) = wo at *
            go_loopw [14] (fun vi wr => ∃ (q : Nat), vi = .int .i64 (q : Nat) ∧ q ≤ k ∧ Hid (Over W5 wr N B9 (.slice (some ⟨g, 0, none⟩) 3 c9) (.slice q9 n d9) n vs (i + 1)) ∧ Hid (wr.cell? ⟨g, i * 3 + 2, none⟩ = some (.slice pi k ci))) (fun vi _ => k - (intOf vi).toNat)
            case atStart => exact ⟨0, rfl, by omega, HO5, hc⟩
            case round =>
              clear HO5 hc
              obtain ⟨q, rfl, hq, HOV, hc⟩ := hrel
              obtain ⟨b0, b1, -⟩ := box2_facts HOV.out.box
              have k1 := hc.out
              by_cases hqk : q < k
              · obtain ⟨gn, cur, rfl, hNn, hgn, z, k2⟩ := HOV.out.num? hi3 hc.out hqk
                obtain ⟨g2, cur2, -, -, -, e, -, hg2, -⟩ := HOV.out.nums? hi3
                cases e
                have kz : wr.frozen? ⟨gn, q, none⟩ = false := by simp [World.frozen?, hgn]
                have hne := block_ne hg2 hgn (by decide)
                clear hg2
                go_wp2
                go_roundw
                case rel => exact ⟨q + 1, by go_num, by omega, HOV.out.num hNn hgn q, cell_off (off_set _ gn q _) hne hc.out⟩
                case measure => simp [intOf] <;> omega
              · go_wp2
                go_roundw
                case rel => exact ⟨i + 1, by go_num, by omega, HOV⟩
                case measure => simp [intOf] <;> omega
          · obtain rfl : i = 3 := by omega
            go_upto_region 27 with (fail)
            have hdn := HOV.out.done HS1.out (P := P)
            have hlat := HOV.out.later
            obtain ⟨S9, P9, s9, t9, e9⟩ := hdn
            obtain ⟨ms, mt, s8, t8⟩ := HSY.out
            obtain ⟨X7, X8, X3, X4⟩ := HBX.out
            obtain ⟨a0, a1, -⟩ := box2_facts (heap_later hlat X7)
            obtain ⟨d0, d1, -⟩ := box2_facts (heap_later hlat X8)
            obtain ⟨x0, x1, -⟩ := box2_facts (heap_later hlat X3)
            obtain ⟨y0, y1, -⟩ := box2_facts (heap_later hlat X4)
            have LV : Later w wr := LW.out.trans hlat
            obtain ⟨is, it⟩ := IS.out
            obtain ⟨is2, it2⟩ := IS2.out
            obtain ⟨-, -, hB3, hB4⟩ := great_bounds hgp
            have hGP := row_good is hf0.syms
            have c1 := fun w' (hl : Later wr w') => refSameProg_any (.slice (some ⟨sb, 0, none⟩) 3 3) (.slice q0 n q1) (.slice p8 3 c8) (.slice q8 n d8) S S8 P P8 w' (ms.kept (hlat.trans hl).kept) (mt.kept (hlat.trans hl).kept) (s8.kept (hlat.trans hl).kept) (t8.kept (hlat.trans hl).kept)
            simp only [HE8.out] at c1
            have c2 := fun w' (hl : Later wr w') => same_any (.slice p9 3 c9) (.slice q9 n d9) (.slice (some ⟨sb, 0, none⟩) 3 3) (.slice q0 n q1) S9 S P9 P w' (s9.kept hl.kept) (t9.kept hl.kept) (ms.kept (hlat.trans hl).kept) (mt.kept (hlat.trans hl).kept)
            simp only [e9] at c2
            have c3 := fun w' (hl : Later wr w') => same_any (.slice pu S0.length cu) (.slice pv P0.length cv) (.slice pu2 S1.length cu2) (.slice pv2 P1.length cv2) S0 S1 P0 P1 w' (is.kept (LV.trans hl).kept) (it.kept (LV.trans hl).kept) (is2.kept (LV.trans hl).kept) (it2.kept (LV.trans hl).kept)
            have c4 := fun w' (hl : Later wr w') => refSameProg_any (.slice pu S0.length cu) (.slice pv P0.length cv) (.slice pu2 S1.length cu2) (.slice pv2 P1.length cv2) S0 S1 P0 P1 w' (is.kept (LV.trans hl).kept) (it.kept (LV.trans hl).kept) (is2.kept (LV.trans hl).kept) (it2.kept (LV.trans hl).kept)
            generalize progEq S0 P0 S1 P1 = b at c3 c4
            have hbb : (b == b) = true := by simp
            have c5 := fun w' (hl : Later wr w') => copy_some (.slice pu S0.length cu) (.slice pv P0.length cv) S0 P0 w' (is.kept (LV.trans hl).kept) (it.kept (LV.trans hl).kept) hf0 (by omega) (by omega) hB3 hB4 hGP
            have c7 := fun w' (hl : Later wr w') => same_any (.slice pu S0.length cu) (.slice pv P0.length cv) (.slice pu S0.length cu) (.slice pv P0.length cv) S0 S0 P0 P0 w' (is.kept (LV.trans hl).kept) (it.kept (LV.trans hl).kept) (is.kept (LV.trans hl).kept) (it.kept (LV.trans hl).kept)
            simp only [progEq_refl] at c7
            have cZ := fun w' (hl : Later wr w') => cA w' (HG.out.later (LV.trans hl))
            have c6 := fun (u v : Value) (A : Syms) (B : List Thr) (w' : World) (hl : Later wr w') (hA : SymRow w' u A) (hB : ThrRow w' v B) (he : progEq A B S0 P0 = true) => copySame_true (refSameProg_any u v (.slice pu S0.length cu) (.slice pv P0.length cv) A S0 B P0 w' hA hB (is.kept (LV.trans hl).kept) (it.kept (LV.trans hl).kept)) he
            clear cA HE8 HSY HBX X7 X8 X3 X4 ms mt s8 t8 s9 t9 e9 is it is2 it2 IS IS2 hGP hB3 hB4 hB1 hB2 hf0 hgp HS1 HGS HG LW hSl hpl ht2
            have L2 : Later wr wr.drew := Later.drew (Later.refl _)
            clear hlat
            go_region_held3 (fun w' => w'.cell? ⟨B7, 0, none⟩ = some (.slice (some ⟨sb, 0, none⟩) 3 3) ∧ w'.cell? ⟨B7, 1, none⟩ = some (.slice q0 n q1) ∧ w'.cell? ⟨B8, 0, none⟩ = some (.slice p8 3 c8) ∧ w'.cell? ⟨B8, 1, none⟩ = some (.slice q8 n d8) ∧ w'.cell? ⟨B9, 0, none⟩ = some (.slice p9 3 c9) ∧ w'.cell? ⟨B9, 1, none⟩ = some (.slice q9 n d9) ∧ w'.cell? ⟨w.heap.size, 0, none⟩ = some (.slice pu S0.length cu) ∧ w'.cell? ⟨w.heap.size, 1, none⟩ = some (.slice pv P0.length cv) ∧ w'.cell? ⟨w.heap.size + 1, 0, none⟩ = some (.slice pu2 S1.length cu2) ∧ w'.cell? ⟨w.heap.size + 1, 1, none⟩ = some (.slice pv2 P1.length cv2))
              (with_reducible exact ⟨cell_later a0 L2, cell_later a1 L2, cell_later d0 L2, cell_later d1 L2, cell_later b0 L2, cell_later b1 L2, cell_later x0 L2, cell_later x1 L2, cell_later y0 L2, cell_later y1 L2⟩)
              (first
                | (go_at_call 9; apply Calls.mono; (focus (with_reducible (exact c1 _ L2))); rintro e w1 ⟨rfl, hl⟩; replace L2 := Later.trans L2 hl; clear hl c1)
                | (go_at_call 10; apply Calls.mono; (focus (with_reducible (exact c2 _ L2))); rintro e w1 ⟨rfl, hl⟩; replace L2 := Later.trans L2 hl; clear hl c2)
                | (go_at_call 10; apply Calls.mono; (focus (with_reducible (exact c3 _ L2))); rintro e w1 ⟨rfl, hl⟩; replace L2 := Later.trans L2 hl; clear hl c3)
                | (go_at_call 9; apply Calls.mono; (focus (with_reducible (exact c4 _ L2))); rintro e w1 ⟨rfl, hl⟩; replace L2 := Later.trans L2 hl; clear hl c4)
                | (go_at_call 8; apply Calls.mono; (focus (with_reducible (exact c5 _ L2))); rintro e w1 ⟨pA, cA, qA, dA, SA, PA, rfl, hA, hB, hE, hl⟩; replace L2 := Later.trans L2 hl; clear hl c5)
                | (go_at_call 9; apply Calls.mono; (focus (with_reducible (exact c6 _ _ _ _ _ L2 hA hB hE))); rintro e w1 ⟨rfl, hl⟩; replace L2 := Later.trans L2 hl; clear hl c6 hA hB hE)
                | (go_at_call 10; apply Calls.mono; (focus (with_reducible (exact c7 _ L2))); rintro e w1 ⟨rfl, hl⟩; replace L2 := Later.trans L2 hl; clear hl c7)
                | (go_at_call 5; apply Calls.mono; (focus (with_reducible (exact cZ _ L2))); rintro e w1 ⟨rfl, hl⟩; replace L2 := Later.trans L2 hl; clear hl cZ))
            all_goals go_wp2
            all_goals go_ret
            all_goals exact ⟨rfl, LV.trans L2⟩

set_option maxRecDepth 100000 in
theorem lifted (os : Os) (started : os.Started) (H : Type) (enc : TypeId × Value → H) :
    ReturnsInHanded {} Tryd.checked os 3 .any (fun w args => (Rows.validCopiesSpec.pre enc Tryd.prog Tryd.f3 [] false w args ∧ laidMetH Tryd.prog theList w) ∧ sizedMet enc Tryd.prog Tryd.f3 (OpenSpec.ofChange Rows.validCopiesSpec) false w args)
      (Rows.validCopiesSpec.post enc Tryd.prog Tryd.f3 false true false false) := by
  refine returnsInHanded_of_change_and (C := Tryd.checked) (X := fun w _ => laidMetH Tryd.prog theList w) (fun _ _ _ hh h => h.of_heap hh) own started (by kernel_rfl) Tryd.func3
    (ChangeSpec.witness_shaped (enc := enc) (C := Tryd.checked) (os := os) (X := fun w _ => laidMetH Tryd.prog theList w) false (World.laidAll Tryd.prog os theList) #[.agg #[.slice none 0 0, .slice none 0 0], .agg #[.slice none 0 0, .slice none 0 0], .slice none 0 0] 8 (World.laidAll_os _ _ _) (World.shaped_of_ZipB (by kernel_rfl) (by kernel_rfl)) (by kernel_rfl) (by kernel_rfl) (by kernel_rfl) (door_met os _)) ?_
  intro W base args ds gs before hval0 hW _ hsz0 hL _
  have hsz : (DataW.weightsEach Tryd.prog (Tryd.f3.params.toList ++ Rows.validCopiesSpec.plain.varTypes Tryd.prog) (ds ++ gs)).all (· ≤ reachBytes) = true := hsz0
  clear hsz0
  have hval : ∀ (j : Nat) t v, Tryd.f3.params[j]? = some t → args[j]? = some v → Value.okWide Tryd.prog W .any base t v := hval0
  have hW' := hW
  obtain ⟨p, q, hA0, hV, rfl, hfz, hnd⟩ := hW
  have hA : DataW.TrodAll enc Tryd.prog W 0 (fun _ => true) true Tryd.f3.params.toList args.toList ds p := hA0
  rw [Tryd.params3] at hA hval hsz
  obtain ⟨v0, vs0, d0, ds0, p0, q0, hargs, rfl, rfl, h0, r0⟩ := trodAll_cons hA
  obtain ⟨v1, vs1, d1, ds1, p1, q1, rfl, rfl, rfl, h1, r1⟩ := trodAll_cons r0
  obtain ⟨v2, vs2, d2, ds2, p2, q2, rfl, rfl, rfl, h2, r2⟩ := trodAll_cons r1
  obtain ⟨rfl, rfl, rfl⟩ := trodAll_nil r2
  obtain rfl : args = #[v0, v1, v2] := by cases args; simp_all
  obtain ⟨rfl, rfl⟩ := trodVars_none hV
  simp only [List.append_nil] at hW'
  have h0k := h0
  have hlt0 : ∀ x ∈ p0, x.block < W.heap.size := fun x hx => by simpa using hW'.lt x (by simp [hx])
  obtain ⟨u0, t0, S0, P0, rfl, is0, it0⟩ := open_prog (hval 0 25 v0 rfl rfl) h0
  have h1k := h1
  have hlt1 : ∀ x ∈ p1, x.block < W.heap.size := fun x hx => by simpa using hW'.lt x (by simp [hx])
  obtain ⟨u1, t1, S1, P1, rfl, is1, it1⟩ := open_prog (hval 1 25 v1 rfl rfl) h1
  have h2k := h2
  have hlt2 : ∀ x ∈ p2, x.block < W.heap.size := fun x hx => by simpa using hW'.lt x (by simp [hx])
  obtain ⟨l2, ia2⟩ := open_acts (hval 2 26 v2 rfl rfl) h2
  clear hA0 hval0
  refine (walk W (Good.of_laid hL) u0 t0 S0 P0 is0 it0 u1 t1 S1 P1 is1 it1 _ l2 ia2).mono fun e W' ⟨he, hnx⟩ => ?_
  subst he
  refine ⟨_, rfl, _, _, _, [], (p0 ++ (p1 ++ (p2 ++ []))), [], hW', ?_, ?_, rfl, Below.frame hnx _, fun h => by cases h⟩
  · exact (trodAll_cons_mk (shut_bool Tryd.underlying4 _) trodAll_mk0)
  · exact (trodAll_cons_mk (Below.trod laidOut (by kernel_rfl) (of_decide_eq_true (by kernel_rfl)) h0k hnx hlt0) (trodAll_cons_mk (Below.trod laidOut (by kernel_rfl) (of_decide_eq_true (by kernel_rfl)) h1k hnx hlt1) (trodAll_cons_mk (Below.trod laidOut (by kernel_rfl) (of_decide_eq_true (by kernel_rfl)) h2k hnx hlt2) trodAll_mk0)))

theorem over : Rows.validCopiesRow.holds Tryd.pinned (OpenSpec.ofChange Rows.validCopiesSpec) :=
  OpenClaim.holds_of_wide 3 Tryd.f3 rfl rfl rfl rfl rfl rfl rfl ⟨rfl, rfl, rfl, rfl, rfl⟩ rfl rfl rfl rfl rfl (by kernel_rfl) Tryd.func3 (by kernel_rfl)
    (of_decide_eq_true (by kernel_rfl)) (by unfold Func.isWrapper; first | (rw [if_pos (by decide +kernel)]; kernel_rfl) | (rw [if_neg (by decide +kernel)]; exact ⟨rfl, rfl⟩))
    (fun os started H enc _ => lifted os started H enc)

end Go.Proofs.YtegogmbcjjjjjaaDoor.validCopies

namespace Go.Proofs.YtegogmbcjjjjjaaDoor
open Go
/-- The statement: the row, with its listed variables tied to the program's text. -/
theorem validCopies_holds : Rows.ValidCopiesCardSaid :=
  Claim7.holds_tied_plain_at .later [] [.data, .data, .data, .data, .pinned] true Rows.validCopiesCard.stood.harness true
    validCopies.over (fun _ h => by cases h) (by kernel_rfl) (fun _ h => by cases h) validCopies_row_tie rfl ⟨rfl, rfl⟩ (by kernel_rfl) rfl
    (fun f fn hf hfn => by
      obtain rfl : f = 3 := Option.some.inj ((show Tryd.prog.funcNamed Rows.validCopiesRow.func = some 3 by kernel_rfl).symm.trans hf) |>.symm
      obtain rfl : fn = Tryd.f3 := (Option.some.inj (Tryd.func3.symm.trans hfn)).symm
      exact ⟨by kernel_rfl, fun j t ht => by
        rw [Tryd.params3] at ht
        have hm : t ∈ [25, 25, 26] := by simpa using Array.mem_of_getElem? ht
        have hall : ([25, 25, 26].all fun u => !Tryd.prog.wantsStandIn u) = true := by kernel_rfl
        exact (show Tryd.prog.wantsStandIn t = false by simpa using List.all_eq_true.1 hall t hm)⟩)
    (by kernel_rfl)
#print axioms validCopies_holds
end Go.Proofs.YtegogmbcjjjjjaaDoor
