/-
  ValidBent, as a tied card: of a program that may be, with one thing, and another one, changed, what valid.Check tells is what the document says, for every list of acts, every number and text. Conditions: the listed variables stand as the program's text lays them.
-/
import Derived.Test.YtgkdejldpldkiaaDoorRows
import Derived.Test.YtgkdejldpldkiaaDoorCards
import Derived.Test.YtgkdejldpldkiaaDoorTie
import Derived.Test.YtgkdejldpldkiaaDoorNamesLaid
import Derived.Test.YtgkdejldpldkiaaDoorJh
import Derived.Test.YtgkdejldpldkiaaDoorJi
import Derived.Test.YtgkdejldpldkiaaDoorBent
import Derived.Test.YtgkdejldpldkiaaDoorShorts
import Derived.Test.YtgkdejldpldkiaaDoorJk
import Derived.Test.YtgkdejldpldkiaaDoorMadeValid
import Derived.Test.YtgkdejldpldkiaaDoorMadeRow
import Derived.Test.YtgkdejldpldkiaaDoorBookProg
import Derived.Test.YtgkdejldpldkiaaDoorOpensActs
import Derived.WalkKit
import Derived.ProofKit
import Derived.OpenShut
import Derived.SizedLaws
import Derived.ShutString
import Derived.Carry
import Derived.Stop.Joined
import Derived.SevenTiedAt
namespace Go.Proofs.YtgkdejldpldkiaaDoor.validBent
open Go.ChangeShapes Go.WideShapes Go.ChangeAt Go.RowKit
open Go.ChangeMaps (open_string shut_string)
set_option linter.unusedVariables false
set_option linter.unusedSimpArgs false

theorem own : ownKnob Tryd.prog.godebug = none := by kernel_rfl
theorem laidOut : laidOutB Tryd.prog = true := by kernel_rfl

set_option maxRecDepth 1000000 in
set_option maxHeartbeats 8000000 in
theorem walk (w : World) (g : Good w) (v : Value) (l : List (List Act5)) (ia : ActsRow w v l) (how : Int) (hh : I64 how) (k1 : Int) (h1 : I64 k1) (k2 : Int) (h2 : I64 k2) (s : ByteArray) (hs : s.size ≤ 140737488355328) (hw2 : Int) (hhw : I64 hw2) :
    Calls Tryd.prog 3 #[v, .int .i64 how, .int .i64 k1, .int .i64 k2, .string s, .int .i64 hw2] w fun e w' => e = .returned (.bool true) ∧ Later w w' := by
  have cS := fun w' => short_any 40 (by omega) s hs w'
  rw [show ((40 : Nat) : Int) = 40 from rfl] at cS
  have ht0 := short_size 40 s
  generalize short 40 s = t at *
  have ht : t.size ≤ 1000 := by omega
  have cA := fun w' h => alive_any w' h
  have HG : Hid (NamesGood w) := g
  have HIA : Hid (ActsRow w v l) := ia
  clear g ia hs ht0
  go_enter Tryd.func3, Tryd.ntmps3
  go_upto_region 2 with (go_at_call 9; apply Calls.mono; (focus (with_reducible (exact cS _))); rintro e w1 ⟨rfl, hl1⟩)
  have cB := bookProg_any v l 3 6 (by omega) (by omega) w1 (ActsRow.kept HIA.out hl1.kept)
  rw [show ((3 : Nat) : Int) = 3 from rfl, show ((6 : Nat) : Int) = 6 from rfl] at cB
  go_upto_region 3 with (go_at_call 10; apply Calls.mono; (focus (with_reducible (exact cB))); rintro e w2 ⟨tv, vs, P, rfl, hl2, hx, ho, hm⟩; obtain ⟨q0, q1, rfl⟩ := owns_slice ho)
  have htl : min l.length 3 ≤ l.length := Nat.min_le_left _ _
  have hn3 : min l.length 3 ≤ 3 := Nat.min_le_right _ _
  generalize hnn : min l.length 3 = n at *
  clear hnn cB cS
  have HBX := at_new w2 (.cells #[.slice (some ⟨w1.heap.size + 1 + 1 + 1, 0, none⟩) 3 3, .slice q0 n q1] 27)
  have L3 := Later.alloc (Later.refl w2) (.cells #[.slice (some ⟨w1.heap.size + 1 + 1 + 1, 0, none⟩) 3 3, .slice q0 n q1] 27)
  have hvalid := made_valid (b := w1.heap.size) (by omega) (by omega) htl hm
  have hrow := SymRow.kept hx.row L3.kept
  have hthr := ThrRow.kept (made_row htl ho hm) L3.kept
  have hBe := (MadeThrs.bend (by omega) hn3 htl ho hm).later L3
  have hSy := (XYZ.bend hx).later L3
  have LV := (hl1.trans hl2).trans L3
  have hN1 := hl2.size
  have hN2 := L3.size
  generalize hNw : w1.heap.size = N at *
  have HNW : Hid (w.heap.size ≤ N) := by
    have := hl1.size
    show _ ≤ _
    omega
  generalize hbb : w2.heap.size = B at *
  have hBN : N ≤ B := hN1
  generalize w2.alloc (.cells #[.slice (some ⟨N + 1 + 1 + 1, 0, none⟩) 3 3, .slice q0 n q1] 27) = W3 at *
  have cC0 := fun w' h h' h'' => check_any (.slice (some ⟨N + 1 + 1 + 1, 0, none⟩) 3 3) (.slice q0 n q1) (xyz N) P w' h h' h'' hvalid.2
  rw [hvalid.1] at cC0
  generalize xyz N = S at *
  generalize N + 1 + 1 + 1 = b at *
  have HROW : Hid (SymRow W3 (.slice (some ⟨b, 0, none⟩) 3 3) S ∧ ThrRow W3 (.slice q0 n q1) P) := ⟨hrow, hthr⟩
  have c1 := cC0 W3 (HG.out.later LV) hrow hthr
  obtain ⟨b0, b1, -, -⟩ := box2_facts HBX
  clear hx ho hm hl1 hl2 L3 hvalid hrow hthr hNw hbb htl HIA cC0 HROW hN1
  go_upto_region 5 with (go_at_call 11; apply Calls.mono; (focus (with_reducible (exact c1))); rintro e w4 ⟨rfl, hl4⟩)
  replace hBe := hBe.later hl4
  replace hSy := hSy.later hl4
  replace HBX := heap_later hl4 HBX
  replace LV := LV.trans hl4
  have hN4 := hl4.size
  clear b0 b1 c1 hl4
  obtain ⟨b0, b1, z0, z1⟩ := box2_facts HBX
  have cb := bent_any w4 N 1 n b (.slice q0 n q1) vs _ hBe hSy (by omega) (by omega) how k1 k2 hh h1 h2 t ht
  go_upto_region 6 with (go_at_call 12; apply Calls.mono; (focus (with_reducible (exact cb))); rintro e w5 ⟨m, S', rfl, hm3, hto⟩; have HBX5 := hto.prog _ _ HBX; clear b0 b1 z0 z1; obtain ⟨b0, b1, z0, z1⟩ := box2_facts HBX5)
  have hto6 := hto.stored0 HBX5 hBN (.slice (some ⟨b, 0, none⟩) m 3) (.slice q0 n q1)
  replace HBX := prog_stored HBX5 (.slice (some ⟨b, 0, none⟩) m 3) (.slice q0 n q1)
  have LV6 : Later w ((w5.setCell ⟨B, 0, none⟩ (.slice (some ⟨b, 0, none⟩) m 3)).setCell ⟨B, 1, none⟩ (.slice q0 n q1)) := hto6.old w LV HNW.out
  have hN6 := hto6.size
  replace hBe := hto6.thr
  replace hSy := hto6.sym
  clear cb hto hto6 b0 b1 z0 z1 HBX5 LV
  generalize (w5.setCell ⟨B, 0, none⟩ (.slice (some ⟨b, 0, none⟩) m 3)).setCell ⟨B, 1, none⟩ (.slice q0 n q1) = W6 at *
  have LV := LV6
  clear LV6
  have HBX0 : Hid (W6.heap[B]? = some (.cells #[.slice (some ⟨b, 0, none⟩) m 3, .slice q0 n q1] 27)) := HBX
  have hBe0 : PLift _ := ⟨hBe⟩
  have hSy0 : PLift _ := ⟨hSy⟩
  obtain ⟨hr1, hf1⟩ := hSy.symRow (m := m) (by omega)
  obtain ⟨P', hr2, hpn, hf2⟩ := hBe.thrRow (by omega)
  have hfine : FineP (S'.take m) P' := ⟨hf1, hf2⟩
  have cC := fun w' h h' h'' => check_any (.slice (some ⟨b, 0, none⟩) m 3) (.slice q0 n q1) (S'.take m) P' w' h h' h'' hfine
  have cR := fun w' h h' => refCheck_any (.slice (some ⟨b, 0, none⟩) m 3) (.slice q0 n q1) (S'.take m) P' w' h h' hfine
  generalize checkC (S'.take m) P' = cc at *
  obtain ⟨b0, b1, -, -⟩ := box2_facts HBX
  have ne : Nonempty (After W6) := ⟨⟨W6, Later.refl W6⟩⟩
  have m0 := fun p : After W6 => cell_after b0 p
  have m1 := fun p : After W6 => cell_after b1 p
  have ss : ∀ z : After W6, SymRow z.world (.slice (some ⟨b, 0, none⟩) m 3) (S'.take m) := fun z => hr1.kept z.later.kept
  have tt : ∀ z : After W6, ThrRow z.world (.slice q0 n q1) P' := fun z => hr2.kept z.later.kept
  have gg : ∀ z : After W6, NamesGood z.world := fun z => NamesGood.later HG.out (LV.trans z.later)
  have hcc : (cc != cc) = false := by simp
  have hcc' : (cc == cc) = true := by simp
  clear b0 b1 hr1 hr2 hfine hf1 hf2
  refine wp_region_later (by kernel_rfl) (by kernel_rfl) ?_
  repeat (first | go_big_quiet_step ((first | (go_at_call 11; with_reducible (exact Calls.after_of (cC _ (gg _) (ss _) (tt _)))) | (go_at_call 13; with_reducible (exact Calls.after_of (cR _ (ss _) (tt _)))))) | quiet_step ((first | (go_at_call 11; with_reducible (exact Calls.after_of (cC _ (gg _) (ss _) (tt _)))) | (go_at_call 13; with_reducible (exact Calls.after_of (cR _ (ss _) (tt _)))))))
  refine wpQuiet_nil ?_
  intro _ hw'
  obtain ⟨z, hw''⟩ := hw'
  subst hw''
  clear m0 m1 ss tt gg cC cR hcc hcc'
  have hBe := hBe0.down.later z.later
  have hSy := hSy0.down.later z.later
  have LV7 := LV.trans z.later
  replace HBX := heap_later z.later HBX0.out
  have hN7 := z.later.size
  generalize z.world = W7 at *
  have LV := LV7
  clear LV7 hBe0 hSy0 HBX0
  obtain ⟨b0, b1, z0, z1⟩ := box2_facts HBX
  rcases Decidable.em (m = 3) with rfl | hm'
  · have cb := bent_any W7 N (1 + 1) n b (.slice q0 n q1) vs _ hBe hSy (by omega) (by omega) hw2 k2 k1 hhw h2 h1 t ht
    go_upto_region 10 with (go_at_call 12; apply Calls.mono; (focus (with_reducible (exact cb))); rintro e w8 ⟨m, S', rfl, hm3, hto⟩; have HBX5 := hto.prog _ _ HBX; clear b0 b1 z0 z1; obtain ⟨b0, b1, z0, z1⟩ := box2_facts HBX5)
    have hto6 := hto.stored0 HBX5 hBN (.slice (some ⟨b, 0, none⟩) m 3) (.slice q0 n q1)
    replace HBX := prog_stored HBX5 (.slice (some ⟨b, 0, none⟩) m 3) (.slice q0 n q1)
    have LV6 : Later w ((w8.setCell ⟨B, 0, none⟩ (.slice (some ⟨b, 0, none⟩) m 3)).setCell ⟨B, 1, none⟩ (.slice q0 n q1)) := hto6.old w LV HNW.out
    replace hBe := hto6.thr
    replace hSy := hto6.sym
    clear cb hto hto6 b0 b1 z0 z1 HBX5 LV
    generalize (w8.setCell ⟨B, 0, none⟩ (.slice (some ⟨b, 0, none⟩) m 3)).setCell ⟨B, 1, none⟩ (.slice q0 n q1) = W9 at *
    have LV := LV6
    clear LV6
    obtain ⟨hr1, hf1⟩ := hSy.symRow (m := m) (by omega)
    obtain ⟨P', hr2, hpn, hf2⟩ := hBe.thrRow (by omega)
    have hfine : FineP (S'.take m) P' := ⟨hf1, hf2⟩
    have cC := fun w' h h' h'' => check_any (.slice (some ⟨b, 0, none⟩) m 3) (.slice q0 n q1) (S'.take m) P' w' h h' h'' hfine
    have cR := fun w' h h' => refCheck_any (.slice (some ⟨b, 0, none⟩) m 3) (.slice q0 n q1) (S'.take m) P' w' h h' hfine
    generalize checkC (S'.take m) P' = cc at *
    obtain ⟨b0, b1, -, -⟩ := box2_facts HBX
    have ne : Nonempty (After W9) := ⟨⟨W9, Later.refl W9⟩⟩
    have m0 := fun p : After W9 => cell_after b0 p
    have m1 := fun p : After W9 => cell_after b1 p
    have ss : ∀ z : After W9, SymRow z.world (.slice (some ⟨b, 0, none⟩) m 3) (S'.take m) := fun z => hr1.kept z.later.kept
    have tt : ∀ z : After W9, ThrRow z.world (.slice q0 n q1) P' := fun z => hr2.kept z.later.kept
    have gg : ∀ z : After W9, NamesGood z.world := fun z => NamesGood.later HG.out (LV.trans z.later)
    have hcc : (cc != cc) = false := by simp
    have hcc' : (cc == cc) = true := by simp
    clear b0 b1 hr1 hr2 hfine hf1 hf2
    refine wp_region_later (by kernel_rfl) (by kernel_rfl) ?_
    repeat (first | go_big_quiet_step ((first | (go_at_call 11; with_reducible (exact Calls.after_of (cC _ (gg _) (ss _) (tt _)))) | (go_at_call 13; with_reducible (exact Calls.after_of (cR _ (ss _) (tt _)))) | (go_at_call 14; with_reducible (exact Calls.after_of (cA _ (gg _)))))) | quiet_step ((first | (go_at_call 11; with_reducible (exact Calls.after_of (cC _ (gg _) (ss _) (tt _)))) | (go_at_call 13; with_reducible (exact Calls.after_of (cR _ (ss _) (tt _)))) | (go_at_call 14; with_reducible (exact Calls.after_of (cA _ (gg _)))))))
    refine wpQuiet_nil ?_
    intro _ hw'
    obtain ⟨z, hw''⟩ := hw'
    subst hw''
    clear m0 m1 ss tt gg
    go_wp2
    go_ret
    exact ⟨rfl, LV.trans z.later⟩
  · have hmi : ((m : Int) == 3) = false := by simp; omega
    go_upto_region 10 with (fail)
    clear b0 b1 z0 z1
    obtain ⟨hr1, hf1⟩ := hSy.symRow (m := m) (by omega)
    obtain ⟨P', hr2, hpn, hf2⟩ := hBe.thrRow (by omega)
    have hfine : FineP (S'.take m) P' := ⟨hf1, hf2⟩
    have cC := fun w' h h' h'' => check_any (.slice (some ⟨b, 0, none⟩) m 3) (.slice q0 n q1) (S'.take m) P' w' h h' h'' hfine
    have cR := fun w' h h' => refCheck_any (.slice (some ⟨b, 0, none⟩) m 3) (.slice q0 n q1) (S'.take m) P' w' h h' hfine
    generalize checkC (S'.take m) P' = cc at *
    obtain ⟨b0, b1, -, -⟩ := box2_facts HBX
    have ne : Nonempty (After W7) := ⟨⟨W7, Later.refl W7⟩⟩
    have m0 := fun p : After W7 => cell_after b0 p
    have m1 := fun p : After W7 => cell_after b1 p
    have ss : ∀ z : After W7, SymRow z.world (.slice (some ⟨b, 0, none⟩) m 3) (S'.take m) := fun z => hr1.kept z.later.kept
    have tt : ∀ z : After W7, ThrRow z.world (.slice q0 n q1) P' := fun z => hr2.kept z.later.kept
    have gg : ∀ z : After W7, NamesGood z.world := fun z => NamesGood.later HG.out (LV.trans z.later)
    have hcc : (cc != cc) = false := by simp
    have hcc' : (cc == cc) = true := by simp
    clear b0 b1 hr1 hr2 hfine hf1 hf2
    refine wp_region_later (by kernel_rfl) (by kernel_rfl) ?_
    repeat (first | go_big_quiet_step ((first | (go_at_call 11; with_reducible (exact Calls.after_of (cC _ (gg _) (ss _) (tt _)))) | (go_at_call 13; with_reducible (exact Calls.after_of (cR _ (ss _) (tt _)))) | (go_at_call 14; with_reducible (exact Calls.after_of (cA _ (gg _)))))) | quiet_step ((first | (go_at_call 11; with_reducible (exact Calls.after_of (cC _ (gg _) (ss _) (tt _)))) | (go_at_call 13; with_reducible (exact Calls.after_of (cR _ (ss _) (tt _)))) | (go_at_call 14; with_reducible (exact Calls.after_of (cA _ (gg _)))))))
    refine wpQuiet_nil ?_
    intro _ hw'
    obtain ⟨z, hw''⟩ := hw'
    subst hw''
    clear m0 m1 ss tt gg
    go_wp2
    go_ret
    exact ⟨rfl, LV.trans z.later⟩

set_option maxRecDepth 100000 in
theorem lifted (os : Os) (started : os.Started) (H : Type) (enc : TypeId × Value → H) :
    ReturnsInHanded {} Tryd.checked os 3 .any (fun w args => (Rows.validBentSpec.pre enc Tryd.prog Tryd.f3 [] false w args ∧ laidMetH Tryd.prog theList w) ∧ sizedMet enc Tryd.prog Tryd.f3 (OpenSpec.ofChange Rows.validBentSpec) false w args)
      (Rows.validBentSpec.post enc Tryd.prog Tryd.f3 false true false false) := by
  refine returnsInHanded_of_change_and (C := Tryd.checked) (X := fun w _ => laidMetH Tryd.prog theList w) (fun _ _ _ hh h => h.of_heap hh) own started (by kernel_rfl) Tryd.func3
    (ChangeSpec.witness_shaped (enc := enc) (C := Tryd.checked) (os := os) (X := fun w _ => laidMetH Tryd.prog theList w) false (World.laidAll Tryd.prog os theList) #[.slice none 0 0, .int .i64 0, .int .i64 0, .int .i64 0, .string ⟨#[]⟩, .int .i64 0] 8 (World.laidAll_os _ _ _) (World.shaped_of_ZipB (by kernel_rfl) (by kernel_rfl)) (by kernel_rfl) (by kernel_rfl) (by kernel_rfl) (door_met os _)) ?_
  intro W base args ds gs before hval0 hW _ hsz0 hL _
  have hsz : (DataW.weightsEach Tryd.prog (Tryd.f3.params.toList ++ Rows.validBentSpec.plain.varTypes Tryd.prog) (ds ++ gs)).all (· ≤ reachBytes) = true := hsz0
  clear hsz0
  have hval : ∀ (j : Nat) t v, Tryd.f3.params[j]? = some t → args[j]? = some v → Value.okWide Tryd.prog W .any base t v := hval0
  have hW' := hW
  obtain ⟨p, q, hA0, hV, rfl, hfz, hnd⟩ := hW
  have hA : DataW.TrodAll enc Tryd.prog W 0 (fun _ => true) true Tryd.f3.params.toList args.toList ds p := hA0
  rw [Tryd.params3] at hA hval hsz
  obtain ⟨v0, vs0, d0, ds0, p0, q0, hargs, rfl, rfl, h0, r0⟩ := trodAll_cons hA
  obtain ⟨v1, vs1, d1, ds1, p1, q1, rfl, rfl, rfl, h1, r1⟩ := trodAll_cons r0
  obtain ⟨v2, vs2, d2, ds2, p2, q2, rfl, rfl, rfl, h2, r2⟩ := trodAll_cons r1
  obtain ⟨v3, vs3, d3, ds3, p3, q3, rfl, rfl, rfl, h3, r3⟩ := trodAll_cons r2
  obtain ⟨v4, vs4, d4, ds4, p4, q4, rfl, rfl, rfl, h4, r4⟩ := trodAll_cons r3
  obtain ⟨v5, vs5, d5, ds5, p5, q5, rfl, rfl, rfl, h5, r5⟩ := trodAll_cons r4
  obtain ⟨rfl, rfl, rfl⟩ := trodAll_nil r5
  obtain rfl : args = #[v0, v1, v2, v3, v4, v5] := by cases args; simp_all
  obtain ⟨rfl, rfl⟩ := trodVars_none hV
  simp only [List.append_nil] at hW'
  have h0k := h0
  have hlt0 : ∀ x ∈ p0, x.block < W.heap.size := fun x hx => by simpa using hW'.lt x (by simp [hx])
  obtain ⟨l0, ia0⟩ := open_acts (hval 0 22 v0 rfl rfl) h0
  obtain ⟨a1, rfl, rfl, rfl, w1⟩ := open_int Tryd.underlying3 (hval 1 3 v1 rfl rfl) h1
  obtain ⟨a2, rfl, rfl, rfl, w2⟩ := open_int Tryd.underlying3 (hval 2 3 v2 rfl rfl) h2
  obtain ⟨a3, rfl, rfl, rfl, w3⟩ := open_int Tryd.underlying3 (hval 3 3 v3 rfl rfl) h3
  obtain ⟨a4, rfl, rfl, rfl, w4⟩ := open_string Tryd.underlying9 (hval 4 9 v4 rfl rfl) h4
  have z4 : a4.size ≤ 140737488355328 := by
    have h1 := sized_string hsz (j := 4) (t := 9) rfl rfl
    have h2 := reachBytes_lt
    have e1 : a4.size = a4.data.size := rfl
    have e2 : a4.data.toList.length = a4.data.size := Array.length_toList
    have e3 : (2 : Nat) ^ 47 = 140737488355328 := by decide
    omega
  obtain ⟨a5, rfl, rfl, rfl, w5⟩ := open_int Tryd.underlying3 (hval 5 3 v5 rfl rfl) h5
  clear hA0 hval0
  refine (walk W (Good.of_laid hL) _ l0 ia0 a1 (int64_of_wf w1) a2 (int64_of_wf w2) a3 (int64_of_wf w3) a4 z4 a5 (int64_of_wf w5)).mono fun e W' ⟨he, hnx⟩ => ?_
  subst he
  refine ⟨_, rfl, _, _, _, [], (p0 ++ ([] ++ ([] ++ ([] ++ ([] ++ ([] ++ [])))))), [], hW', ?_, ?_, rfl, Below.frame hnx _, fun h => by cases h⟩
  · exact (trodAll_cons_mk (shut_bool Tryd.underlying4 _) trodAll_mk0)
  · exact (trodAll_cons_mk (Below.trod laidOut (by kernel_rfl) (of_decide_eq_true (by kernel_rfl)) h0k hnx hlt0) (trodAll_cons_mk (shut_int Tryd.underlying3 w1) (trodAll_cons_mk (shut_int Tryd.underlying3 w2) (trodAll_cons_mk (shut_int Tryd.underlying3 w3) (trodAll_cons_mk (shut_string Tryd.underlying9 w4) (trodAll_cons_mk (shut_int Tryd.underlying3 w5) trodAll_mk0))))))

theorem over : Rows.validBentRow.holds Tryd.pinned (OpenSpec.ofChange Rows.validBentSpec) :=
  OpenClaim.holds_of_wide 3 Tryd.f3 rfl rfl rfl rfl rfl rfl rfl ⟨rfl, rfl, rfl, rfl, rfl⟩ rfl rfl rfl rfl rfl (by kernel_rfl) Tryd.func3 (by kernel_rfl)
    (of_decide_eq_true (by kernel_rfl)) (by unfold Func.isWrapper; first | (rw [if_pos (by decide +kernel)]; kernel_rfl) | (rw [if_neg (by decide +kernel)]; exact ⟨rfl, rfl⟩))
    (fun os started H enc _ => lifted os started H enc)

end Go.Proofs.YtgkdejldpldkiaaDoor.validBent

namespace Go.Proofs.YtgkdejldpldkiaaDoor
open Go
/-- The statement: the row, with its listed variables tied to the program's text. -/
theorem validBent_holds : Rows.ValidBentCardSaid :=
  Claim7.holds_tied_plain_at .later [] [.data, .data, .data, .data, .pinned] true Rows.validBentCard.stood.harness true
    validBent.over (fun _ h => by cases h) (by kernel_rfl) (fun _ h => by cases h) validBent_row_tie rfl ⟨rfl, rfl⟩ (by kernel_rfl) rfl
    (fun f fn hf hfn => by
      obtain rfl : f = 3 := Option.some.inj ((show Tryd.prog.funcNamed Rows.validBentRow.func = some 3 by kernel_rfl).symm.trans hf) |>.symm
      obtain rfl : fn = Tryd.f3 := (Option.some.inj (Tryd.func3.symm.trans hfn)).symm
      exact ⟨by kernel_rfl, fun j t ht => by
        rw [Tryd.params3] at ht
        have hm : t ∈ [22, 3, 3, 3, 9, 3] := by simpa using Array.mem_of_getElem? ht
        have hall : ([22, 3, 3, 3, 9, 3].all fun u => !Tryd.prog.wantsStandIn u) = true := by kernel_rfl
        exact (show Tryd.prog.wantsStandIn t = false by simpa using List.all_eq_true.1 hall t hm)⟩)
    (by kernel_rfl)
#print axioms validBent_holds
end Go.Proofs.YtgkdejldpldkiaaDoor
