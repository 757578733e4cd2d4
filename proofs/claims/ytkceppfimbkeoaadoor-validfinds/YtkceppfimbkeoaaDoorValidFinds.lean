/-
  ValidFinds: where a label stands, and how many instructions count, is the same by package valid and by the document, of every thread that is not too great, and for every label of it and every text; conditions: none beside the listed variables, which are tied to the text.
-/
import Derived.Test.YtkceppfimbkeoaaDoorRows
import Derived.Test.YtkceppfimbkeoaaDoorCards
import Derived.Test.YtkceppfimbkeoaaDoorTie
import Derived.Test.YtkceppfimbkeoaaDoorJc
import Derived.Test.YtkceppfimbkeoaaDoorJh
import Derived.Test.YtkceppfimbkeoaaDoorJi
import Derived.Test.YtkceppfimbkeoaaDoorJk
import Derived.Test.YtkceppfimbkeoaaDoorShorts
import Derived.WalkKit
import Derived.ProofKit
import Derived.OpenShut
import Derived.SizedLaws
import Derived.ShutString
import Derived.Carry
import Derived.Stop.Joined
import Derived.SevenTiedAt
namespace Go.Proofs.YtkceppfimbkeoaaDoor.validFinds
open Go.ChangeShapes Go.WideShapes Go.ChangeAt Go.RowKit
open Go.ChangeMaps (open_string shut_string)
set_option linter.unusedVariables false
set_option linter.unusedSimpArgs false

theorem own : ownKnob Tryd.prog.godebug = none := by kernel_rfl
theorem laidOut : laidOutB Tryd.prog = true := by kernel_rfl

set_option maxRecDepth 1000000 in
set_option maxHeartbeats 4000000 in
theorem walk (w : World) (g : Good w) (u : Value) (T : Thr) (ti : InsRow w u T) (s : ByteArray) (hs : s.size ≤ 140737488355328) :
    Calls Tryd.prog 8 #[.agg #[u], .string s] w fun e w' => e = .returned (.bool true) ∧ Later w w' := by
  obtain ⟨p, cap, rfl, h1, h2⟩ := ti.slice
  unfold maxLen at h2
  have cS := fun w' => short_any 60 (by omega) s hs w'
  have cG := fun w' h => greatThread_any (.slice p T.length cap) T w' h
  have cF := fun t w' h => find_any (.slice p T.length cap) T t w' h
  have cR := fun t w' h => refFind_any (.slice p T.length cap) T t w' h
  have cN := fun w' h => count_any (.slice p T.length cap) T w' h
  have cM := fun w' h => refCount_any (.slice p T.length cap) T w' h
  have cA := fun w' h => alive_any w' h
  have LL := Later.alloc (Later.refl w) (.cells #[.slice p T.length cap] 47)
  have hB := (box1_facts (at_new w (.cells #[.slice p T.length cap] 47))).1
  have HT : Hid (InsRow w (.slice p T.length cap) T) := ti
  have HG : Hid (Good w) := g
  generalize short 60 s = sh at *
  clear ti g
  go_enter Tryd.func8, Tryd.ntmps8
  go_upto_region 1 with (fail)
  generalize w.alloc (.cells #[.slice p T.length cap] 47) = W at *
  generalize greatTF T = gt at *
  cases gt with
  | true =>
    go_wp2_with (first
      | (go_at_call 13; refine (cS _).mono ?_; rintro e w1 ⟨rfl, hl1⟩; have hB1 := cell_later hB hl1)
      | (go_at_call 23; refine (cG _ (InsRow.kept HT.out (LL.trans hl1).kept)).mono ?_; rintro e w2 ⟨rfl, hl2⟩)
      | (go_at_call 10; refine (cA _ (NamesGood.later HG.out (LL.trans (hl1.trans hl2)))).mono ?_; rintro e w3 ⟨rfl, hl3⟩))
    go_ret
    exact ⟨rfl, LL.trans (hl1.trans (hl2.trans hl3))⟩
  | false =>
    go_upto_region 4 with (first
      | (go_at_call 13; refine (cS _).mono ?_; rintro e w1 ⟨rfl, hl1⟩; have hB1 := cell_later hB hl1)
      | (go_at_call 23; refine (cG _ (InsRow.kept HT.out (LL.trans hl1).kept)).mono ?_; rintro e w2 ⟨rfl, hl2⟩))
    have LW := LL.trans (hl1.trans hl2)
    have hB2 := cell_later hB1 hl2
    clear hB hB1 LL hl1 hl2 cS cG
    go_wp2
    go_loopw [5] (fun vi wr => ∃ (i : Nat), vi = .int .i64 (i : Nat) ∧ i ≤ T.length ∧ Later w2 wr) (fun vi _ => T.length - (intOf vi).toNat)
    case atStart => exact ⟨0, rfl, by omega, Later.refl _⟩
    case round =>
      obtain ⟨i, rfl, hi, hlw⟩ := hrel
      have hBr := cell_later hB2 hlw
      by_cases h8 : i < T.length
      · obtain ⟨⟨x, L⟩, ht⟩ : ∃ t, T[i]? = some t := ⟨_, List.getElem?_eq_getElem h8⟩
        obtain ⟨g, o, rfl, -, hti, -, -, -, -, -, -, -, -, -, -, -, -, b12⟩ := (InsRow.kept HT.out (LW.trans hlw).kept).get ht
        obtain ⟨q, dap, hlb, hl1, hl2, -, hl4⟩ := hti
        rw [hlb] at b12
        unfold maxLen at hl2
        have HL4 : Hid (L ≠ [] → ∃ g o, q = some ⟨g, o, none⟩ ∧ ∀ i t, L[i]? = some t → wr.cell? ⟨g, o + i, none⟩ = some (.string t)) := hl4
        clear ht hlb hl4 hB2
        go_wp2
        obtain ⟨w6, rfl⟩ : ∃ w6, w6 = wr := ⟨_, rfl⟩
        go_loopw [6] (fun vk wy => ∃ (k : Nat), vk = .int .i64 (k : Nat) ∧ k ≤ L.length ∧ Later w6 wy) (fun vk _ => L.length - (intOf vk).toNat)
        case atStart => exact ⟨0, rfl, by omega, Later.refl _⟩
        case round =>
          obtain ⟨k, rfl, hk, hly⟩ := hrel
          have hBy := cell_later hBr hly
          have c12 := cell_later b12 hly
          by_cases h9 : k < L.length
          · obtain ⟨t, htk⟩ : ∃ t, L[k]? = some t := ⟨_, List.getElem?_eq_getElem h9⟩
            obtain ⟨gl, ol, rfl, hl5⟩ := HL4.out (by rintro rfl; simp at h9)
            have hct := cell_later (hl5 k t htk) hly
            clear htk hl5 HL4 hBr b12
            go_upto_region 10 with (fail)
            have ne : Nonempty (After wr) := ⟨⟨wr, Later.refl wr⟩⟩
            have m0 := fun p : After wr => cell_after hBy p
            have m1 := fun p : After wr => cell_after c12 p
            have m2 := fun p : After wr => cell_after hct p
            have tt : ∀ z : After wr, InsRow z.world (.slice (some ⟨g, o, none⟩) T.length cap) T := fun z => InsRow.kept HT.out (LW.trans (hlw.trans (hly.trans z.later))).kept
            have cF1 := fun w' h => cF t w' h
            have cR1 := fun w' h => cR t w' h
            clear cF cR cN cM cA hBy c12 hct
            generalize findF t T 0 = ff at *
            refine wp_region_later (by kernel_rfl) (by kernel_rfl) ?_
            repeat (first | go_big_quiet_step ((first | (go_at_call 24; with_reducible (exact Calls.after_of (cF1 _ (tt _)))) | (go_at_call 25; with_reducible (exact Calls.after_of (cR1 _ (tt _)))))) | quiet_step ((first | (go_at_call 24; with_reducible (exact Calls.after_of (cF1 _ (tt _)))) | (go_at_call 25; with_reducible (exact Calls.after_of (cR1 _ (tt _)))))))
            refine wpQuiet_nil ?_
            intro _ hw'
            obtain ⟨z, hw''⟩ := hw'
            subst hw''
            clear m0 m1 m2 tt
            go_wp2
            go_roundw
            case rel => exact ⟨k + 1, by go_num, by omega, hly.trans z.later⟩
            case measure => simp [intOf]; omega
          · clear HL4
            go_wp2
            go_roundw
            case rel => exact ⟨i + 1, by go_num, by omega, hlw.trans hly⟩
            case measure => simp [intOf]; omega
      · go_upto_region 12 with (fail)
        have ne : Nonempty (After wr) := ⟨⟨wr, Later.refl wr⟩⟩
        have m0 := fun p : After wr => cell_after hBr p
        have tt : ∀ z : After wr, InsRow z.world (.slice p T.length cap) T := fun z => InsRow.kept HT.out (LW.trans (hlw.trans z.later)).kept
        have gg : ∀ z : After wr, NamesGood z.world := fun z => NamesGood.later HG.out (LW.trans (hlw.trans z.later))
        have cF1 := fun w' h => cF sh w' h
        have cR1 := fun w' h => cR sh w' h
        clear cF cR hBr hB2
        generalize findF sh T 0 = ff at *
        generalize countF T = cn at *
        refine wp_region_later (by kernel_rfl) (by kernel_rfl) ?_
        repeat (first | go_big_quiet_step ((first | (go_at_call 24; with_reducible (exact Calls.after_of (cF1 _ (tt _)))) | (go_at_call 25; with_reducible (exact Calls.after_of (cR1 _ (tt _)))) | (go_at_call 18; with_reducible (exact Calls.after_of (cN _ (tt _)))) | (go_at_call 26; with_reducible (exact Calls.after_of (cM _ (tt _)))) | (go_at_call 10; with_reducible (exact Calls.after_of (cA _ (gg _)))))) | quiet_step ((first | (go_at_call 24; with_reducible (exact Calls.after_of (cF1 _ (tt _)))) | (go_at_call 25; with_reducible (exact Calls.after_of (cR1 _ (tt _)))) | (go_at_call 18; with_reducible (exact Calls.after_of (cN _ (tt _)))) | (go_at_call 26; with_reducible (exact Calls.after_of (cM _ (tt _)))) | (go_at_call 10; with_reducible (exact Calls.after_of (cA _ (gg _)))))))
        refine wpQuiet_nil ?_
        intro _ hw'
        obtain ⟨z, hw''⟩ := hw'
        subst hw''
        clear m0 tt gg
        go_wp2
        go_ret
        exact ⟨rfl, LW.trans (hlw.trans z.later)⟩

set_option maxRecDepth 100000 in
theorem lifted (os : Os) (started : os.Started) (H : Type) (enc : TypeId × Value → H) :
    ReturnsInHanded {} Tryd.checked os 8 .any (fun w args => (Rows.validFindsSpec.pre enc Tryd.prog Tryd.f8 [] false w args ∧ laidMetH Tryd.prog theList w) ∧ sizedMet enc Tryd.prog Tryd.f8 (OpenSpec.ofChange Rows.validFindsSpec) false w args)
      (Rows.validFindsSpec.post enc Tryd.prog Tryd.f8 false true false false) := by
  refine returnsInHanded_of_change_and (C := Tryd.checked) (X := fun w _ => laidMetH Tryd.prog theList w) (fun _ _ _ hh h => h.of_heap hh) own started (by kernel_rfl) Tryd.func8
    (ChangeSpec.witness_shaped (enc := enc) (C := Tryd.checked) (os := os) (X := fun w _ => laidMetH Tryd.prog theList w) false (World.laidAll Tryd.prog os theList) #[.agg #[.slice none 0 0], .string ⟨#[]⟩] 8 (World.laidAll_os _ _ _) (World.shaped_of_ZipB (by kernel_rfl) (by kernel_rfl)) (by kernel_rfl) (by kernel_rfl) (by kernel_rfl) (door_met os _)) ?_
  intro W base args ds gs before hval0 hW _ hsz0 hL _
  have hsz : (DataW.weightsEach Tryd.prog (Tryd.f8.params.toList ++ Rows.validFindsSpec.plain.varTypes Tryd.prog) (ds ++ gs)).all (· ≤ reachBytes) = true := hsz0
  clear hsz0
  have hval : ∀ (j : Nat) t v, Tryd.f8.params[j]? = some t → args[j]? = some v → Value.okWide Tryd.prog W .any base t v := hval0
  have hW' := hW
  obtain ⟨p, q, hA0, hV, rfl, hfz, hnd⟩ := hW
  have hA : DataW.TrodAll enc Tryd.prog W 0 (fun _ => true) true Tryd.f8.params.toList args.toList ds p := hA0
  rw [Tryd.params8] at hA hval hsz
  obtain ⟨v0, vs0, d0, ds0, p0, q0, hargs, rfl, rfl, h0, r0⟩ := trodAll_cons hA
  obtain ⟨v1, vs1, d1, ds1, p1, q1, rfl, rfl, rfl, h1, r1⟩ := trodAll_cons r0
  obtain ⟨rfl, rfl, rfl⟩ := trodAll_nil r1
  obtain rfl : args = #[v0, v1] := by cases args; simp_all
  obtain ⟨rfl, rfl⟩ := trodVars_none hV
  simp only [List.append_nil] at hW'
  have h0k := h0
  have hlt0 : ∀ x ∈ p0, x.block < W.heap.size := fun x hx => by simpa using hW'.lt x (by simp [hx])
  obtain ⟨u0, T0, rfl, ti0⟩ := open_thread (hval 0 47 v0 rfl rfl) h0
  obtain ⟨a1, rfl, rfl, rfl, w1⟩ := open_string Tryd.underlying9 (hval 1 9 v1 rfl rfl) h1
  have z1 : a1.size ≤ 140737488355328 := by
    have h1 := sized_string hsz (j := 1) (t := 9) rfl rfl
    have h2 := reachBytes_lt
    have e1 : a1.size = a1.data.size := rfl
    have e2 : a1.data.toList.length = a1.data.size := Array.length_toList
    have e3 : (2 : Nat) ^ 47 = 140737488355328 := by decide
    omega
  clear hA0 hval0
  refine (walk W (Good.of_laid hL) u0 T0 ti0 a1 z1).mono fun e W' ⟨he, hnx⟩ => ?_
  subst he
  refine ⟨_, rfl, _, _, _, [], (p0 ++ ([] ++ [])), [], hW', ?_, ?_, rfl, Below.frame hnx _, fun h => by cases h⟩
  · exact (trodAll_cons_mk (shut_bool Tryd.underlying4 _) trodAll_mk0)
  · exact (trodAll_cons_mk (Below.trod laidOut (by kernel_rfl) (of_decide_eq_true (by kernel_rfl)) h0k hnx hlt0) (trodAll_cons_mk (shut_string Tryd.underlying9 w1) trodAll_mk0))

theorem over : Rows.validFindsRow.holds Tryd.pinned (OpenSpec.ofChange Rows.validFindsSpec) :=
  OpenClaim.holds_of_wide 8 Tryd.f8 rfl rfl rfl rfl rfl rfl rfl ⟨rfl, rfl, rfl, rfl, rfl⟩ rfl rfl rfl rfl rfl (by kernel_rfl) Tryd.func8 (by kernel_rfl)
    (of_decide_eq_true (by kernel_rfl)) (by unfold Func.isWrapper; first | (rw [if_pos (by decide +kernel)]; kernel_rfl) | (rw [if_neg (by decide +kernel)]; exact ⟨rfl, rfl⟩))
    (fun os started H enc _ => lifted os started H enc)

end Go.Proofs.YtkceppfimbkeoaaDoor.validFinds

namespace Go.Proofs.YtkceppfimbkeoaaDoor
open Go
/-- The statement: the row, with its listed variables tied to the program's text. -/
theorem validFinds_holds : Rows.ValidFindsCardSaid :=
  Claim7.holds_tied_plain_at .later [] [.data, .data, .data, .data, .pinned] true Rows.validFindsCard.stood.harness true
    validFinds.over (fun _ h => by cases h) (by kernel_rfl) (fun _ h => by cases h) validFinds_row_tie rfl ⟨rfl, rfl⟩ (by kernel_rfl) rfl
    (fun f fn hf hfn => by
      obtain rfl : f = 8 := Option.some.inj ((show Tryd.prog.funcNamed Rows.validFindsRow.func = some 8 by kernel_rfl).symm.trans hf) |>.symm
      obtain rfl : fn = Tryd.f8 := (Option.some.inj (Tryd.func8.symm.trans hfn)).symm
      exact ⟨by kernel_rfl, fun j t ht => by
        rw [Tryd.params8] at ht
        have hm : t ∈ [47, 9] := by simpa using Array.mem_of_getElem? ht
        have hall : ([47, 9].all fun u => !Tryd.prog.wantsStandIn u) = true := by kernel_rfl
        exact (show Tryd.prog.wantsStandIn t = false by simpa using List.all_eq_true.1 hall t hm)⟩)
    (by kernel_rfl)
#print axioms validFinds_holds
end Go.Proofs.YtkceppfimbkeoaaDoor
