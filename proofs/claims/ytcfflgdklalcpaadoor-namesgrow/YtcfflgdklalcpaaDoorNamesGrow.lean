/-
  Proved: for every text and number NamesGrow returns true: a name with a digit or a letter more is one, as long as it has no more than so many runes and is no word; with a sign in it, or a digit ahead, it is none; the arguments read as before. The listed package variables stand as the program's text lays them (tied). Conditions: none besides.
-/
import Derived.Test.YtcfflgdklalcpaaDoorRows
import Derived.Test.YtcfflgdklalcpaaDoorCards
import Derived.Test.YtcfflgdklalcpaaDoorTie
import Derived.Test.YtcfflgdklalcpaaDoorLaid
import Derived.Test.YtcfflgdklalcpaaDoorAlive
import Derived.Test.YtcfflgdklalcpaaDoorIdx
import Derived.WalkKit
import Derived.ProofKit
import Derived.OpenShut
import Derived.SizedLaws
import Derived.ShutString
import Derived.Stop.Joined
import Derived.SevenTiedAt
namespace Go.Proofs.YtcfflgdklalcpaaDoor.namesGrow
open Go.ChangeShapes Go.WideShapes Go.ChangeAt Go.RowKit
open Go.ChangeMaps (open_string shut_string)
set_option linter.unusedVariables false

theorem own : ownKnob Tryd.prog.godebug = none := by kernel_rfl

/-- What a name may be grown by. -/
def moreT : List ByteArray := [⟨#[48]⟩, ⟨#[122]⟩, ⟨#[95]⟩, ⟨#[195, 169]⟩]

theorem more_ok : ∀ k : Fin 4, (marks (textAt moreT (k.val : Int))).length = 1 ∧ standAll (marks (textAt moreT (k.val : Int))) false = true ∧ noneBad (marks (textAt moreT (k.val : Int))) = true ∧ (textAt moreT (k.val : Int)).size ≤ 4 ∧ moreT[k.val]? = some (textAt moreT (k.val : Int)) := by decide +kernel

theorem right_parts {s : ByteArray} (h : rightF s = true) : 0 < (marks s).length ∧ (marks s).length ≤ 16 ∧ standAll (marks s) true = true ∧ noneBad (marks s) = true ∧ wordF s = false := by
  simp only [rightF, fewRunes, Bool.and_eq_true, Bool.not_eq_true', decide_eq_true_eq] at h
  exact ⟨h.1.1.1.1, h.1.1.1.2, h.1.1.2, h.1.2, h.2⟩

theorem marks_ne {s : ByteArray} (h : 0 < (marks s).length) : (true && (marks s).isEmpty) = false := by
  cases hm : marks s with
  | nil => rw [hm] at h; simp at h
  | cons a l => rfl

theorem right_more {s m : ByteArray} (h : rightF s = true) (h1 : (marks m).length = 1) (h2 : standAll (marks m) false = true) (h3 : noneBad (marks m) = true) :
    rightF (s ++ m) = (decide ((marks s).length < 16) && !wordF (s ++ m)) := by
  obtain ⟨p1, p2, p3, p4, p5⟩ := right_parts h
  rw [rightF, marks_app s m p4, standAll_app, noneBad_app, marks_ne p1, p3, p4, h2, h3, List.length_append, h1]
  simp only [fewRunes, Bool.and_true]
  rw [decide_eq_true (show 0 < (marks s).length + 1 by omega), Bool.true_and]
  rfl

theorem right_not {s m : ByteArray} (h : rightF s = true) (h2 : (standAll (marks m) false && noneBad (marks m)) = false) : rightF (s ++ m) = false := by
  obtain ⟨p1, p2, p3, p4, p5⟩ := right_parts h
  rw [rightF, marks_app s m p4, standAll_app, noneBad_app, marks_ne p1, p3, p4, Bool.true_and, Bool.true_and, Bool.and_assoc (fewRunes _), h2]
  simp

theorem right_one {s : ByteArray} : rightF (⟨#[49]⟩ ++ s) = false := by
  have e : marks ⟨#[49]⟩ = [(49, false)] := by kernel_rfl
  have e2 : standF 49 true = false := by decide
  have e3 : standF ((49 : Nat) : Int) true = false := e2
  rw [rightF, marks_app _ _ (by rw [e]; rfl), standAll_app, e]
  simp only [standAll, e3, Bool.false_and, Bool.and_false]

theorem tail1 : (standAll (marks ⟨#[45]⟩) false && noneBad (marks ⟨#[45]⟩)) = false := by kernel_rfl
theorem tail2 : (standAll (marks ⟨#[32]⟩) false && noneBad (marks ⟨#[32]⟩)) = false := by kernel_rfl
theorem tail3 : (standAll (marks ⟨#[255]⟩) false && noneBad (marks ⟨#[255]⟩)) = false := by kernel_rfl

theorem app_size (s t : ByteArray) (h : s.size ≤ 80) (h' : t.size ≤ 80) : (s ++ t).size ≤ 1000 := by
  rw [ByteArray.size_append]; omega

theorem to_fin (a : Int) (m : Nat) (hm : 0 < m) : ∃ n : Fin m, pick a (m : Int) = (n.val : Int) := by
  have b1 := Int.emod_nonneg a (show (m : Int) ≠ 0 by omega)
  have b2 := Int.emod_lt_of_pos a (show (0 : Int) < (m : Int) by omega)
  exact ⟨⟨(pick a m).toNat, by unfold pick; omega⟩, by unfold pick; simp; omega⟩

set_option maxRecDepth 1000000 in
set_option maxHeartbeats 1000000 in
theorem walk (a0 : ByteArray) (z0 : a0.size ≤ 140737488355328) (a1 : Int) (w1 : (Lit.int .i64 a1).wf = true) (w : World) (g : Good w) :
    Calls Tryd.prog 6 #[.string a0, .int .i64 a1] w fun e w' => e = .returned (.bool true) ∧ Later w w' := by
  have go : ∀ {w'}, Later w w' → Good w' := fun h => g.later h
  have d1 := bounds_i64 w1
  have c8 := fun w' => short80_any a0 z0 w'
  have hS := short_size 80 a0
  generalize short 80 a0 = S at *
  have c15 := fun w' (g' : Good w') => right_any S (by omega) w' g'
  cases hR : rightF S with
  | false =>
    rw [hR] at c15
    clear hR
    go_enter Tryd.func6, Tryd.ntmps6
    go_wp2_with (first
      | (go_at_call 8; refine (c8 _).mono ?_; rintro e w2 ⟨rfl, hl2⟩)
      | (go_at_call 15; refine (c15 _ (go hl2)).mono ?_; rintro e w3 ⟨rfl, hl3⟩; have L3 := Later.trans hl2 hl3)
      | (go_at_call 17; refine (alive_any _ (go L3)).mono ?_; rintro e w4 ⟨rfl, hl4⟩; have L4 := Later.trans L3 hl4))
    go_ret
    exact ⟨rfl, L4⟩
  | true =>
    rw [hR] at c15
    have p22 := fun w' => pick_any a1 4 (by omega) (by omega) w'
    obtain ⟨k, hk⟩ := to_fin a1 4 (by omega)
    rw [show pick a1 4 = pick a1 ((4 : Nat) : Int) from rfl, hk] at p22
    obtain ⟨m1, m2, m3, m4, m5⟩ := more_ok k
    have hk4 := k.isLt
    generalize k.val = k at *
    generalize textAt moreT (k : Int) = M at *
    have hW := (right_parts hR).2.2.2.2
    have c13 := fun w' (g' : Good w') => word_any S w' g'.2.1 g'.2.2.1 g'.2.2.2
    rw [hW] at c13
    have cM := fun w' (g' : Good w') => right_any (S ++ M) (app_size _ _ hS (by omega)) w' g'
    rw [right_more hR m1 m2 m3] at cM
    have c1 := fun w' (g' : Good w') => right_any (⟨#[49]⟩ ++ S) (app_size _ _ (by decide) hS) w' g'
    rw [right_one] at c1
    have cA := fun w' (g' : Good w') => right_any (S ++ ⟨#[45]⟩) (app_size _ _ hS (by decide)) w' g'
    rw [right_not hR tail1] at cA
    have cB := fun w' (g' : Good w') => right_any (S ++ ⟨#[32]⟩) (app_size _ _ hS (by decide)) w' g'
    rw [right_not hR tail2] at cB
    have cC := fun w' (g' : Good w') => right_any (S ++ ⟨#[255]⟩) (app_size _ _ hS (by decide)) w' g'
    rw [right_not hR tail3] at cC
    have c14 := fun w' => refWord_any (S ++ M) w'
    generalize wordF (S ++ M) = x at *
    have HM : Hid (moreT[k]? = some M) := m5
    clear hk m1 m2 m3 m5 hW hR
    have hn : (marks S).length ≤ 80 := Nat.le_trans (marks_le S) hS
    have hk' : (k : Int) < 4 := by omega
    go_enter Tryd.func6, Tryd.ntmps6
    go_wp2_with (first
      | (go_at_call 8; refine (c8 _).mono ?_; rintro e w2 ⟨rfl, hl2⟩)
      | (go_at_call 15; refine (c15 _ (go hl2)).mono ?_; rintro e w3 ⟨rfl, hl3⟩; have L3 := Later.trans hl2 hl3)
      | (go_at_call 22; refine (p22 _).mono ?_; rintro e w4 ⟨rfl, hl4⟩; have hc := Tab.later (tab_new _ moreT _) hl4 k M HM.out; have L4 := Later.trans (Later.alloc L3 _) hl4))
    go_loopw [6] (fun vn wr => ∃ (pos fuel l c n : Nat), vn = .int .i64 (n : Nat) ∧ wr.heap[w4.heap.size]? = some (.stringIter S pos) ∧ Later w wr ∧ Hid (n + (spotsFrom S fuel pos l c).length = (marks S).length) ∧ S.size ≤ pos + fuel ∧ pos ≤ S.size ∧ n ≤ pos) (fun _ wr => S.size - wr.iterPos w4.heap.size)
    case atStart => exact ⟨0, S.size, 1, 1, 0, rfl, World.iter_heap w4 S 0, Later.alloc L4 _, (by show _ = _; rw [marks_length]; simp [spots]), by omega, by omega, by omega⟩
    case round =>
      obtain ⟨pos, fuel, l, c, n, rfl, hit, hlw, HS, hf, hp, hnp⟩ := hrel
      have hw4 : w.heap.size ≤ w4.heap.size := L4.size
      clear hc L3 L4 hl2 hl3 hl4
      have hpos0 := iterPos_of hit
      by_cases hp : pos < S.size
      · have hnx : ∀ ty, (Instr.next (.pointer (some ⟨w4.heap.size, 0, none⟩)) true ty).run Tryd.prog wr = _ := fun ty => Lib.run_next_any_at wr w4.heap.size S pos ty hit hp
        have hd := decode_pos S pos hp
        have hit2 := Lib.iterAt_heap wr w4.heap.size S pos (pos + (Utf8.decode S pos).2) hit
        have hlw2 : Later w _ := Lib.below_iterAt hlw (k := w4.heap.size) hw4 S (pos + (Utf8.decode S pos).2)
        obtain ⟨W1, hW1⟩ : ∃ W1, W1 = wr.iterAt w4.heap.size S (pos + (Utf8.decode S pos).2) := ⟨_, rfl⟩
        rw [← hW1] at hnx hit2 hlw2
        obtain ⟨fuel, rfl⟩ : ∃ f', fuel = f' + 1 := ⟨fuel - 1, by omega⟩
        have HS2 : Hid (n + 1 + (spotsFrom S fuel (pos + (Utf8.decode S pos).2) (nl l (Utf8.decode S pos).1) (nc c (Utf8.decode S pos).1)).length = (marks S).length) := by
          show _ = _
          rw [← HS.out, spots_more S fuel pos l c hp, List.length_cons]
          omega
        generalize (Utf8.decode S pos).1 = r at *
        generalize (Utf8.decode S pos).2 = kk at *
        clear hW1 hit hlw HS cM c1 cA cB cC c14 c13
        go_wp2
        go_roundw
        case rel => exact ⟨pos + kk, fuel, nl l r, nc c r, n + 1, by go_num, hit2, hlw2, HS2, by omega, by omega, by omega⟩
        case measure => rw [iterPos_of hit2, hpos0]; omega
      · have hnx : ∀ ty, (Instr.next (.pointer (some ⟨w4.heap.size, 0, none⟩)) true ty).run Tryd.prog wr = _ := fun ty => Lib.run_next_end_at wr w4.heap.size S pos ty hit hp
        have hN : (marks S).length = n := by
          have := HS.out
          rw [spots_end S fuel pos l c hp] at this
          simpa using this.symm
        rw [hN] at cM
        clear HS hit hN hn
        by_cases h16 : n < 16
        · rw [decide_eq_true h16, Bool.true_and] at cM
          have h16' : (n : Int) < 16 := by omega
          go_wp2_with (first
            | (go_at_call 14; refine (c14 _).mono ?_; rintro e w' ⟨rfl, hl⟩; have hl' := Later.trans ‹Later w _› hl)
            | (go_at_call 15; apply Calls.mono; (focus (with_reducible (first | exact cM _ (go ‹Later w _›) | exact c1 _ (go ‹Later w _›) | exact cA _ (go ‹Later w _›) | exact cB _ (go ‹Later w _›) | exact cC _ (go ‹Later w _›)))); rintro e w' ⟨rfl, hl⟩; have hl' := Later.trans ‹Later w _› hl)
            | (go_at_call 13; refine (c13 _ (go ‹Later w _›)).mono ?_; rintro e w' ⟨rfl, hl⟩; have hl' := Later.trans ‹Later w _› hl)
            | (go_at_call 17; refine (alive_any _ (go ‹Later w _›)).mono ?_; rintro e w' ⟨rfl, hl⟩; have hl' := Later.trans ‹Later w _› hl))
          go_ret
          exact ⟨rfl, ‹Later w _›⟩
        · rw [decide_eq_false h16, Bool.false_and] at cM
          have h16' : ¬ (n : Int) < 16 := by omega
          go_wp2_with (first
            | (go_at_call 14; refine (c14 _).mono ?_; rintro e w' ⟨rfl, hl⟩; have hl' := Later.trans ‹Later w _› hl)
            | (go_at_call 15; apply Calls.mono; (focus (with_reducible (first | exact cM _ (go ‹Later w _›) | exact c1 _ (go ‹Later w _›) | exact cA _ (go ‹Later w _›) | exact cB _ (go ‹Later w _›) | exact cC _ (go ‹Later w _›)))); rintro e w' ⟨rfl, hl⟩; have hl' := Later.trans ‹Later w _› hl)
            | (go_at_call 13; refine (c13 _ (go ‹Later w _›)).mono ?_; rintro e w' ⟨rfl, hl⟩; have hl' := Later.trans ‹Later w _› hl)
            | (go_at_call 17; refine (alive_any _ (go ‹Later w _›)).mono ?_; rintro e w' ⟨rfl, hl⟩; have hl' := Later.trans ‹Later w _› hl))
          go_ret
          exact ⟨rfl, ‹Later w _›⟩

set_option maxRecDepth 100000 in
theorem lifted (os : Os) (started : os.Started) (H : Type) (enc : TypeId × Value → H) :
    ReturnsInHanded {} Tryd.checked os 6 .any (fun w args => (Rows.namesGrowSpec.pre enc Tryd.prog Tryd.f6 [] false w args ∧ laidMetH Tryd.prog theList w) ∧ sizedMet enc Tryd.prog Tryd.f6 (OpenSpec.ofChange Rows.namesGrowSpec) false w args)
      (Rows.namesGrowSpec.post enc Tryd.prog Tryd.f6 false true false false) := by
  refine returnsInHanded_of_change_and (C := Tryd.checked) (X := fun w _ => laidMetH Tryd.prog theList w) (fun _ _ _ hh h => h.of_heap hh) own started (by kernel_rfl) Tryd.func6
    (ChangeSpec.witness_shaped (enc := enc) (C := Tryd.checked) (os := os) (X := fun w _ => laidMetH Tryd.prog theList w) false (World.laidAll Tryd.prog os theList) #[.string ⟨#[]⟩, .int .i64 0] 8 (World.laidAll_os _ _ _) (World.shaped_of_ZipB (by kernel_rfl) (by kernel_rfl)) (by kernel_rfl) (by kernel_rfl) (by kernel_rfl) (door_met os _)) ?_
  intro W base args ds gs before hval0 hW _ hsz0 hL _
  have hsz : (DataW.weightsEach Tryd.prog (Tryd.f6.params.toList ++ Rows.namesGrowSpec.plain.varTypes Tryd.prog) (ds ++ gs)).all (· ≤ reachBytes) = true := hsz0
  clear hsz0
  have hval : ∀ (j : Nat) t v, Tryd.f6.params[j]? = some t → args[j]? = some v → Value.okWide Tryd.prog W .any base t v := hval0
  have hW' := hW
  obtain ⟨p, q, hA0, hV, rfl, hfz, hnd⟩ := hW
  have hA : DataW.TrodAll enc Tryd.prog W 0 (fun _ => true) true Tryd.f6.params.toList args.toList ds p := hA0
  rw [Tryd.params6] at hA hval hsz
  obtain ⟨v0, vs0, d0, ds0, p0, q0, hargs, rfl, rfl, h0, r0⟩ := trodAll_cons hA
  obtain ⟨v1, vs1, d1, ds1, p1, q1, rfl, rfl, rfl, h1, r1⟩ := trodAll_cons r0
  obtain ⟨rfl, rfl, rfl⟩ := trodAll_nil r1
  obtain rfl : args = #[v0, v1] := by cases args; simp_all
  obtain ⟨rfl, rfl⟩ := trodVars_none hV
  obtain ⟨a0, rfl, rfl, rfl, w0⟩ := open_string Tryd.underlying9 (hval 0 9 v0 rfl rfl) h0
  have z0 : a0.size ≤ 140737488355328 := by
    have h1 := sized_string hsz (j := 0) (t := 9) rfl rfl
    have h2 := reachBytes_lt
    have e1 : a0.size = a0.data.size := rfl
    have e2 : a0.data.toList.length = a0.data.size := Array.length_toList
    have e3 : (2 : Nat) ^ 47 = 140737488355328 := by decide
    omega
  obtain ⟨a1, rfl, rfl, rfl, w1⟩ := open_int Tryd.underlying3 (hval 1 3 v1 rfl rfl) h1
  clear hA0 hval0
  simp only [List.append_nil] at hW'
  refine (walk a0 z0 a1 w1 W (Good.of_laid hL)).mono fun e W' ⟨he, hnx⟩ => ?_
  subst he
  refine ⟨_, rfl, _, _, _, [], [], [], hW', ?_, ?_, rfl, Below.frame hnx _, fun h => by cases h⟩
  · exact (trodAll_cons_mk (shut_bool Tryd.underlying4 _) trodAll_mk0)
  · exact (trodAll_cons_mk (shut_string Tryd.underlying9 w0) (trodAll_cons_mk (shut_int Tryd.underlying3 w1) trodAll_mk0))

theorem over : Rows.namesGrowRow.holds Tryd.pinned (OpenSpec.ofChange Rows.namesGrowSpec) :=
  OpenClaim.holds_of_wide 6 Tryd.f6 rfl rfl rfl rfl rfl rfl rfl ⟨rfl, rfl, rfl, rfl, rfl⟩ rfl rfl rfl rfl rfl (by kernel_rfl) Tryd.func6 (by kernel_rfl)
    (of_decide_eq_true (by kernel_rfl)) (by unfold Func.isWrapper; first | (rw [if_pos (by decide +kernel)]; kernel_rfl) | (rw [if_neg (by decide +kernel)]; exact ⟨rfl, rfl⟩))
    (fun os started H enc _ => lifted os started H enc)

end Go.Proofs.YtcfflgdklalcpaaDoor.namesGrow

namespace Go.Proofs.YtcfflgdklalcpaaDoor
open Go
/-- The statement: the row, with its listed variables tied to the program's text. -/
theorem namesGrow_holds : Rows.NamesGrowCardSaid :=
  Claim7.holds_tied_plain_at .later [] [.data, .data, .data, .data, .pinned] true Rows.namesGrowCard.stood.harness false
    namesGrow.over (fun _ h => by cases h) (by kernel_rfl) (fun _ h => by cases h) namesGrow_row_tie rfl ⟨rfl, rfl⟩ (by kernel_rfl) rfl
    (fun f fn hf hfn => by
      obtain rfl : f = 6 := Option.some.inj ((show Tryd.prog.funcNamed Rows.namesGrowRow.func = some 6 by kernel_rfl).symm.trans hf) |>.symm
      obtain rfl : fn = Tryd.f6 := (Option.some.inj (Tryd.func6.symm.trans hfn)).symm
      exact ⟨by kernel_rfl, fun j t ht => by
        rw [Tryd.params6] at ht
        have hm : t ∈ [9, 3] := by simpa using Array.mem_of_getElem? ht
        have hall : ([9, 3].all fun u => !Tryd.prog.wantsStandIn u) = true := by kernel_rfl
        exact (show Tryd.prog.wantsStandIn t = false by simpa using List.all_eq_true.1 hall t hm)⟩)
    (by kernel_rfl)
#print axioms namesGrow_holds
end Go.Proofs.YtcfflgdklalcpaaDoor
