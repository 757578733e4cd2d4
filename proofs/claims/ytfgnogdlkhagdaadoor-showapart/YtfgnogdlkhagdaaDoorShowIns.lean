/-
  What show.Ins and the document's own text of an instruction return. Nothing that was in memory turns. Conditions: the listed tables stand as they are laid; the names are at most 1000 texts of at most 1000 bytes that stand in memory; the instruction's name has at most 1000 bytes.
-/
import Derived.Test.YtfgnogdlkhagdaaDoorShowOpnd
import Derived.Test.YtfgnogdlkhagdaaDoorShowPlain
import Derived.Test.YtfgnogdlkhagdaaDoorJg
import Derived.Test.YtfgnogdlkhagdaaDoorJc
import Derived.Test.YtfgnogdlkhagdaaDoorJh
namespace Go.Proofs.YtfgnogdlkhagdaaDoor
open Go.RowKit
set_option linter.unusedVariables false
set_option linter.unusedSimpArgs false

set_option maxRecDepth 1000000 in
set_option maxHeartbeats 4000000 in
theorem showIns_any (x : Ins) (ok : x.Ok) (hd : x.dest.size ≤ 1000) (T : List ByteArray) (hT : T.length ≤ 1000) (hts : ∀ t ∈ T, t.size ≤ 1000) (a : Option Addr) (cap : Nat) (w : World) (hG : ShowGood w) (hS : CRow w a (T.map Value.string)) :
    Calls Tryd.prog 64 #[x.val, .slice a T.length cap] w fun e w' => e = .returned (.string (insT x T)) ∧ Later w w' := by
  have cR := fun w' h => insRight_any x hd w' h
  have cO := fun w' h1 h2 => opText_any x.op x.cond w' h1 h2
  have cL := fun w' h => insLeads_any x hd w' h
  have cA := fun w' h1 h2 => opndText_any x.a ok.a.2.2.2 T hT hts a cap w' h1 h2
  have cB := fun w' h1 h2 => opndText_any x.b ok.b.2.2.2 T hT hts a cap w' h1 h2
  have hle : (leadsF x).2 = if insF x ≠ 0 then false else jumpsF x.op := by unfold leadsF; split <;> rfl
  have HG : Hid (ShowGood w) := hG
  have HS : Hid (CRow w a (T.map Value.string)) := hS
  clear hG hS
  have sA := opdText_size x.a ok.a.2.2.2 T 1000 hts
  have sB := opdText_size x.b ok.b.2.2.2 T 1000 hts
  have sO := opText_size x.op x.cond
  have eA0 : opdRightF x.a = true → (opdTextF x.a T).toList.isEmpty = lacksF x.a T := fun h => by rw [ByteArray.toList_eq]; exact opdText_empty h ok.a.2.2.2
  have eB0 : opdRightF x.b = true → (opdTextF x.b T).toList.isEmpty = lacksF x.b T := fun h => by rw [ByteArray.toList_eq]; exact opdText_empty h ok.b.2.2.2
  have hla : lacksF x.a T = (memF x.a && decide ((T.length : Int) ≤ x.a.sym)) := rfl
  have hlc : lacksF x.b T = (memF x.b && decide ((T.length : Int) ≤ x.b.sym)) := rfl
  have hsh : insF x = 0 → _ := ins_shape (x := x)
  have hH : headT x = if x.lock = true then ⟨#[108, 111, 99, 107, 32]⟩ ++ opTextF x.op x.cond else opTextF x.op x.cond := rfl
  have hF : insT x T = if ¬ insF x = 0 then ⟨#[]⟩ else if jumpsF x.op = true then headT x ++ ⟨#[32]⟩ ++ x.dest else if 9 < x.op then headT x else if (lacksF x.a T || lacksF x.b T) = true then ⟨#[]⟩ else headT x ++ ⟨#[32]⟩ ++ opdTextF x.a T ++ ⟨#[44, 32]⟩ ++ opdTextF x.b T := rfl
  generalize insT x T = Z at *
  generalize headT x = H at *
  generalize opTextF x.op x.cond = O at *
  generalize opdTextF x.a T = XA at *
  generalize opdTextF x.b T = XB at *
  generalize insF x = R at *
  generalize (leadsF x).1 = l1 at *
  generalize (leadsF x).2 = l2 at *
  generalize jumpsF x.op = ju at *
  generalize lacksF x.a T = la at *
  generalize lacksF x.b T = lc at *
  obtain ⟨op, lock, cond, ⟨ak, ar, ay, an⟩, ⟨bk, br, bs, bn⟩, dest, lb⟩ := x
  clear ok hts hla hlc
  unfold Ins.val Ins.cells Opd.val at *
  dsimp only at *
  have LL := Later.alloc (Later.refl w) (.cells #[.int .i64 op, .bool lock, .int .i64 cond, .int .i64 ak, .int .i64 ar, .int .i64 ay, .int .i64 an, .int .i64 bk, .int .i64 br, .int .i64 bs, .int .i64 bn, .string dest, lb] 54)
  have HB := at_new w (.cells #[.int .i64 op, .bool lock, .int .i64 cond, .int .i64 ak, .int .i64 ar, .int .i64 ay, .int .i64 an, .int .i64 bk, .int .i64 br, .int .i64 bs, .int .i64 bn, .string dest, lb] 54)
  by_cases h0 : R = 0
  · subst h0
    rw [if_neg (by simp)] at hF
    rw [if_neg (by simp)] at hle
    rcases hsh rfl with ⟨hj, h9⟩ | ⟨hj, h9, hk⟩ | ⟨hj, h9, hra, hrb, hk⟩
    · clear hsh
      rw [hj, if_pos rfl] at hF
      have hJ : ju = true := hj
      subst hJ
      subst hle
      clear hj eA0 eB0
      cases lock
      · as_aux_lemma =>
        rw [if_neg (by decide)] at hH
        subst hH
        subst hF
        go_enter Tryd.func64, Tryd.ntmps64
        go_upto_region 1 with (fail)
        obtain ⟨b0, b1, b2, b3, b4, b5, b6, b7, b8, b9, b10, b11, b12⟩ := box13_facts HB
        generalize w.alloc (.cells #[.int .i64 op, .bool false, .int .i64 cond, .int .i64 ak, .int .i64 ar, .int .i64 ay, .int .i64 an, .int .i64 bk, .int .i64 br, .int .i64 bs, .int .i64 bn, .string dest, lb] 54) = W at *
        go_wp2_with (first | (go_at_call 108; apply Calls.mono; (focus (with_reducible (exact cR _ (HG.out.later LL).names))); rintro e wn ⟨rfl, hl⟩; replace HB := heap_later hl HB; replace LL := Later.trans LL hl; obtain ⟨b0, b1, b2, b3, b4, b5, b6, b7, b8, b9, b10, b11, b12⟩ := box13_facts HB) | (go_at_call 109; apply Calls.mono; (focus (with_reducible (exact cO _ (HG.out.later LL).names.ops (HG.out.later LL).names.jumps))); rintro e wn ⟨rfl, hl⟩; replace HB := heap_later hl HB; replace LL := Later.trans LL hl; obtain ⟨b0, b1, b2, b3, b4, b5, b6, b7, b8, b9, b10, b11, b12⟩ := box13_facts HB) | (go_at_call 110; apply Calls.mono; (focus (with_reducible (exact cL _ (HG.out.later LL).names))); rintro e wn ⟨rfl, hl⟩; replace HB := heap_later hl HB; replace LL := Later.trans LL hl; obtain ⟨b0, b1, b2, b3, b4, b5, b6, b7, b8, b9, b10, b11, b12⟩ := box13_facts HB))
        go_ret
        exact ⟨rfl, LL⟩
      · as_aux_lemma =>
        rw [if_pos rfl] at hH
        subst hH
        subst hF
        go_enter Tryd.func64, Tryd.ntmps64
        go_upto_region 1 with (fail)
        obtain ⟨b0, b1, b2, b3, b4, b5, b6, b7, b8, b9, b10, b11, b12⟩ := box13_facts HB
        generalize w.alloc (.cells #[.int .i64 op, .bool true, .int .i64 cond, .int .i64 ak, .int .i64 ar, .int .i64 ay, .int .i64 an, .int .i64 bk, .int .i64 br, .int .i64 bs, .int .i64 bn, .string dest, lb] 54) = W at *
        go_wp2_with (first | (go_at_call 108; apply Calls.mono; (focus (with_reducible (exact cR _ (HG.out.later LL).names))); rintro e wn ⟨rfl, hl⟩; replace HB := heap_later hl HB; replace LL := Later.trans LL hl; obtain ⟨b0, b1, b2, b3, b4, b5, b6, b7, b8, b9, b10, b11, b12⟩ := box13_facts HB) | (go_at_call 109; apply Calls.mono; (focus (with_reducible (exact cO _ (HG.out.later LL).names.ops (HG.out.later LL).names.jumps))); rintro e wn ⟨rfl, hl⟩; replace HB := heap_later hl HB; replace LL := Later.trans LL hl; obtain ⟨b0, b1, b2, b3, b4, b5, b6, b7, b8, b9, b10, b11, b12⟩ := box13_facts HB) | (go_at_call 110; apply Calls.mono; (focus (with_reducible (exact cL _ (HG.out.later LL).names))); rintro e wn ⟨rfl, hl⟩; replace HB := heap_later hl HB; replace LL := Later.trans LL hl; obtain ⟨b0, b1, b2, b3, b4, b5, b6, b7, b8, b9, b10, b11, b12⟩ := box13_facts HB))
        go_ret
        exact ⟨rfl, LL⟩
    · clear hsh
      rw [hj, if_neg (by decide), if_pos h9] at hF
      subst hk
      have hJ : ju = false := hj
      subst hJ
      subst hle
      clear hj eA0 eB0
      cases lock
      · as_aux_lemma =>
        rw [if_neg (by decide)] at hH
        subst hH
        subst hF
        go_enter Tryd.func64, Tryd.ntmps64
        go_upto_region 1 with (fail)
        obtain ⟨b0, b1, b2, b3, b4, b5, b6, b7, b8, b9, b10, b11, b12⟩ := box13_facts HB
        generalize w.alloc (.cells #[.int .i64 op, .bool false, .int .i64 cond, .int .i64 0, .int .i64 ar, .int .i64 ay, .int .i64 an, .int .i64 bk, .int .i64 br, .int .i64 bs, .int .i64 bn, .string dest, lb] 54) = W at *
        go_wp2_with (first | (go_at_call 108; apply Calls.mono; (focus (with_reducible (exact cR _ (HG.out.later LL).names))); rintro e wn ⟨rfl, hl⟩; replace HB := heap_later hl HB; replace LL := Later.trans LL hl; obtain ⟨b0, b1, b2, b3, b4, b5, b6, b7, b8, b9, b10, b11, b12⟩ := box13_facts HB) | (go_at_call 109; apply Calls.mono; (focus (with_reducible (exact cO _ (HG.out.later LL).names.ops (HG.out.later LL).names.jumps))); rintro e wn ⟨rfl, hl⟩; replace HB := heap_later hl HB; replace LL := Later.trans LL hl; obtain ⟨b0, b1, b2, b3, b4, b5, b6, b7, b8, b9, b10, b11, b12⟩ := box13_facts HB) | (go_at_call 110; apply Calls.mono; (focus (with_reducible (exact cL _ (HG.out.later LL).names))); rintro e wn ⟨rfl, hl⟩; replace HB := heap_later hl HB; replace LL := Later.trans LL hl; obtain ⟨b0, b1, b2, b3, b4, b5, b6, b7, b8, b9, b10, b11, b12⟩ := box13_facts HB))
        go_ret
        exact ⟨rfl, LL⟩
      · as_aux_lemma =>
        rw [if_pos rfl] at hH
        subst hH
        subst hF
        go_enter Tryd.func64, Tryd.ntmps64
        go_upto_region 1 with (fail)
        obtain ⟨b0, b1, b2, b3, b4, b5, b6, b7, b8, b9, b10, b11, b12⟩ := box13_facts HB
        generalize w.alloc (.cells #[.int .i64 op, .bool true, .int .i64 cond, .int .i64 0, .int .i64 ar, .int .i64 ay, .int .i64 an, .int .i64 bk, .int .i64 br, .int .i64 bs, .int .i64 bn, .string dest, lb] 54) = W at *
        go_wp2_with (first | (go_at_call 108; apply Calls.mono; (focus (with_reducible (exact cR _ (HG.out.later LL).names))); rintro e wn ⟨rfl, hl⟩; replace HB := heap_later hl HB; replace LL := Later.trans LL hl; obtain ⟨b0, b1, b2, b3, b4, b5, b6, b7, b8, b9, b10, b11, b12⟩ := box13_facts HB) | (go_at_call 109; apply Calls.mono; (focus (with_reducible (exact cO _ (HG.out.later LL).names.ops (HG.out.later LL).names.jumps))); rintro e wn ⟨rfl, hl⟩; replace HB := heap_later hl HB; replace LL := Later.trans LL hl; obtain ⟨b0, b1, b2, b3, b4, b5, b6, b7, b8, b9, b10, b11, b12⟩ := box13_facts HB) | (go_at_call 110; apply Calls.mono; (focus (with_reducible (exact cL _ (HG.out.later LL).names))); rintro e wn ⟨rfl, hl⟩; replace HB := heap_later hl HB; replace LL := Later.trans LL hl; obtain ⟨b0, b1, b2, b3, b4, b5, b6, b7, b8, b9, b10, b11, b12⟩ := box13_facts HB))
        go_ret
        exact ⟨rfl, LL⟩
    · clear hsh
      rw [hj, if_neg (by decide), if_neg (by omega)] at hF
      have hJ : ju = false := hj
      subst hJ
      subst hle
      have eA := eA0 hra
      have eB := eB0 hrb
      clear hj eA0 eB0
      cases lock
      · as_aux_lemma =>
        rw [if_neg (by decide)] at hH
        subst hH
        go_enter Tryd.func64, Tryd.ntmps64
        go_upto_region 1 with (fail)
        obtain ⟨b0, b1, b2, b3, b4, b5, b6, b7, b8, b9, b10, b11, b12⟩ := box13_facts HB
        generalize w.alloc (.cells #[.int .i64 op, .bool false, .int .i64 cond, .int .i64 ak, .int .i64 ar, .int .i64 ay, .int .i64 an, .int .i64 bk, .int .i64 br, .int .i64 bs, .int .i64 bn, .string dest, lb] 54) = W at *
        go_upto_region 11 with (first | (go_at_call 108; apply Calls.mono; (focus (with_reducible (exact cR _ (HG.out.later LL).names))); rintro e wn ⟨rfl, hl⟩; replace HB := heap_later hl HB; replace LL := Later.trans LL hl; obtain ⟨b0, b1, b2, b3, b4, b5, b6, b7, b8, b9, b10, b11, b12⟩ := box13_facts HB) | (go_at_call 109; apply Calls.mono; (focus (with_reducible (exact cO _ (HG.out.later LL).names.ops (HG.out.later LL).names.jumps))); rintro e wn ⟨rfl, hl⟩; replace HB := heap_later hl HB; replace LL := Later.trans LL hl; obtain ⟨b0, b1, b2, b3, b4, b5, b6, b7, b8, b9, b10, b11, b12⟩ := box13_facts HB) | (go_at_call 110; apply Calls.mono; (focus (with_reducible (exact cL _ (HG.out.later LL).names))); rintro e wn ⟨rfl, hl⟩; replace HB := heap_later hl HB; replace LL := Later.trans LL hl; obtain ⟨b0, b1, b2, b3, b4, b5, b6, b7, b8, b9, b10, b11, b12⟩ := box13_facts HB))
        have m0 := fun p : After wn => cell_after b0 p
        have m1 := fun p : After wn => cell_after b1 p
        have m2 := fun p : After wn => cell_after b2 p
        have m3 := fun p : After wn => cell_after b3 p
        have m4 := fun p : After wn => cell_after b4 p
        have m5 := fun p : After wn => cell_after b5 p
        have m6 := fun p : After wn => cell_after b6 p
        have m7 := fun p : After wn => cell_after b7 p
        have m8 := fun p : After wn => cell_after b8 p
        have m9 := fun p : After wn => cell_after b9 p
        have m10 := fun p : After wn => cell_after b10 p
        have m11 := fun p : After wn => cell_after b11 p
        have m12 := fun p : After wn => cell_after b12 p
        have gg : ∀ p : After wn, ShowGood p.world := fun p => HG.out.later (LL.trans p.later)
        have ss : ∀ p : After wn, CRow p.world a (T.map Value.string) := fun p => HS.out.later (LL.trans p.later)
        have ne : Nonempty (After wn) := ⟨⟨wn, Later.refl wn⟩⟩
        clear b0 b1 b2 b3 b4 b5 b6 b7 b8 b9 b10 b11 b12
        refine wp_region_later (by kernel_rfl) (by kernel_rfl) ?_
        repeat (first | go_big_quiet_step ((first | (go_at_call 111; with_reducible (exact Calls.after_of (cA _ (gg _) (ss _)))) | (go_at_call 111; with_reducible (exact Calls.after_of (cB _ (gg _) (ss _)))))) | quiet_step ((first | (go_at_call 111; with_reducible (exact Calls.after_of (cA _ (gg _) (ss _)))) | (go_at_call 111; with_reducible (exact Calls.after_of (cB _ (gg _) (ss _)))))))
        refine wpQuiet_nil ?_
        intro _ hw'
        obtain ⟨q, hw''⟩ := hw'
        subst hw''
        clear m0 m1 m2 m3 m4 m5 m6 m7 m8 m9 m10 m11 m12 gg ss ne
        have LQ := LL.trans q.later
        cases la
        · rw [Bool.false_or] at hF
          cases lc
          · rw [if_neg (by decide)] at hF
            subst hF
            go_wp2
            go_ret
            exact ⟨rfl, LQ⟩
          · rw [if_pos rfl] at hF
            subst hF
            go_wp2
            go_ret
            exact ⟨rfl, LQ⟩
        · rw [Bool.true_or, if_pos rfl] at hF
          subst hF
          go_wp2
          go_ret
          exact ⟨rfl, LQ⟩
      · as_aux_lemma =>
        rw [if_pos rfl] at hH
        subst hH
        go_enter Tryd.func64, Tryd.ntmps64
        go_upto_region 1 with (fail)
        obtain ⟨b0, b1, b2, b3, b4, b5, b6, b7, b8, b9, b10, b11, b12⟩ := box13_facts HB
        generalize w.alloc (.cells #[.int .i64 op, .bool true, .int .i64 cond, .int .i64 ak, .int .i64 ar, .int .i64 ay, .int .i64 an, .int .i64 bk, .int .i64 br, .int .i64 bs, .int .i64 bn, .string dest, lb] 54) = W at *
        go_upto_region 11 with (first | (go_at_call 108; apply Calls.mono; (focus (with_reducible (exact cR _ (HG.out.later LL).names))); rintro e wn ⟨rfl, hl⟩; replace HB := heap_later hl HB; replace LL := Later.trans LL hl; obtain ⟨b0, b1, b2, b3, b4, b5, b6, b7, b8, b9, b10, b11, b12⟩ := box13_facts HB) | (go_at_call 109; apply Calls.mono; (focus (with_reducible (exact cO _ (HG.out.later LL).names.ops (HG.out.later LL).names.jumps))); rintro e wn ⟨rfl, hl⟩; replace HB := heap_later hl HB; replace LL := Later.trans LL hl; obtain ⟨b0, b1, b2, b3, b4, b5, b6, b7, b8, b9, b10, b11, b12⟩ := box13_facts HB) | (go_at_call 110; apply Calls.mono; (focus (with_reducible (exact cL _ (HG.out.later LL).names))); rintro e wn ⟨rfl, hl⟩; replace HB := heap_later hl HB; replace LL := Later.trans LL hl; obtain ⟨b0, b1, b2, b3, b4, b5, b6, b7, b8, b9, b10, b11, b12⟩ := box13_facts HB))
        have m0 := fun p : After wn => cell_after b0 p
        have m1 := fun p : After wn => cell_after b1 p
        have m2 := fun p : After wn => cell_after b2 p
        have m3 := fun p : After wn => cell_after b3 p
        have m4 := fun p : After wn => cell_after b4 p
        have m5 := fun p : After wn => cell_after b5 p
        have m6 := fun p : After wn => cell_after b6 p
        have m7 := fun p : After wn => cell_after b7 p
        have m8 := fun p : After wn => cell_after b8 p
        have m9 := fun p : After wn => cell_after b9 p
        have m10 := fun p : After wn => cell_after b10 p
        have m11 := fun p : After wn => cell_after b11 p
        have m12 := fun p : After wn => cell_after b12 p
        have gg : ∀ p : After wn, ShowGood p.world := fun p => HG.out.later (LL.trans p.later)
        have ss : ∀ p : After wn, CRow p.world a (T.map Value.string) := fun p => HS.out.later (LL.trans p.later)
        have ne : Nonempty (After wn) := ⟨⟨wn, Later.refl wn⟩⟩
        clear b0 b1 b2 b3 b4 b5 b6 b7 b8 b9 b10 b11 b12
        refine wp_region_later (by kernel_rfl) (by kernel_rfl) ?_
        repeat (first | go_big_quiet_step ((first | (go_at_call 111; with_reducible (exact Calls.after_of (cA _ (gg _) (ss _)))) | (go_at_call 111; with_reducible (exact Calls.after_of (cB _ (gg _) (ss _)))))) | quiet_step ((first | (go_at_call 111; with_reducible (exact Calls.after_of (cA _ (gg _) (ss _)))) | (go_at_call 111; with_reducible (exact Calls.after_of (cB _ (gg _) (ss _)))))))
        refine wpQuiet_nil ?_
        intro _ hw'
        obtain ⟨q, hw''⟩ := hw'
        subst hw''
        clear m0 m1 m2 m3 m4 m5 m6 m7 m8 m9 m10 m11 m12 gg ss ne
        have LQ := LL.trans q.later
        cases la
        · rw [Bool.false_or] at hF
          cases lc
          · rw [if_neg (by decide)] at hF
            subst hF
            go_wp2
            go_ret
            exact ⟨rfl, LQ⟩
          · rw [if_pos rfl] at hF
            subst hF
            go_wp2
            go_ret
            exact ⟨rfl, LQ⟩
        · rw [Bool.true_or, if_pos rfl] at hF
          subst hF
          go_wp2
          go_ret
          exact ⟨rfl, LQ⟩
  · rw [if_pos h0] at hF
    rw [if_pos h0] at hle
    subst hF hle
    have hR : (R != 0) = true := by simpa using h0
    clear hsh hH eA0 eB0
    go_enter Tryd.func64, Tryd.ntmps64
    go_upto_region 1 with (fail)
    obtain ⟨b0, b1, b2, b3, b4, b5, b6, b7, b8, b9, b10, b11, b12⟩ := box13_facts HB
    generalize w.alloc (.cells #[.int .i64 op, .bool lock, .int .i64 cond, .int .i64 ak, .int .i64 ar, .int .i64 ay, .int .i64 an, .int .i64 bk, .int .i64 br, .int .i64 bs, .int .i64 bn, .string dest, lb] 54) = W at *
    go_wp2_with (first | (go_at_call 108; apply Calls.mono; (focus (with_reducible (exact cR _ (HG.out.later LL).names))); rintro e wn ⟨rfl, hl⟩; replace HB := heap_later hl HB; replace LL := Later.trans LL hl; obtain ⟨b0, b1, b2, b3, b4, b5, b6, b7, b8, b9, b10, b11, b12⟩ := box13_facts HB) | (go_at_call 109; apply Calls.mono; (focus (with_reducible (exact cO _ (HG.out.later LL).names.ops (HG.out.later LL).names.jumps))); rintro e wn ⟨rfl, hl⟩; replace HB := heap_later hl HB; replace LL := Later.trans LL hl; obtain ⟨b0, b1, b2, b3, b4, b5, b6, b7, b8, b9, b10, b11, b12⟩ := box13_facts HB) | (go_at_call 110; apply Calls.mono; (focus (with_reducible (exact cL _ (HG.out.later LL).names))); rintro e wn ⟨rfl, hl⟩; replace HB := heap_later hl HB; replace LL := Later.trans LL hl; obtain ⟨b0, b1, b2, b3, b4, b5, b6, b7, b8, b9, b10, b11, b12⟩ := box13_facts HB))
    go_ret
    exact ⟨rfl, LL⟩

end Go.Proofs.YtfgnogdlkhagdaaDoor
