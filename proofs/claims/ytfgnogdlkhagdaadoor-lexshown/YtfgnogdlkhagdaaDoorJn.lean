/-
  What the document's own text of an instruction is. Nothing that was in memory turns. Conditions: the names are at most 1000 texts of at most 1000 bytes that stand in memory; the instruction's name has at most 1000 bytes.
  What the document's own text of a program is. Nothing that was in memory turns. Conditions: no text of the program has more than 1000 bytes; its whole text has at most 10000000.
-/
import Derived.Test.YtfgnogdlkhagdaaDoorShowPlain
import Derived.Test.YtfgnogdlkhagdaaDoorJe
import Derived.Test.YtfgnogdlkhagdaaDoorJd
import Derived.Test.YtfgnogdlkhagdaaDoorJh
import Derived.Test.YtfgnogdlkhagdaaDoorShowProg
import Derived.Test.YtfgnogdlkhagdaaDoorJk
namespace Go.Proofs.YtfgnogdlkhagdaaDoor
open Go.RowKit
set_option linter.unusedVariables false
set_option linter.unusedSimpArgs false

set_option maxRecDepth 1000000 in
set_option maxHeartbeats 4000000 in
theorem refShowIns_any (x : Ins) (ok : x.Ok) (hd : x.dest.size ≤ 1000) (T : List ByteArray) (hT : T.length ≤ 1000) (hts : ∀ t ∈ T, t.size ≤ 1000) (a : Option Addr) (cap : Nat) (w : World) (hS : CRow w a (T.map Value.string)) :
    Calls Tryd.prog 29 #[x.val, .slice a T.length cap] w fun e w' => e = .returned (.string (insT x T)) ∧ Later w w' := by
  have cR := fun w' => refInsRight_any x (by omega) w'
  have cO := fun w' => refOpText_any x.op x.cond w'
  have cJ := fun w' => refJumps_any x.op w'
  have cMA := fun w' => refMemory_any x.a w'
  have cMB := fun w' => refMemory_any x.b w'
  have cA := fun w' h2 => refOpdText_any x.a ok.a.2.2.2 T hT hts a cap w' h2
  have cB := fun w' h2 => refOpdText_any x.b ok.b.2.2.2 T hT hts a cap w' h2
  have HS : Hid (CRow w a (T.map Value.string)) := hS
  clear hS
  have sA := opdText_size x.a ok.a.2.2.2 T 1000 hts
  have sB := opdText_size x.b ok.b.2.2.2 T 1000 hts
  have sO := opText_size x.op x.cond
  have eA0 : opdRightF x.a = true → (opdTextF x.a T).toList.isEmpty = lacksF x.a T := fun h => by rw [ByteArray.toList_eq]; exact opdText_empty h ok.a.2.2.2
  have eB0 : opdRightF x.b = true → (opdTextF x.b T).toList.isEmpty = lacksF x.b T := fun h => by rw [ByteArray.toList_eq]; exact opdText_empty h ok.b.2.2.2
  have hla : lacksF x.a T = (memF x.a && decide ((T.length : Int) ≤ x.a.sym)) := rfl
  have hlc : lacksF x.b T = (memF x.b && decide ((T.length : Int) ≤ x.b.sym)) := rfl
  have hsh : insF x = 0 → _ := ins_shape (x := x)
  have hH : headT x = if x.lock = true then ⟨#[108, 111, 99, 107, 32]⟩ ++ opTextF x.op x.cond else opTextF x.op x.cond := rfl
  have hF : insT x T = if ¬ insF x = 0 then ⟨#[]⟩ else if jumpsF x.op = true then headT x ++ ⟨#[32]⟩ ++ x.dest else if 9 < x.op then headT x else if (lacksF x.a T || lacksF x.b T) = true then ⟨#[]⟩ else headT x ++ ⟨#[32]⟩ ++ opdTextF x.a T ++ ⟨#[44, 32]⟩ ++ opdTextF x.b T := rfl
  generalize insT x T = Z at *
  generalize headT x = H at *
  generalize opTextF x.op x.cond = O at *
  generalize opdTextF x.a T = XA at *
  generalize opdTextF x.b T = XB at *
  generalize insF x = R at *
  generalize memF x.a = ma at *
  generalize memF x.b = mb at *
  generalize jumpsF x.op = ju at *
  generalize lacksF x.a T = la at *
  generalize lacksF x.b T = lc at *
  obtain ⟨op, lock, cond, ⟨ak, ar, ay, an⟩, ⟨bk, br, bs, bn⟩, dest, lb⟩ := x
  clear ok hts
  unfold Ins.val Ins.cells Opd.val at *
  dsimp only at *
  have LL := Later.alloc (Later.refl w) (.cells #[.int .i64 op, .bool lock, .int .i64 cond, .int .i64 ak, .int .i64 ar, .int .i64 ay, .int .i64 an, .int .i64 bk, .int .i64 br, .int .i64 bs, .int .i64 bn, .string dest, lb] 54)
  have HB := at_new w (.cells #[.int .i64 op, .bool lock, .int .i64 cond, .int .i64 ak, .int .i64 ar, .int .i64 ay, .int .i64 an, .int .i64 bk, .int .i64 br, .int .i64 bs, .int .i64 bn, .string dest, lb] 54)
  by_cases h0 : R = 0
  · subst h0
    rw [if_neg (by simp)] at hF
    rcases hsh rfl with ⟨hj, h9⟩ | ⟨hj, h9, hk⟩ | ⟨hj, h9, hra, hrb, hk⟩
    · clear hsh
      rw [hj, if_pos rfl] at hF
      have hJ : ju = true := hj
      subst hJ
      clear hj eA0 eB0 hla hlc
      cases lock
      · as_aux_lemma =>
        rw [if_neg (by decide)] at hH
        subst hH
        subst hF
        go_enter Tryd.func29, Tryd.ntmps29
        go_upto_region 1 with (fail)
        obtain ⟨b0, b1, b2, b3, b4, b5, b6, b7, b8, b9, b10, b11, b12⟩ := box13_facts HB
        generalize w.alloc (.cells #[.int .i64 op, .bool false, .int .i64 cond, .int .i64 ak, .int .i64 ar, .int .i64 ay, .int .i64 an, .int .i64 bk, .int .i64 br, .int .i64 bs, .int .i64 bn, .string dest, lb] 54) = W at *
        go_wp2_with (first | (go_at_call 68; apply Calls.mono; (focus (with_reducible (exact cR _))); rintro e wn ⟨rfl, hl⟩; replace HB := heap_later hl HB; replace LL := Later.trans LL hl; obtain ⟨b0, b1, b2, b3, b4, b5, b6, b7, b8, b9, b10, b11, b12⟩ := box13_facts HB) | (go_at_call 69; apply Calls.mono; (focus (with_reducible (exact cO _))); rintro e wn ⟨rfl, hl⟩; replace HB := heap_later hl HB; replace LL := Later.trans LL hl; obtain ⟨b0, b1, b2, b3, b4, b5, b6, b7, b8, b9, b10, b11, b12⟩ := box13_facts HB) | (go_at_call 70; apply Calls.mono; (focus (with_reducible (exact cJ _))); rintro e wn ⟨rfl, hr⟩; obtain rfl := hr.symm) | (go_at_call 71; apply Calls.mono; (focus (with_reducible (exact cMA _))); rintro e wn ⟨rfl, hl⟩; replace HB := heap_later hl HB; replace LL := Later.trans LL hl; obtain ⟨b0, b1, b2, b3, b4, b5, b6, b7, b8, b9, b10, b11, b12⟩ := box13_facts HB) | (go_at_call 71; apply Calls.mono; (focus (with_reducible (exact cMB _))); rintro e wn ⟨rfl, hl⟩; replace HB := heap_later hl HB; replace LL := Later.trans LL hl; obtain ⟨b0, b1, b2, b3, b4, b5, b6, b7, b8, b9, b10, b11, b12⟩ := box13_facts HB))
        go_ret
        exact ⟨rfl, LL⟩
      · as_aux_lemma =>
        rw [if_pos rfl] at hH
        subst hH
        subst hF
        go_enter Tryd.func29, Tryd.ntmps29
        go_upto_region 1 with (fail)
        obtain ⟨b0, b1, b2, b3, b4, b5, b6, b7, b8, b9, b10, b11, b12⟩ := box13_facts HB
        generalize w.alloc (.cells #[.int .i64 op, .bool true, .int .i64 cond, .int .i64 ak, .int .i64 ar, .int .i64 ay, .int .i64 an, .int .i64 bk, .int .i64 br, .int .i64 bs, .int .i64 bn, .string dest, lb] 54) = W at *
        go_wp2_with (first | (go_at_call 68; apply Calls.mono; (focus (with_reducible (exact cR _))); rintro e wn ⟨rfl, hl⟩; replace HB := heap_later hl HB; replace LL := Later.trans LL hl; obtain ⟨b0, b1, b2, b3, b4, b5, b6, b7, b8, b9, b10, b11, b12⟩ := box13_facts HB) | (go_at_call 69; apply Calls.mono; (focus (with_reducible (exact cO _))); rintro e wn ⟨rfl, hl⟩; replace HB := heap_later hl HB; replace LL := Later.trans LL hl; obtain ⟨b0, b1, b2, b3, b4, b5, b6, b7, b8, b9, b10, b11, b12⟩ := box13_facts HB) | (go_at_call 70; apply Calls.mono; (focus (with_reducible (exact cJ _))); rintro e wn ⟨rfl, hr⟩; obtain rfl := hr.symm) | (go_at_call 71; apply Calls.mono; (focus (with_reducible (exact cMA _))); rintro e wn ⟨rfl, hl⟩; replace HB := heap_later hl HB; replace LL := Later.trans LL hl; obtain ⟨b0, b1, b2, b3, b4, b5, b6, b7, b8, b9, b10, b11, b12⟩ := box13_facts HB) | (go_at_call 71; apply Calls.mono; (focus (with_reducible (exact cMB _))); rintro e wn ⟨rfl, hl⟩; replace HB := heap_later hl HB; replace LL := Later.trans LL hl; obtain ⟨b0, b1, b2, b3, b4, b5, b6, b7, b8, b9, b10, b11, b12⟩ := box13_facts HB))
        go_ret
        exact ⟨rfl, LL⟩
    · clear hsh
      rw [hj, if_neg (by decide), if_pos h9] at hF
      subst hk
      have hJ : ju = false := hj
      subst hJ
      clear hj eA0 eB0 hla hlc
      cases lock
      · as_aux_lemma =>
        rw [if_neg (by decide)] at hH
        subst hH
        subst hF
        go_enter Tryd.func29, Tryd.ntmps29
        go_upto_region 1 with (fail)
        obtain ⟨b0, b1, b2, b3, b4, b5, b6, b7, b8, b9, b10, b11, b12⟩ := box13_facts HB
        generalize w.alloc (.cells #[.int .i64 op, .bool false, .int .i64 cond, .int .i64 0, .int .i64 ar, .int .i64 ay, .int .i64 an, .int .i64 bk, .int .i64 br, .int .i64 bs, .int .i64 bn, .string dest, lb] 54) = W at *
        go_wp2_with (first | (go_at_call 68; apply Calls.mono; (focus (with_reducible (exact cR _))); rintro e wn ⟨rfl, hl⟩; replace HB := heap_later hl HB; replace LL := Later.trans LL hl; obtain ⟨b0, b1, b2, b3, b4, b5, b6, b7, b8, b9, b10, b11, b12⟩ := box13_facts HB) | (go_at_call 69; apply Calls.mono; (focus (with_reducible (exact cO _))); rintro e wn ⟨rfl, hl⟩; replace HB := heap_later hl HB; replace LL := Later.trans LL hl; obtain ⟨b0, b1, b2, b3, b4, b5, b6, b7, b8, b9, b10, b11, b12⟩ := box13_facts HB) | (go_at_call 70; apply Calls.mono; (focus (with_reducible (exact cJ _))); rintro e wn ⟨rfl, hr⟩; obtain rfl := hr.symm) | (go_at_call 71; apply Calls.mono; (focus (with_reducible (exact cMA _))); rintro e wn ⟨rfl, hl⟩; replace HB := heap_later hl HB; replace LL := Later.trans LL hl; obtain ⟨b0, b1, b2, b3, b4, b5, b6, b7, b8, b9, b10, b11, b12⟩ := box13_facts HB) | (go_at_call 71; apply Calls.mono; (focus (with_reducible (exact cMB _))); rintro e wn ⟨rfl, hl⟩; replace HB := heap_later hl HB; replace LL := Later.trans LL hl; obtain ⟨b0, b1, b2, b3, b4, b5, b6, b7, b8, b9, b10, b11, b12⟩ := box13_facts HB))
        go_ret
        exact ⟨rfl, LL⟩
      · as_aux_lemma =>
        rw [if_pos rfl] at hH
        subst hH
        subst hF
        go_enter Tryd.func29, Tryd.ntmps29
        go_upto_region 1 with (fail)
        obtain ⟨b0, b1, b2, b3, b4, b5, b6, b7, b8, b9, b10, b11, b12⟩ := box13_facts HB
        generalize w.alloc (.cells #[.int .i64 op, .bool true, .int .i64 cond, .int .i64 0, .int .i64 ar, .int .i64 ay, .int .i64 an, .int .i64 bk, .int .i64 br, .int .i64 bs, .int .i64 bn, .string dest, lb] 54) = W at *
        go_wp2_with (first | (go_at_call 68; apply Calls.mono; (focus (with_reducible (exact cR _))); rintro e wn ⟨rfl, hl⟩; replace HB := heap_later hl HB; replace LL := Later.trans LL hl; obtain ⟨b0, b1, b2, b3, b4, b5, b6, b7, b8, b9, b10, b11, b12⟩ := box13_facts HB) | (go_at_call 69; apply Calls.mono; (focus (with_reducible (exact cO _))); rintro e wn ⟨rfl, hl⟩; replace HB := heap_later hl HB; replace LL := Later.trans LL hl; obtain ⟨b0, b1, b2, b3, b4, b5, b6, b7, b8, b9, b10, b11, b12⟩ := box13_facts HB) | (go_at_call 70; apply Calls.mono; (focus (with_reducible (exact cJ _))); rintro e wn ⟨rfl, hr⟩; obtain rfl := hr.symm) | (go_at_call 71; apply Calls.mono; (focus (with_reducible (exact cMA _))); rintro e wn ⟨rfl, hl⟩; replace HB := heap_later hl HB; replace LL := Later.trans LL hl; obtain ⟨b0, b1, b2, b3, b4, b5, b6, b7, b8, b9, b10, b11, b12⟩ := box13_facts HB) | (go_at_call 71; apply Calls.mono; (focus (with_reducible (exact cMB _))); rintro e wn ⟨rfl, hl⟩; replace HB := heap_later hl HB; replace LL := Later.trans LL hl; obtain ⟨b0, b1, b2, b3, b4, b5, b6, b7, b8, b9, b10, b11, b12⟩ := box13_facts HB))
        go_ret
        exact ⟨rfl, LL⟩
    · clear hsh
      rw [hj, if_neg (by decide), if_neg (by omega)] at hF
      have hJ : ju = false := hj
      subst hJ
      have eA := eA0 hra
      have eB := eB0 hrb
      clear hj eA0 eB0
      cases lock
      · as_aux_lemma =>
        rw [if_neg (by decide)] at hH
        subst hH
        go_enter Tryd.func29, Tryd.ntmps29
        go_upto_region 1 with (fail)
        obtain ⟨b0, b1, b2, b3, b4, b5, b6, b7, b8, b9, b10, b11, b12⟩ := box13_facts HB
        generalize w.alloc (.cells #[.int .i64 op, .bool false, .int .i64 cond, .int .i64 ak, .int .i64 ar, .int .i64 ay, .int .i64 an, .int .i64 bk, .int .i64 br, .int .i64 bs, .int .i64 bn, .string dest, lb] 54) = W at *
        cases ma
        · as_aux_lemma =>
          rw [Bool.false_and] at hla
          subst hla
          cases mb
          · rw [Bool.false_and] at hlc
            subst hlc
            rw [if_neg (by decide)] at hF
            subst hF
            go_upto_region 13 with (first | (go_at_call 68; apply Calls.mono; (focus (with_reducible (exact cR _))); rintro e wn ⟨rfl, hl⟩; replace HB := heap_later hl HB; replace LL := Later.trans LL hl; obtain ⟨b0, b1, b2, b3, b4, b5, b6, b7, b8, b9, b10, b11, b12⟩ := box13_facts HB) | (go_at_call 69; apply Calls.mono; (focus (with_reducible (exact cO _))); rintro e wn ⟨rfl, hl⟩; replace HB := heap_later hl HB; replace LL := Later.trans LL hl; obtain ⟨b0, b1, b2, b3, b4, b5, b6, b7, b8, b9, b10, b11, b12⟩ := box13_facts HB) | (go_at_call 70; apply Calls.mono; (focus (with_reducible (exact cJ _))); rintro e wn ⟨rfl, hr⟩; obtain rfl := hr.symm) | (go_at_call 71; apply Calls.mono; (focus (with_reducible (exact cMA _))); rintro e wn ⟨rfl, hl⟩; replace HB := heap_later hl HB; replace LL := Later.trans LL hl; obtain ⟨b0, b1, b2, b3, b4, b5, b6, b7, b8, b9, b10, b11, b12⟩ := box13_facts HB) | (go_at_call 71; apply Calls.mono; (focus (with_reducible (exact cMB _))); rintro e wn ⟨rfl, hl⟩; replace HB := heap_later hl HB; replace LL := Later.trans LL hl; obtain ⟨b0, b1, b2, b3, b4, b5, b6, b7, b8, b9, b10, b11, b12⟩ := box13_facts HB))
            have m0 := fun p : After wn => cell_after b0 p
            have m1 := fun p : After wn => cell_after b1 p
            have m2 := fun p : After wn => cell_after b2 p
            have m3 := fun p : After wn => cell_after b3 p
            have m4 := fun p : After wn => cell_after b4 p
            have m5 := fun p : After wn => cell_after b5 p
            have m6 := fun p : After wn => cell_after b6 p
            have m7 := fun p : After wn => cell_after b7 p
            have m8 := fun p : After wn => cell_after b8 p
            have m9 := fun p : After wn => cell_after b9 p
            have m10 := fun p : After wn => cell_after b10 p
            have m11 := fun p : After wn => cell_after b11 p
            have m12 := fun p : After wn => cell_after b12 p
            have ss : ∀ p : After wn, CRow p.world a (T.map Value.string) := fun p => HS.out.later (LL.trans p.later)
            have ne : Nonempty (After wn) := ⟨⟨wn, Later.refl wn⟩⟩
            clear b0 b1 b2 b3 b4 b5 b6 b7 b8 b9 b10 b11 b12
            refine wp_region_later (by kernel_rfl) (by kernel_rfl) ?_
            repeat (first | go_big_quiet_step ((first | (go_at_call 72; with_reducible (exact Calls.after_of (cA _ (ss _)))) | (go_at_call 72; with_reducible (exact Calls.after_of (cB _ (ss _)))))) | quiet_step ((first | (go_at_call 72; with_reducible (exact Calls.after_of (cA _ (ss _)))) | (go_at_call 72; with_reducible (exact Calls.after_of (cB _ (ss _)))))))
            refine wpQuiet_nil ?_
            intro _ hw'
            obtain ⟨q, hw''⟩ := hw'
            subst hw''
            go_wp2
            go_ret
            exact ⟨rfl, LL.trans q.later⟩
          · by_cases hB : (T.length : Int) ≤ bs
            · rw [decide_eq_true hB, Bool.true_and] at hlc
              subst hlc
              rw [if_pos (by decide)] at hF
              subst hF
              go_wp2_with (first | (go_at_call 68; apply Calls.mono; (focus (with_reducible (exact cR _))); rintro e wn ⟨rfl, hl⟩; replace HB := heap_later hl HB; replace LL := Later.trans LL hl; obtain ⟨b0, b1, b2, b3, b4, b5, b6, b7, b8, b9, b10, b11, b12⟩ := box13_facts HB) | (go_at_call 69; apply Calls.mono; (focus (with_reducible (exact cO _))); rintro e wn ⟨rfl, hl⟩; replace HB := heap_later hl HB; replace LL := Later.trans LL hl; obtain ⟨b0, b1, b2, b3, b4, b5, b6, b7, b8, b9, b10, b11, b12⟩ := box13_facts HB) | (go_at_call 70; apply Calls.mono; (focus (with_reducible (exact cJ _))); rintro e wn ⟨rfl, hr⟩; obtain rfl := hr.symm) | (go_at_call 71; apply Calls.mono; (focus (with_reducible (exact cMA _))); rintro e wn ⟨rfl, hl⟩; replace HB := heap_later hl HB; replace LL := Later.trans LL hl; obtain ⟨b0, b1, b2, b3, b4, b5, b6, b7, b8, b9, b10, b11, b12⟩ := box13_facts HB) | (go_at_call 71; apply Calls.mono; (focus (with_reducible (exact cMB _))); rintro e wn ⟨rfl, hl⟩; replace HB := heap_later hl HB; replace LL := Later.trans LL hl; obtain ⟨b0, b1, b2, b3, b4, b5, b6, b7, b8, b9, b10, b11, b12⟩ := box13_facts HB))
              go_ret
              exact ⟨rfl, LL⟩
            · rw [decide_eq_false hB, Bool.and_false] at hlc
              subst hlc
              rw [if_neg (by decide)] at hF
              subst hF
              go_upto_region 13 with (first | (go_at_call 68; apply Calls.mono; (focus (with_reducible (exact cR _))); rintro e wn ⟨rfl, hl⟩; replace HB := heap_later hl HB; replace LL := Later.trans LL hl; obtain ⟨b0, b1, b2, b3, b4, b5, b6, b7, b8, b9, b10, b11, b12⟩ := box13_facts HB) | (go_at_call 69; apply Calls.mono; (focus (with_reducible (exact cO _))); rintro e wn ⟨rfl, hl⟩; replace HB := heap_later hl HB; replace LL := Later.trans LL hl; obtain ⟨b0, b1, b2, b3, b4, b5, b6, b7, b8, b9, b10, b11, b12⟩ := box13_facts HB) | (go_at_call 70; apply Calls.mono; (focus (with_reducible (exact cJ _))); rintro e wn ⟨rfl, hr⟩; obtain rfl := hr.symm) | (go_at_call 71; apply Calls.mono; (focus (with_reducible (exact cMA _))); rintro e wn ⟨rfl, hl⟩; replace HB := heap_later hl HB; replace LL := Later.trans LL hl; obtain ⟨b0, b1, b2, b3, b4, b5, b6, b7, b8, b9, b10, b11, b12⟩ := box13_facts HB) | (go_at_call 71; apply Calls.mono; (focus (with_reducible (exact cMB _))); rintro e wn ⟨rfl, hl⟩; replace HB := heap_later hl HB; replace LL := Later.trans LL hl; obtain ⟨b0, b1, b2, b3, b4, b5, b6, b7, b8, b9, b10, b11, b12⟩ := box13_facts HB))
              have m0 := fun p : After wn => cell_after b0 p
              have m1 := fun p : After wn => cell_after b1 p
              have m2 := fun p : After wn => cell_after b2 p
              have m3 := fun p : After wn => cell_after b3 p
              have m4 := fun p : After wn => cell_after b4 p
              have m5 := fun p : After wn => cell_after b5 p
              have m6 := fun p : After wn => cell_after b6 p
              have m7 := fun p : After wn => cell_after b7 p
              have m8 := fun p : After wn => cell_after b8 p
              have m9 := fun p : After wn => cell_after b9 p
              have m10 := fun p : After wn => cell_after b10 p
              have m11 := fun p : After wn => cell_after b11 p
              have m12 := fun p : After wn => cell_after b12 p
              have ss : ∀ p : After wn, CRow p.world a (T.map Value.string) := fun p => HS.out.later (LL.trans p.later)
              have ne : Nonempty (After wn) := ⟨⟨wn, Later.refl wn⟩⟩
              clear b0 b1 b2 b3 b4 b5 b6 b7 b8 b9 b10 b11 b12
              refine wp_region_later (by kernel_rfl) (by kernel_rfl) ?_
              repeat (first | go_big_quiet_step ((first | (go_at_call 72; with_reducible (exact Calls.after_of (cA _ (ss _)))) | (go_at_call 72; with_reducible (exact Calls.after_of (cB _ (ss _)))))) | quiet_step ((first | (go_at_call 72; with_reducible (exact Calls.after_of (cA _ (ss _)))) | (go_at_call 72; with_reducible (exact Calls.after_of (cB _ (ss _)))))))
              refine wpQuiet_nil ?_
              intro _ hw'
              obtain ⟨q, hw''⟩ := hw'
              subst hw''
              go_wp2
              go_ret
              exact ⟨rfl, LL.trans q.later⟩
        · by_cases hA : (T.length : Int) ≤ ay
          · rw [decide_eq_true hA, Bool.true_and] at hla
            subst hla
            rw [Bool.true_or, if_pos rfl] at hF
            subst hF
            go_wp2_with (first | (go_at_call 68; apply Calls.mono; (focus (with_reducible (exact cR _))); rintro e wn ⟨rfl, hl⟩; replace HB := heap_later hl HB; replace LL := Later.trans LL hl; obtain ⟨b0, b1, b2, b3, b4, b5, b6, b7, b8, b9, b10, b11, b12⟩ := box13_facts HB) | (go_at_call 69; apply Calls.mono; (focus (with_reducible (exact cO _))); rintro e wn ⟨rfl, hl⟩; replace HB := heap_later hl HB; replace LL := Later.trans LL hl; obtain ⟨b0, b1, b2, b3, b4, b5, b6, b7, b8, b9, b10, b11, b12⟩ := box13_facts HB) | (go_at_call 70; apply Calls.mono; (focus (with_reducible (exact cJ _))); rintro e wn ⟨rfl, hr⟩; obtain rfl := hr.symm) | (go_at_call 71; apply Calls.mono; (focus (with_reducible (exact cMA _))); rintro e wn ⟨rfl, hl⟩; replace HB := heap_later hl HB; replace LL := Later.trans LL hl; obtain ⟨b0, b1, b2, b3, b4, b5, b6, b7, b8, b9, b10, b11, b12⟩ := box13_facts HB) | (go_at_call 71; apply Calls.mono; (focus (with_reducible (exact cMB _))); rintro e wn ⟨rfl, hl⟩; replace HB := heap_later hl HB; replace LL := Later.trans LL hl; obtain ⟨b0, b1, b2, b3, b4, b5, b6, b7, b8, b9, b10, b11, b12⟩ := box13_facts HB))
            go_ret
            exact ⟨rfl, LL⟩
          · as_aux_lemma =>
            rw [decide_eq_false hA, Bool.and_false] at hla
            subst hla
            cases mb
            · rw [Bool.false_and] at hlc
              subst hlc
              rw [if_neg (by decide)] at hF
              subst hF
              go_upto_region 13 with (first | (go_at_call 68; apply Calls.mono; (focus (with_reducible (exact cR _))); rintro e wn ⟨rfl, hl⟩; replace HB := heap_later hl HB; replace LL := Later.trans LL hl; obtain ⟨b0, b1, b2, b3, b4, b5, b6, b7, b8, b9, b10, b11, b12⟩ := box13_facts HB) | (go_at_call 69; apply Calls.mono; (focus (with_reducible (exact cO _))); rintro e wn ⟨rfl, hl⟩; replace HB := heap_later hl HB; replace LL := Later.trans LL hl; obtain ⟨b0, b1, b2, b3, b4, b5, b6, b7, b8, b9, b10, b11, b12⟩ := box13_facts HB) | (go_at_call 70; apply Calls.mono; (focus (with_reducible (exact cJ _))); rintro e wn ⟨rfl, hr⟩; obtain rfl := hr.symm) | (go_at_call 71; apply Calls.mono; (focus (with_reducible (exact cMA _))); rintro e wn ⟨rfl, hl⟩; replace HB := heap_later hl HB; replace LL := Later.trans LL hl; obtain ⟨b0, b1, b2, b3, b4, b5, b6, b7, b8, b9, b10, b11, b12⟩ := box13_facts HB) | (go_at_call 71; apply Calls.mono; (focus (with_reducible (exact cMB _))); rintro e wn ⟨rfl, hl⟩; replace HB := heap_later hl HB; replace LL := Later.trans LL hl; obtain ⟨b0, b1, b2, b3, b4, b5, b6, b7, b8, b9, b10, b11, b12⟩ := box13_facts HB))
              have m0 := fun p : After wn => cell_after b0 p
              have m1 := fun p : After wn => cell_after b1 p
              have m2 := fun p : After wn => cell_after b2 p
              have m3 := fun p : After wn => cell_after b3 p
              have m4 := fun p : After wn => cell_after b4 p
              have m5 := fun p : After wn => cell_after b5 p
              have m6 := fun p : After wn => cell_after b6 p
              have m7 := fun p : After wn => cell_after b7 p
              have m8 := fun p : After wn => cell_after b8 p
              have m9 := fun p : After wn => cell_after b9 p
              have m10 := fun p : After wn => cell_after b10 p
              have m11 := fun p : After wn => cell_after b11 p
              have m12 := fun p : After wn => cell_after b12 p
              have ss : ∀ p : After wn, CRow p.world a (T.map Value.string) := fun p => HS.out.later (LL.trans p.later)
              have ne : Nonempty (After wn) := ⟨⟨wn, Later.refl wn⟩⟩
              clear b0 b1 b2 b3 b4 b5 b6 b7 b8 b9 b10 b11 b12
              refine wp_region_later (by kernel_rfl) (by kernel_rfl) ?_
              repeat (first | go_big_quiet_step ((first | (go_at_call 72; with_reducible (exact Calls.after_of (cA _ (ss _)))) | (go_at_call 72; with_reducible (exact Calls.after_of (cB _ (ss _)))))) | quiet_step ((first | (go_at_call 72; with_reducible (exact Calls.after_of (cA _ (ss _)))) | (go_at_call 72; with_reducible (exact Calls.after_of (cB _ (ss _)))))))
              refine wpQuiet_nil ?_
              intro _ hw'
              obtain ⟨q, hw''⟩ := hw'
              subst hw''
              go_wp2
              go_ret
              exact ⟨rfl, LL.trans q.later⟩
            · by_cases hB : (T.length : Int) ≤ bs
              · rw [decide_eq_true hB, Bool.true_and] at hlc
                subst hlc
                rw [if_pos (by decide)] at hF
                subst hF
                go_wp2_with (first | (go_at_call 68; apply Calls.mono; (focus (with_reducible (exact cR _))); rintro e wn ⟨rfl, hl⟩; replace HB := heap_later hl HB; replace LL := Later.trans LL hl; obtain ⟨b0, b1, b2, b3, b4, b5, b6, b7, b8, b9, b10, b11, b12⟩ := box13_facts HB) | (go_at_call 69; apply Calls.mono; (focus (with_reducible (exact cO _))); rintro e wn ⟨rfl, hl⟩; replace HB := heap_later hl HB; replace LL := Later.trans LL hl; obtain ⟨b0, b1, b2, b3, b4, b5, b6, b7, b8, b9, b10, b11, b12⟩ := box13_facts HB) | (go_at_call 70; apply Calls.mono; (focus (with_reducible (exact cJ _))); rintro e wn ⟨rfl, hr⟩; obtain rfl := hr.symm) | (go_at_call 71; apply Calls.mono; (focus (with_reducible (exact cMA _))); rintro e wn ⟨rfl, hl⟩; replace HB := heap_later hl HB; replace LL := Later.trans LL hl; obtain ⟨b0, b1, b2, b3, b4, b5, b6, b7, b8, b9, b10, b11, b12⟩ := box13_facts HB) | (go_at_call 71; apply Calls.mono; (focus (with_reducible (exact cMB _))); rintro e wn ⟨rfl, hl⟩; replace HB := heap_later hl HB; replace LL := Later.trans LL hl; obtain ⟨b0, b1, b2, b3, b4, b5, b6, b7, b8, b9, b10, b11, b12⟩ := box13_facts HB))
                go_ret
                exact ⟨rfl, LL⟩
              · rw [decide_eq_false hB, Bool.and_false] at hlc
                subst hlc
                rw [if_neg (by decide)] at hF
                subst hF
                go_upto_region 13 with (first | (go_at_call 68; apply Calls.mono; (focus (with_reducible (exact cR _))); rintro e wn ⟨rfl, hl⟩; replace HB := heap_later hl HB; replace LL := Later.trans LL hl; obtain ⟨b0, b1, b2, b3, b4, b5, b6, b7, b8, b9, b10, b11, b12⟩ := box13_facts HB) | (go_at_call 69; apply Calls.mono; (focus (with_reducible (exact cO _))); rintro e wn ⟨rfl, hl⟩; replace HB := heap_later hl HB; replace LL := Later.trans LL hl; obtain ⟨b0, b1, b2, b3, b4, b5, b6, b7, b8, b9, b10, b11, b12⟩ := box13_facts HB) | (go_at_call 70; apply Calls.mono; (focus (with_reducible (exact cJ _))); rintro e wn ⟨rfl, hr⟩; obtain rfl := hr.symm) | (go_at_call 71; apply Calls.mono; (focus (with_reducible (exact cMA _))); rintro e wn ⟨rfl, hl⟩; replace HB := heap_later hl HB; replace LL := Later.trans LL hl; obtain ⟨b0, b1, b2, b3, b4, b5, b6, b7, b8, b9, b10, b11, b12⟩ := box13_facts HB) | (go_at_call 71; apply Calls.mono; (focus (with_reducible (exact cMB _))); rintro e wn ⟨rfl, hl⟩; replace HB := heap_later hl HB; replace LL := Later.trans LL hl; obtain ⟨b0, b1, b2, b3, b4, b5, b6, b7, b8, b9, b10, b11, b12⟩ := box13_facts HB))
                have m0 := fun p : After wn => cell_after b0 p
                have m1 := fun p : After wn => cell_after b1 p
                have m2 := fun p : After wn => cell_after b2 p
                have m3 := fun p : After wn => cell_after b3 p
                have m4 := fun p : After wn => cell_after b4 p
                have m5 := fun p : After wn => cell_after b5 p
                have m6 := fun p : After wn => cell_after b6 p
                have m7 := fun p : After wn => cell_after b7 p
                have m8 := fun p : After wn => cell_after b8 p
                have m9 := fun p : After wn => cell_after b9 p
                have m10 := fun p : After wn => cell_after b10 p
                have m11 := fun p : After wn => cell_after b11 p
                have m12 := fun p : After wn => cell_after b12 p
                have ss : ∀ p : After wn, CRow p.world a (T.map Value.string) := fun p => HS.out.later (LL.trans p.later)
                have ne : Nonempty (After wn) := ⟨⟨wn, Later.refl wn⟩⟩
                clear b0 b1 b2 b3 b4 b5 b6 b7 b8 b9 b10 b11 b12
                refine wp_region_later (by kernel_rfl) (by kernel_rfl) ?_
                repeat (first | go_big_quiet_step ((first | (go_at_call 72; with_reducible (exact Calls.after_of (cA _ (ss _)))) | (go_at_call 72; with_reducible (exact Calls.after_of (cB _ (ss _)))))) | quiet_step ((first | (go_at_call 72; with_reducible (exact Calls.after_of (cA _ (ss _)))) | (go_at_call 72; with_reducible (exact Calls.after_of (cB _ (ss _)))))))
                refine wpQuiet_nil ?_
                intro _ hw'
                obtain ⟨q, hw''⟩ := hw'
                subst hw''
                go_wp2
                go_ret
                exact ⟨rfl, LL.trans q.later⟩
      · as_aux_lemma =>
        rw [if_pos rfl] at hH
        subst hH
        go_enter Tryd.func29, Tryd.ntmps29
        go_upto_region 1 with (fail)
        obtain ⟨b0, b1, b2, b3, b4, b5, b6, b7, b8, b9, b10, b11, b12⟩ := box13_facts HB
        generalize w.alloc (.cells #[.int .i64 op, .bool true, .int .i64 cond, .int .i64 ak, .int .i64 ar, .int .i64 ay, .int .i64 an, .int .i64 bk, .int .i64 br, .int .i64 bs, .int .i64 bn, .string dest, lb] 54) = W at *
        cases ma
        · as_aux_lemma =>
          rw [Bool.false_and] at hla
          subst hla
          cases mb
          · rw [Bool.false_and] at hlc
            subst hlc
            rw [if_neg (by decide)] at hF
            subst hF
            go_upto_region 13 with (first | (go_at_call 68; apply Calls.mono; (focus (with_reducible (exact cR _))); rintro e wn ⟨rfl, hl⟩; replace HB := heap_later hl HB; replace LL := Later.trans LL hl; obtain ⟨b0, b1, b2, b3, b4, b5, b6, b7, b8, b9, b10, b11, b12⟩ := box13_facts HB) | (go_at_call 69; apply Calls.mono; (focus (with_reducible (exact cO _))); rintro e wn ⟨rfl, hl⟩; replace HB := heap_later hl HB; replace LL := Later.trans LL hl; obtain ⟨b0, b1, b2, b3, b4, b5, b6, b7, b8, b9, b10, b11, b12⟩ := box13_facts HB) | (go_at_call 70; apply Calls.mono; (focus (with_reducible (exact cJ _))); rintro e wn ⟨rfl, hr⟩; obtain rfl := hr.symm) | (go_at_call 71; apply Calls.mono; (focus (with_reducible (exact cMA _))); rintro e wn ⟨rfl, hl⟩; replace HB := heap_later hl HB; replace LL := Later.trans LL hl; obtain ⟨b0, b1, b2, b3, b4, b5, b6, b7, b8, b9, b10, b11, b12⟩ := box13_facts HB) | (go_at_call 71; apply Calls.mono; (focus (with_reducible (exact cMB _))); rintro e wn ⟨rfl, hl⟩; replace HB := heap_later hl HB; replace LL := Later.trans LL hl; obtain ⟨b0, b1, b2, b3, b4, b5, b6, b7, b8, b9, b10, b11, b12⟩ := box13_facts HB))
            have m0 := fun p : After wn => cell_after b0 p
            have m1 := fun p : After wn => cell_after b1 p
            have m2 := fun p : After wn => cell_after b2 p
            have m3 := fun p : After wn => cell_after b3 p
            have m4 := fun p : After wn => cell_after b4 p
            have m5 := fun p : After wn => cell_after b5 p
            have m6 := fun p : After wn => cell_after b6 p
            have m7 := fun p : After wn => cell_after b7 p
            have m8 := fun p : After wn => cell_after b8 p
            have m9 := fun p : After wn => cell_after b9 p
            have m10 := fun p : After wn => cell_after b10 p
            have m11 := fun p : After wn => cell_after b11 p
            have m12 := fun p : After wn => cell_after b12 p
            have ss : ∀ p : After wn, CRow p.world a (T.map Value.string) := fun p => HS.out.later (LL.trans p.later)
            have ne : Nonempty (After wn) := ⟨⟨wn, Later.refl wn⟩⟩
            clear b0 b1 b2 b3 b4 b5 b6 b7 b8 b9 b10 b11 b12
            refine wp_region_later (by kernel_rfl) (by kernel_rfl) ?_
            repeat (first | go_big_quiet_step ((first | (go_at_call 72; with_reducible (exact Calls.after_of (cA _ (ss _)))) | (go_at_call 72; with_reducible (exact Calls.after_of (cB _ (ss _)))))) | quiet_step ((first | (go_at_call 72; with_reducible (exact Calls.after_of (cA _ (ss _)))) | (go_at_call 72; with_reducible (exact Calls.after_of (cB _ (ss _)))))))
            refine wpQuiet_nil ?_
            intro _ hw'
            obtain ⟨q, hw''⟩ := hw'
            subst hw''
            go_wp2
            go_ret
            exact ⟨rfl, LL.trans q.later⟩
          · by_cases hB : (T.length : Int) ≤ bs
            · rw [decide_eq_true hB, Bool.true_and] at hlc
              subst hlc
              rw [if_pos (by decide)] at hF
              subst hF
              go_wp2_with (first | (go_at_call 68; apply Calls.mono; (focus (with_reducible (exact cR _))); rintro e wn ⟨rfl, hl⟩; replace HB := heap_later hl HB; replace LL := Later.trans LL hl; obtain ⟨b0, b1, b2, b3, b4, b5, b6, b7, b8, b9, b10, b11, b12⟩ := box13_facts HB) | (go_at_call 69; apply Calls.mono; (focus (with_reducible (exact cO _))); rintro e wn ⟨rfl, hl⟩; replace HB := heap_later hl HB; replace LL := Later.trans LL hl; obtain ⟨b0, b1, b2, b3, b4, b5, b6, b7, b8, b9, b10, b11, b12⟩ := box13_facts HB) | (go_at_call 70; apply Calls.mono; (focus (with_reducible (exact cJ _))); rintro e wn ⟨rfl, hr⟩; obtain rfl := hr.symm) | (go_at_call 71; apply Calls.mono; (focus (with_reducible (exact cMA _))); rintro e wn ⟨rfl, hl⟩; replace HB := heap_later hl HB; replace LL := Later.trans LL hl; obtain ⟨b0, b1, b2, b3, b4, b5, b6, b7, b8, b9, b10, b11, b12⟩ := box13_facts HB) | (go_at_call 71; apply Calls.mono; (focus (with_reducible (exact cMB _))); rintro e wn ⟨rfl, hl⟩; replace HB := heap_later hl HB; replace LL := Later.trans LL hl; obtain ⟨b0, b1, b2, b3, b4, b5, b6, b7, b8, b9, b10, b11, b12⟩ := box13_facts HB))
              go_ret
              exact ⟨rfl, LL⟩
            · rw [decide_eq_false hB, Bool.and_false] at hlc
              subst hlc
              rw [if_neg (by decide)] at hF
              subst hF
              go_upto_region 13 with (first | (go_at_call 68; apply Calls.mono; (focus (with_reducible (exact cR _))); rintro e wn ⟨rfl, hl⟩; replace HB := heap_later hl HB; replace LL := Later.trans LL hl; obtain ⟨b0, b1, b2, b3, b4, b5, b6, b7, b8, b9, b10, b11, b12⟩ := box13_facts HB) | (go_at_call 69; apply Calls.mono; (focus (with_reducible (exact cO _))); rintro e wn ⟨rfl, hl⟩; replace HB := heap_later hl HB; replace LL := Later.trans LL hl; obtain ⟨b0, b1, b2, b3, b4, b5, b6, b7, b8, b9, b10, b11, b12⟩ := box13_facts HB) | (go_at_call 70; apply Calls.mono; (focus (with_reducible (exact cJ _))); rintro e wn ⟨rfl, hr⟩; obtain rfl := hr.symm) | (go_at_call 71; apply Calls.mono; (focus (with_reducible (exact cMA _))); rintro e wn ⟨rfl, hl⟩; replace HB := heap_later hl HB; replace LL := Later.trans LL hl; obtain ⟨b0, b1, b2, b3, b4, b5, b6, b7, b8, b9, b10, b11, b12⟩ := box13_facts HB) | (go_at_call 71; apply Calls.mono; (focus (with_reducible (exact cMB _))); rintro e wn ⟨rfl, hl⟩; replace HB := heap_later hl HB; replace LL := Later.trans LL hl; obtain ⟨b0, b1, b2, b3, b4, b5, b6, b7, b8, b9, b10, b11, b12⟩ := box13_facts HB))
              have m0 := fun p : After wn => cell_after b0 p
              have m1 := fun p : After wn => cell_after b1 p
              have m2 := fun p : After wn => cell_after b2 p
              have m3 := fun p : After wn => cell_after b3 p
              have m4 := fun p : After wn => cell_after b4 p
              have m5 := fun p : After wn => cell_after b5 p
              have m6 := fun p : After wn => cell_after b6 p
              have m7 := fun p : After wn => cell_after b7 p
              have m8 := fun p : After wn => cell_after b8 p
              have m9 := fun p : After wn => cell_after b9 p
              have m10 := fun p : After wn => cell_after b10 p
              have m11 := fun p : After wn => cell_after b11 p
              have m12 := fun p : After wn => cell_after b12 p
              have ss : ∀ p : After wn, CRow p.world a (T.map Value.string) := fun p => HS.out.later (LL.trans p.later)
              have ne : Nonempty (After wn) := ⟨⟨wn, Later.refl wn⟩⟩
              clear b0 b1 b2 b3 b4 b5 b6 b7 b8 b9 b10 b11 b12
              refine wp_region_later (by kernel_rfl) (by kernel_rfl) ?_
              repeat (first | go_big_quiet_step ((first | (go_at_call 72; with_reducible (exact Calls.after_of (cA _ (ss _)))) | (go_at_call 72; with_reducible (exact Calls.after_of (cB _ (ss _)))))) | quiet_step ((first | (go_at_call 72; with_reducible (exact Calls.after_of (cA _ (ss _)))) | (go_at_call 72; with_reducible (exact Calls.after_of (cB _ (ss _)))))))
              refine wpQuiet_nil ?_
              intro _ hw'
              obtain ⟨q, hw''⟩ := hw'
              subst hw''
              go_wp2
              go_ret
              exact ⟨rfl, LL.trans q.later⟩
        · by_cases hA : (T.length : Int) ≤ ay
          · rw [decide_eq_true hA, Bool.true_and] at hla
            subst hla
            rw [Bool.true_or, if_pos rfl] at hF
            subst hF
            go_wp2_with (first | (go_at_call 68; apply Calls.mono; (focus (with_reducible (exact cR _))); rintro e wn ⟨rfl, hl⟩; replace HB := heap_later hl HB; replace LL := Later.trans LL hl; obtain ⟨b0, b1, b2, b3, b4, b5, b6, b7, b8, b9, b10, b11, b12⟩ := box13_facts HB) | (go_at_call 69; apply Calls.mono; (focus (with_reducible (exact cO _))); rintro e wn ⟨rfl, hl⟩; replace HB := heap_later hl HB; replace LL := Later.trans LL hl; obtain ⟨b0, b1, b2, b3, b4, b5, b6, b7, b8, b9, b10, b11, b12⟩ := box13_facts HB) | (go_at_call 70; apply Calls.mono; (focus (with_reducible (exact cJ _))); rintro e wn ⟨rfl, hr⟩; obtain rfl := hr.symm) | (go_at_call 71; apply Calls.mono; (focus (with_reducible (exact cMA _))); rintro e wn ⟨rfl, hl⟩; replace HB := heap_later hl HB; replace LL := Later.trans LL hl; obtain ⟨b0, b1, b2, b3, b4, b5, b6, b7, b8, b9, b10, b11, b12⟩ := box13_facts HB) | (go_at_call 71; apply Calls.mono; (focus (with_reducible (exact cMB _))); rintro e wn ⟨rfl, hl⟩; replace HB := heap_later hl HB; replace LL := Later.trans LL hl; obtain ⟨b0, b1, b2, b3, b4, b5, b6, b7, b8, b9, b10, b11, b12⟩ := box13_facts HB))
            go_ret
            exact ⟨rfl, LL⟩
          · as_aux_lemma =>
            rw [decide_eq_false hA, Bool.and_false] at hla
            subst hla
            cases mb
            · rw [Bool.false_and] at hlc
              subst hlc
              rw [if_neg (by decide)] at hF
              subst hF
              go_upto_region 13 with (first | (go_at_call 68; apply Calls.mono; (focus (with_reducible (exact cR _))); rintro e wn ⟨rfl, hl⟩; replace HB := heap_later hl HB; replace LL := Later.trans LL hl; obtain ⟨b0, b1, b2, b3, b4, b5, b6, b7, b8, b9, b10, b11, b12⟩ := box13_facts HB) | (go_at_call 69; apply Calls.mono; (focus (with_reducible (exact cO _))); rintro e wn ⟨rfl, hl⟩; replace HB := heap_later hl HB; replace LL := Later.trans LL hl; obtain ⟨b0, b1, b2, b3, b4, b5, b6, b7, b8, b9, b10, b11, b12⟩ := box13_facts HB) | (go_at_call 70; apply Calls.mono; (focus (with_reducible (exact cJ _))); rintro e wn ⟨rfl, hr⟩; obtain rfl := hr.symm) | (go_at_call 71; apply Calls.mono; (focus (with_reducible (exact cMA _))); rintro e wn ⟨rfl, hl⟩; replace HB := heap_later hl HB; replace LL := Later.trans LL hl; obtain ⟨b0, b1, b2, b3, b4, b5, b6, b7, b8, b9, b10, b11, b12⟩ := box13_facts HB) | (go_at_call 71; apply Calls.mono; (focus (with_reducible (exact cMB _))); rintro e wn ⟨rfl, hl⟩; replace HB := heap_later hl HB; replace LL := Later.trans LL hl; obtain ⟨b0, b1, b2, b3, b4, b5, b6, b7, b8, b9, b10, b11, b12⟩ := box13_facts HB))
              have m0 := fun p : After wn => cell_after b0 p
              have m1 := fun p : After wn => cell_after b1 p
              have m2 := fun p : After wn => cell_after b2 p
              have m3 := fun p : After wn => cell_after b3 p
              have m4 := fun p : After wn => cell_after b4 p
              have m5 := fun p : After wn => cell_after b5 p
              have m6 := fun p : After wn => cell_after b6 p
              have m7 := fun p : After wn => cell_after b7 p
              have m8 := fun p : After wn => cell_after b8 p
              have m9 := fun p : After wn => cell_after b9 p
              have m10 := fun p : After wn => cell_after b10 p
              have m11 := fun p : After wn => cell_after b11 p
              have m12 := fun p : After wn => cell_after b12 p
              have ss : ∀ p : After wn, CRow p.world a (T.map Value.string) := fun p => HS.out.later (LL.trans p.later)
              have ne : Nonempty (After wn) := ⟨⟨wn, Later.refl wn⟩⟩
              clear b0 b1 b2 b3 b4 b5 b6 b7 b8 b9 b10 b11 b12
              refine wp_region_later (by kernel_rfl) (by kernel_rfl) ?_
              repeat (first | go_big_quiet_step ((first | (go_at_call 72; with_reducible (exact Calls.after_of (cA _ (ss _)))) | (go_at_call 72; with_reducible (exact Calls.after_of (cB _ (ss _)))))) | quiet_step ((first | (go_at_call 72; with_reducible (exact Calls.after_of (cA _ (ss _)))) | (go_at_call 72; with_reducible (exact Calls.after_of (cB _ (ss _)))))))
              refine wpQuiet_nil ?_
              intro _ hw'
              obtain ⟨q, hw''⟩ := hw'
              subst hw''
              go_wp2
              go_ret
              exact ⟨rfl, LL.trans q.later⟩
            · by_cases hB : (T.length : Int) ≤ bs
              · rw [decide_eq_true hB, Bool.true_and] at hlc
                subst hlc
                rw [if_pos (by decide)] at hF
                subst hF
                go_wp2_with (first | (go_at_call 68; apply Calls.mono; (focus (with_reducible (exact cR _))); rintro e wn ⟨rfl, hl⟩; replace HB := heap_later hl HB; replace LL := Later.trans LL hl; obtain ⟨b0, b1, b2, b3, b4, b5, b6, b7, b8, b9, b10, b11, b12⟩ := box13_facts HB) | (go_at_call 69; apply Calls.mono; (focus (with_reducible (exact cO _))); rintro e wn ⟨rfl, hl⟩; replace HB := heap_later hl HB; replace LL := Later.trans LL hl; obtain ⟨b0, b1, b2, b3, b4, b5, b6, b7, b8, b9, b10, b11, b12⟩ := box13_facts HB) | (go_at_call 70; apply Calls.mono; (focus (with_reducible (exact cJ _))); rintro e wn ⟨rfl, hr⟩; obtain rfl := hr.symm) | (go_at_call 71; apply Calls.mono; (focus (with_reducible (exact cMA _))); rintro e wn ⟨rfl, hl⟩; replace HB := heap_later hl HB; replace LL := Later.trans LL hl; obtain ⟨b0, b1, b2, b3, b4, b5, b6, b7, b8, b9, b10, b11, b12⟩ := box13_facts HB) | (go_at_call 71; apply Calls.mono; (focus (with_reducible (exact cMB _))); rintro e wn ⟨rfl, hl⟩; replace HB := heap_later hl HB; replace LL := Later.trans LL hl; obtain ⟨b0, b1, b2, b3, b4, b5, b6, b7, b8, b9, b10, b11, b12⟩ := box13_facts HB))
                go_ret
                exact ⟨rfl, LL⟩
              · rw [decide_eq_false hB, Bool.and_false] at hlc
                subst hlc
                rw [if_neg (by decide)] at hF
                subst hF
                go_upto_region 13 with (first | (go_at_call 68; apply Calls.mono; (focus (with_reducible (exact cR _))); rintro e wn ⟨rfl, hl⟩; replace HB := heap_later hl HB; replace LL := Later.trans LL hl; obtain ⟨b0, b1, b2, b3, b4, b5, b6, b7, b8, b9, b10, b11, b12⟩ := box13_facts HB) | (go_at_call 69; apply Calls.mono; (focus (with_reducible (exact cO _))); rintro e wn ⟨rfl, hl⟩; replace HB := heap_later hl HB; replace LL := Later.trans LL hl; obtain ⟨b0, b1, b2, b3, b4, b5, b6, b7, b8, b9, b10, b11, b12⟩ := box13_facts HB) | (go_at_call 70; apply Calls.mono; (focus (with_reducible (exact cJ _))); rintro e wn ⟨rfl, hr⟩; obtain rfl := hr.symm) | (go_at_call 71; apply Calls.mono; (focus (with_reducible (exact cMA _))); rintro e wn ⟨rfl, hl⟩; replace HB := heap_later hl HB; replace LL := Later.trans LL hl; obtain ⟨b0, b1, b2, b3, b4, b5, b6, b7, b8, b9, b10, b11, b12⟩ := box13_facts HB) | (go_at_call 71; apply Calls.mono; (focus (with_reducible (exact cMB _))); rintro e wn ⟨rfl, hl⟩; replace HB := heap_later hl HB; replace LL := Later.trans LL hl; obtain ⟨b0, b1, b2, b3, b4, b5, b6, b7, b8, b9, b10, b11, b12⟩ := box13_facts HB))
                have m0 := fun p : After wn => cell_after b0 p
                have m1 := fun p : After wn => cell_after b1 p
                have m2 := fun p : After wn => cell_after b2 p
                have m3 := fun p : After wn => cell_after b3 p
                have m4 := fun p : After wn => cell_after b4 p
                have m5 := fun p : After wn => cell_after b5 p
                have m6 := fun p : After wn => cell_after b6 p
                have m7 := fun p : After wn => cell_after b7 p
                have m8 := fun p : After wn => cell_after b8 p
                have m9 := fun p : After wn => cell_after b9 p
                have m10 := fun p : After wn => cell_after b10 p
                have m11 := fun p : After wn => cell_after b11 p
                have m12 := fun p : After wn => cell_after b12 p
                have ss : ∀ p : After wn, CRow p.world a (T.map Value.string) := fun p => HS.out.later (LL.trans p.later)
                have ne : Nonempty (After wn) := ⟨⟨wn, Later.refl wn⟩⟩
                clear b0 b1 b2 b3 b4 b5 b6 b7 b8 b9 b10 b11 b12
                refine wp_region_later (by kernel_rfl) (by kernel_rfl) ?_
                repeat (first | go_big_quiet_step ((first | (go_at_call 72; with_reducible (exact Calls.after_of (cA _ (ss _)))) | (go_at_call 72; with_reducible (exact Calls.after_of (cB _ (ss _)))))) | quiet_step ((first | (go_at_call 72; with_reducible (exact Calls.after_of (cA _ (ss _)))) | (go_at_call 72; with_reducible (exact Calls.after_of (cB _ (ss _)))))))
                refine wpQuiet_nil ?_
                intro _ hw'
                obtain ⟨q, hw''⟩ := hw'
                subst hw''
                go_wp2
                go_ret
                exact ⟨rfl, LL.trans q.later⟩
  · rw [if_pos h0] at hF
    subst hF
    have hR : (R != 0) = true := by simpa using h0
    clear hsh hH eA0 eB0 hla hlc
    go_enter Tryd.func29, Tryd.ntmps29
    go_upto_region 1 with (fail)
    obtain ⟨b0, b1, b2, b3, b4, b5, b6, b7, b8, b9, b10, b11, b12⟩ := box13_facts HB
    generalize w.alloc (.cells #[.int .i64 op, .bool lock, .int .i64 cond, .int .i64 ak, .int .i64 ar, .int .i64 ay, .int .i64 an, .int .i64 bk, .int .i64 br, .int .i64 bs, .int .i64 bn, .string dest, lb] 54) = W at *
    go_wp2_with (first | (go_at_call 68; apply Calls.mono; (focus (with_reducible (exact cR _))); rintro e wn ⟨rfl, hl⟩; replace HB := heap_later hl HB; replace LL := Later.trans LL hl; obtain ⟨b0, b1, b2, b3, b4, b5, b6, b7, b8, b9, b10, b11, b12⟩ := box13_facts HB) | (go_at_call 69; apply Calls.mono; (focus (with_reducible (exact cO _))); rintro e wn ⟨rfl, hl⟩; replace HB := heap_later hl HB; replace LL := Later.trans LL hl; obtain ⟨b0, b1, b2, b3, b4, b5, b6, b7, b8, b9, b10, b11, b12⟩ := box13_facts HB) | (go_at_call 70; apply Calls.mono; (focus (with_reducible (exact cJ _))); rintro e wn ⟨rfl, hr⟩; obtain rfl := hr.symm) | (go_at_call 71; apply Calls.mono; (focus (with_reducible (exact cMA _))); rintro e wn ⟨rfl, hl⟩; replace HB := heap_later hl HB; replace LL := Later.trans LL hl; obtain ⟨b0, b1, b2, b3, b4, b5, b6, b7, b8, b9, b10, b11, b12⟩ := box13_facts HB) | (go_at_call 71; apply Calls.mono; (focus (with_reducible (exact cMB _))); rintro e wn ⟨rfl, hl⟩; replace HB := heap_later hl HB; replace LL := Later.trans LL hl; obtain ⟨b0, b1, b2, b3, b4, b5, b6, b7, b8, b9, b10, b11, b12⟩ := box13_facts HB))
    go_ret
    exact ⟨rfl, LL⟩

end Go.Proofs.YtfgnogdlkhagdaaDoor

namespace Go.Proofs.YtfgnogdlkhagdaaDoor
open Go.RowKit
set_option linter.unusedVariables false
set_option linter.unusedSimpArgs false

theorem size_of {t : ByteArray} {l : List UInt8} (h : t.data.toList = l) : t.size = l.length := by rw [← bytes_size, h]

set_option maxRecDepth 1000000 in
set_option maxHeartbeats 8000000 in
theorem refShow_any (u v : Value) (S : Syms) (P : List Thr) (w : World) (hS : SymRow w u S) (hP : ThrRow w v P) (f : FineP S P) (hlen : (progL S P).length ≤ 10000000) :
    Calls Tryd.prog 7 #[.agg #[u, v]] w fun e w' => e = .returned (.string ⟨(progL S P).toArray⟩) ∧ Later w w' := by
  obtain ⟨p, cap, rfl, h1, h2⟩ := hS.slice
  obtain ⟨p', cap', rfl, h1', h2'⟩ := RowIn.slice hP
  unfold maxLen at h2 h2'
  have LL := Later.alloc (Later.refl w) (.cells #[.slice p S.length cap, .slice p' P.length cap'] 28)
  have HB := at_new w (.cells #[.slice p S.length cap, .slice p' P.length cap'] 28)
  have HS : Hid (SymRow w (.slice p S.length cap) S) := hS
  have HP : Hid (ThrRow w (.slice p' P.length cap') P) := hP
  have HF : Hid (FineP S P) := f
  have cC := refCheck_any (.slice p S.length cap) (.slice p' P.length cap') S P _ (SymRow.kept hS LL.kept) (ThrRow.kept hP LL.kept) f
  clear hS hP f
  by_cases hc : checkC S P = 0
  · have HPL : Hid (progL S P = symsL S ++ thrsL (namesOf S) P) := progL_yes hc
    obtain ⟨h64, h65⟩ := check_small hc
    rw [hc] at cC
    rw [HPL.out, List.length_append] at hlen
    clear hc
    go_enter Tryd.func7, Tryd.ntmps7
    go_upto_region 1 with (fail)
    generalize w.alloc (.cells #[.slice p S.length cap, .slice p' P.length cap'] 28) = W at *
    generalize hC : w.heap.size = C at *
    obtain ⟨b0, b1, -⟩ := box2_facts HB
    go_upto_region 3 with (go_at_call 17; apply Calls.mono; (focus (with_reducible (exact cC))); rintro e w0 ⟨rfl, hl0⟩)
    replace HB := heap_later hl0 HB
    replace LL := LL.trans hl0
    clear b0 b1 cC hl0
    replace HS : Hid (SymRow w0 (.slice p S.length cap) S) := SymRow.kept HS.out LL.kept
    replace HP : Hid (ThrRow w0 (.slice p' P.length cap') P) := ThrRow.kept HP.out LL.kept
    obtain ⟨e0, e1, -⟩ := box2_facts HB
    go_wp2
    go_loopw [3, 4] (fun vs vi wr => ∃ (i : Nat) (t : ByteArray), vs = .string t ∧ vi = .int .i64 (i : Nat) ∧ i ≤ S.length ∧ Hid (Later w0 wr ∧ t.data.toList = symsL (S.take i))) (fun _ vi _ => S.length - (intOf vi).toNat)
    case atStart => exact ⟨0, _, rfl, rfl, by omega, Later.refl _, by simp [symsL]⟩
    case round =>
      obtain ⟨i, t, rfl, rfl, hi, hrr⟩ := hrel
      obtain ⟨w6, rfl⟩ : ∃ w6, w6 = wr := ⟨_, rfl⟩
      obtain ⟨Lr, ht0⟩ := hrr.out
      clear hrr e0 e1
      obtain ⟨e0, e1, -⟩ := box2_facts (heap_later Lr HB)
      by_cases h8 : i < S.length
      · as_aux_lemma =>
        obtain ⟨⟨s, L⟩, ht⟩ : ∃ t, S[i]? = some t := ⟨_, List.getElem?_eq_getElem h8⟩
        have hns : s.name.size ≤ 1000 := HF.out.syms _ (List.mem_of_getElem? ht)
        obtain ⟨g, o, rfl, -, h64s, hin, c0, c1, c2⟩ := (SymRow.kept HS.out Lr.kept).get ht
        have e3 := syms_next ht
        have e4 := syms_le S (i + 1)
        rw [e3, List.length_append, symL_eq] at e4
        simp only [List.length_append] at e4
        rw [symL_eq] at e3
        have cN := fun w' => refText_any s.size h64s.1 h64s.2 w'
        have sN := txt_size s.size h64s.1 h64s.2
        obtain ⟨name, size, init⟩ := s
        dsimp only at *
        obtain ⟨q, dap, hlb, hqd, hqm⟩ := RowIn.slice hin
        subst hlb
        unfold maxLen at hqm
        have hts := size_of ht0
        have hh : symH ⟨name, size, .slice q L.length dap⟩ = ((⟨#[115, 121, 109, 32]⟩ : ByteArray) ++ name ++ ⟨#[32]⟩ ++ txt size).data.toList := by simp [symH]
        rw [hh] at e3 e4
        generalize txt size = X at *
        have HE : Hid (symsL (S.take (i + 1)) = symsL (S.take i) ++ (((⟨#[115, 121, 109, 32]⟩ : ByteArray) ++ name ++ ⟨#[32]⟩ ++ X).data.toList ++ numsL L ++ [10])) := e3
        have HT0 : Hid (t.data.toList = symsL (S.take i)) := ht0
        have hsize : t.size + (numsL L).length + 1 ≤ 10000000 := by simp only [List.length_cons, List.length_nil] at e4; omega
        rw [bytes_size] at e4
        have hsz3 : t.size + ((⟨#[115, 121, 109, 32]⟩ : ByteArray) ++ name ++ ⟨#[32]⟩ ++ X).size + (numsL L).length + 1 ≤ 10000000 := by simp only [List.length_cons, List.length_nil] at e4; omega
        have HTT : Hid (S[i]? = some (⟨name, size, .slice q L.length dap⟩, L)) := ht
        have HI : Hid (IntsIn w6 (.slice q L.length dap) L) := hin
        clear ht e3 e4 hh ht0 hts h64s hin
        go_upto_region 7 with (fail)
        have m0 := fun p : After w6 => cell_after e0 p
        have n0 := fun p : After w6 => cell_after c0 p
        have n1 := fun p : After w6 => cell_after c1 p
        have ne : Nonempty (After w6) := ⟨⟨w6, Later.refl w6⟩⟩
        clear e0 e1 c0 c1 c2
        refine wp_region_later (by kernel_rfl) (by kernel_rfl) ?_
        repeat (first | go_big_quiet_step (((go_at_call 27; with_reducible (exact Calls.after_of (cN _))))) | quiet_step (((go_at_call 27; with_reducible (exact Calls.after_of (cN _))))))
        refine wpQuiet_nil ?_
        intro _ hw'
        obtain ⟨z, hw''⟩ := hw'
        subst hw''
        have LZ := Lr.trans z.later
        generalize z.world = wz at *
        clear m0 n0 n1 ne cN
        have HH : Hid ((t ++ ((⟨#[115, 121, 109, 32]⟩ : ByteArray) ++ name ++ ⟨#[32]⟩ ++ X)).data.toList = symsL (S.take i) ++ ((⟨#[115, 121, 109, 32]⟩ : ByteArray) ++ name ++ ⟨#[32]⟩ ++ X).data.toList) := by show _ = _; rw [bytes_app, HT0.out]
        have hs4 : (t ++ ((⟨#[115, 121, 109, 32]⟩ : ByteArray) ++ name ++ ⟨#[32]⟩ ++ X)).size + (numsL L).length + 1 ≤ 10000000 := by rw [ByteArray.size_append]; exact hsz3
        generalize t ++ ((⟨#[115, 121, 109, 32]⟩ : ByteArray) ++ name ++ ⟨#[32]⟩ ++ X) = t2 at *
        go_wp2
        go_loopw [3, 5] (fun vs vk wy => ∃ (k : Nat) (t' : ByteArray), vs = .string t' ∧ vk = .int .i64 (k : Nat) ∧ k ≤ L.length ∧ Hid (Later w0 wy ∧ t'.data.toList = t2.data.toList ++ numsL (L.take k))) (fun _ vk _ => L.length - (intOf vk).toNat)
        case atStart => exact ⟨0, _, rfl, rfl, by omega, LZ, by simp [numsL]⟩
        case round =>
          obtain ⟨k, t', rfl, rfl, hk, hrr⟩ := hrel
          obtain ⟨Ly, ht1⟩ := hrr.out
          clear hrr
          obtain ⟨e0, e1, -⟩ := box2_facts (heap_later Ly HB)
          obtain ⟨g', o', hg', -, -, hin, c0, c1, c2⟩ := (SymRow.kept HS.out Ly.kept).get HTT.out
          cases hg'
          dsimp only at c0 c1 c2 hin
          by_cases h9 : k < L.length
          · obtain ⟨n, htk⟩ : ∃ n, L[k]? = some n := ⟨_, List.getElem?_eq_getElem h9⟩
            obtain ⟨g2, o2, rfl, hn64, c3⟩ := IntsIn.get hin htk
            have cN := fun w' => refText_any n hn64.1 hn64.2 w'
            have sN := txt_size n hn64.1 hn64.2
            have e5 := nums_next htk
            have e6 := nums_le L (k + 1)
            have hxx : ([32] : List UInt8) ++ (txt n).data.toList = ((⟨#[32]⟩ : ByteArray) ++ txt n).data.toList := by simp
            rw [hxx] at e5
            rw [e5, List.length_append, bytes_size] at e6
            generalize txt n = X2 at *
            have HE5 : Hid (numsL (L.take (k + 1)) = numsL (L.take k) ++ ((⟨#[32]⟩ : ByteArray) ++ X2).data.toList) := e5
            have hs5 := size_of ht1
            rw [List.length_append, bytes_size] at hs5
            have hs6 : t'.size + ((⟨#[32]⟩ : ByteArray) ++ X2).size ≤ 10000000 := by omega
            have HT1 : Hid (t'.data.toList = t2.data.toList ++ numsL (L.take k)) := ht1
            clear e5 e6 hxx hs5 ht1 htk hin
            go_wp2_with (go_at_call 27; apply Calls.mono; (focus (with_reducible (exact cN _))); rintro e w2 ⟨rfl, hl2⟩)
            go_roundw
            case rel => exact ⟨k + 1, _, rfl, by go_num, by omega, Ly.trans hl2, by rw [bytes_app, HT1.out, HE5.out, List.append_assoc]⟩
            case measure => simp [intOf]; omega
          · obtain rfl : k = L.length := by omega
            rw [List.take_length] at ht1
            have hs5 := size_of ht1
            rw [List.length_append, bytes_size] at hs5
            have HT1 : Hid (t'.data.toList = t2.data.toList ++ numsL L) := ht1
            clear ht1 hin
            go_wp2
            go_roundw
            case rel => exact ⟨i + 1, _, rfl, by go_num, by omega, Ly, by rw [bytes_app, HT1.out, HH.out, HE.out]; simp only [List.append_assoc]⟩
            case measure => simp [intOf]; omega
      · obtain rfl : i = S.length := by omega
        rw [List.take_length] at ht0
        have HT0 : Hid (t.data.toList = symsL S) := ht0
        have hts := size_of ht0
        have cN := refSymNames_any (.slice p S.length cap) (.slice p' P.length cap') ⟨_, _, _, rfl⟩ S (by omega) w6 (SymRow.kept HS.out Lr.kept)
        go_upto_region 14 with (go_at_call 28; apply Calls.mono; (focus (with_reducible (exact cN))); rintro e W5 ⟨vn, rfl, hn5, hl5⟩)
        have L5 := Lr.trans hl5
        obtain ⟨an, cn, rfl, -⟩ := hn5.row
        clear e0 e1
        have hNl : (namesOf S).length ≤ 1000 := by simp [namesOf]; omega
        have hNs := names_fine HF.out.syms
        generalize hN : namesOf S = N at *
        have HN : Hid (namesOf S = N) := hN
        have HNS : Hid (∀ t ∈ N, t.size ≤ 1000) := hNs
        generalize w6.heap.size = D at *
        clear Lr hl5 cN hN hNs ht0
        obtain ⟨e0, e1, -⟩ := box2_facts (heap_later L5 HB)
        go_wp2
        go_loopw [3, 7] (fun vs vi wy => ∃ (i : Nat) (t : ByteArray), vs = .string t ∧ vi = .int .i64 (i : Nat) ∧ i ≤ P.length ∧ Hid (Later w0 wy ∧ OwnNames wy D (.slice an N.length cn) N ∧ t.data.toList = symsL S ++ thrsL N (P.take i))) (fun _ vi _ => P.length - (intOf vi).toNat)
        case atStart => exact ⟨0, _, rfl, rfl, by omega, L5, hn5, by simpa [thrsL] using HT0.out⟩
        case round =>
          clear e0 e1 L5 hn5 HT0 hts
          obtain ⟨i, t, rfl, rfl, hi, hrr⟩ := hrel
          obtain ⟨w7, rfl⟩ : ∃ w7, w7 = wr := ⟨_, rfl⟩
          obtain ⟨Ly, Ny, ht0⟩ := hrr.out
          clear hrr
          obtain ⟨e0, e1, -⟩ := box2_facts (heap_later Ly HB)
          by_cases h9 : i < P.length
          · as_aux_lemma =>
            obtain ⟨T, ht⟩ : ∃ t, P[i]? = some t := ⟨_, List.getElem?_eq_getElem h9⟩
            have hfT := HF.out.threads _ (List.mem_of_getElem? ht)
            have HTT : Hid (P[i]? = some T) := ht
            have e3 := thrs_next (N := N) ht
            have e4 := thrs_le N P (i + 1)
            rw [e3, List.length_append, thrL_eq, List.length_append] at e4
            rw [thrL_eq] at e3
            have hle7 : ([116, 104, 114, 101, 97, 100, 10] : List UInt8).length = 7 := rfl
            have hsz7 : (⟨#[116, 104, 114, 101, 97, 100, 10]⟩ : ByteArray).size = 7 := rfl
            have hts := size_of ht0
            rw [List.length_append] at hts
            rw [hle7] at e4
            have HE : Hid ((t ++ (⟨#[116, 104, 114, 101, 97, 100, 10]⟩ : ByteArray)).data.toList ++ inssL N T = symsL S ++ thrsL N (P.take (i + 1))) := by
              show _ = _
              rw [bytes_app, ht0, e3]
              simp only [List.append_assoc]
            have hs2 : (t ++ (⟨#[116, 104, 114, 101, 97, 100, 10]⟩ : ByteArray)).size + (inssL N T).length ≤ 10000000 := by rw [ByteArray.size_append, hsz7]; omega
            have hs3 : t.size ≤ 10000000 := by omega
            have HD : Hid (∀ x ∈ T, x.1.dest.size ≤ 1000) := hfT.dest
            have HL : Hid (∀ x ∈ T, ∀ t ∈ x.2, t.size ≤ 1000) := hfT.labels
            obtain ⟨g, o, vt, rfl, hT, c0⟩ := ThrRow.get HP.out ht
            have HC0 : Hid (w0.cell? ⟨g, o + i, none⟩ = some vt) := c0
            obtain ⟨q, dap, hlb, hqd, hqm⟩ := RowIn.slice hT
            subst hlb
            unfold maxLen at hqm
            have HT : Hid (InsRow w0 (.slice q T.length dap) T) := hT
            clear ht e3 e4 hts hfT hT c0 ht0
            go_upto_region 17 with (fail)
            generalize ht2 : t ++ (⟨#[116, 104, 114, 101, 97, 100, 10]⟩ : ByteArray) = t2 at *
            have HT2 : Hid (t ++ (⟨#[116, 104, 114, 101, 97, 100, 10]⟩ : ByteArray) = t2) := ht2
            clear ht2
            go_wp2
            go_loopw [3, 8] (fun vs vk wz => ∃ (k : Nat) (t' : ByteArray), vs = .string t' ∧ vk = .int .i64 (k : Nat) ∧ k ≤ T.length ∧ Hid (Later w0 wz ∧ OwnNames wz D (.slice an N.length cn) N ∧ t'.data.toList = t2.data.toList ++ inssL N (T.take k))) (fun _ vk _ => T.length - (intOf vk).toNat)
            case atStart => exact ⟨0, _, rfl, rfl, by omega, Ly, Ny, by rw [HT2.out]; simp [inssL]⟩
            case round =>
              clear e0 e1 Ly Ny
              obtain ⟨k, t', rfl, rfl, hk, hrr⟩ := hrel
              obtain ⟨w8, rfl⟩ : ∃ w8, w8 = wr := ⟨_, rfl⟩
              obtain ⟨Lz, Nz, ht1⟩ := hrr.out
              clear hrr
              obtain ⟨e0, e1, -⟩ := box2_facts (heap_later Lz HB)
              have c0 := cell_later HC0.out Lz
              by_cases h10 : k < T.length
              · as_aux_lemma =>
                obtain ⟨⟨x, L⟩, htx⟩ : ∃ t, T[k]? = some t := ⟨_, List.getElem?_eq_getElem h10⟩
                have hmem := List.mem_of_getElem? htx
                have hxd := HD.out _ hmem
                have hxl := HL.out _ hmem
                obtain ⟨g1, o1, rfl, ok, ti, f0, f1, f2, f3, f4, f5, f6, f7, f8, f9, f10, f11, f12⟩ := InsRow.get HT.out htx
                replace f0 := cell_later f0 Lz
                replace f1 := cell_later f1 Lz
                replace f2 := cell_later f2 Lz
                replace f3 := cell_later f3 Lz
                replace f4 := cell_later f4 Lz
                replace f5 := cell_later f5 Lz
                replace f6 := cell_later f6 Lz
                replace f7 := cell_later f7 Lz
                replace f8 := cell_later f8 Lz
                replace f9 := cell_later f9 Lz
                replace f10 := cell_later f10 Lz
                replace f11 := cell_later f11 Lz
                replace f12 := cell_later f12 Lz
                have cI := fun a cap w' h2 => refShowIns_any x ok hxd N hNl HNS.out a cap w' h2
                have e3 := inss_next (N := N) htx
                have e4 := inss_le N T (k + 1)
                rw [e3] at e4
                obtain ⟨lp, lc, hlv, hl1, hl2, hl3, hl4⟩ := ti
                have sI := insT_size x ok.a.2.2.2 ok.b.2.2.2 N 1000 HNS.out hxd
                generalize insT x N = Z at *
                have hz : [9] ++ Z.data.toList ++ [10] = ((⟨#[9]⟩ : ByteArray) ++ Z ++ ⟨#[10]⟩).data.toList := by simp
                rw [hz] at e3 e4
                have hts := size_of ht1
                rw [List.length_append, bytes_size] at hts
                simp only [List.length_append, bytes_size] at e4
                have HE1 : Hid (inssL N (T.take (k + 1)) = inssL N (T.take k) ++ (labsL L ++ ((⟨#[9]⟩ : ByteArray) ++ Z ++ ⟨#[10]⟩).data.toList)) := e3
                have hs5 : t'.size + (labsL L).length + ((⟨#[9]⟩ : ByteArray) ++ Z ++ ⟨#[10]⟩).size ≤ 10000000 := by omega
                have HT1 : Hid (t'.data.toList = t2.data.toList ++ inssL N (T.take k)) := ht1
                obtain ⟨op, lock, cond, ⟨ak, ar, ay, an'⟩, ⟨bk, br, bs, bn'⟩, dest, lb⟩ := x
                unfold Ins.val Ins.cells at *
                dsimp only at *
                subst hlv
                have LB := Later.alloc (Later.refl w8) (.cells #[.int .i64 op, .bool lock, .int .i64 cond, .int .i64 ak, .int .i64 ar, .int .i64 ay, .int .i64 an', .int .i64 bk, .int .i64 br, .int .i64 bs, .int .i64 bn', .string dest, .slice lp L.length lc] 54)
                have HX := at_new w8 (.cells #[.int .i64 op, .bool lock, .int .i64 cond, .int .i64 ak, .int .i64 ar, .int .i64 ay, .int .i64 an', .int .i64 bk, .int .i64 br, .int .i64 bs, .int .i64 bn', .string dest, .slice lp L.length lc] 54)
                have HT4 : Hid (L ≠ [] → ∃ g o, lp = some ⟨g, o, none⟩ ∧ ∀ i t, L[i]? = some t → w0.cell? ⟨g, o + i, none⟩ = some (.string t)) := hl4
                have LX := Lz.trans LB
                have NX : OwnNames _ D (.slice an N.length cn) N := ownsC_later Nz LB
                have hl2' : lc ≤ 2 ^ 63 - 1 := hl2
                clear e3 e4 hz htx hmem ok hl4 hl3 LB Nz hl2 hts ht1
                go_upto_region 22 with (fail)
                generalize w8.alloc (.cells #[.int .i64 op, .bool lock, .int .i64 cond, .int .i64 ak, .int .i64 ar, .int .i64 ay, .int .i64 an', .int .i64 bk, .int .i64 br, .int .i64 bs, .int .i64 bn', .string dest, .slice lp L.length lc] 54) = X at *
                generalize w8.heap.size = E at *
                clear f0 f1 f2 f3 f4 f5 f6 f7 f8 f9 f10 f11 f12 e0 e1 c0
                go_wp2
                go_loopw [3, 10] (fun vs vj wq => ∃ (j : Nat) (t5 : ByteArray), vs = .string t5 ∧ vj = .int .i64 (j : Nat) ∧ j ≤ L.length ∧ Hid (Later w0 wq ∧ OwnNames wq D (.slice an N.length cn) N ∧ wq.heap[E]? = some (.cells #[.int .i64 op, .bool lock, .int .i64 cond, .int .i64 ak, .int .i64 ar, .int .i64 ay, .int .i64 an', .int .i64 bk, .int .i64 br, .int .i64 bs, .int .i64 bn', .string dest, .slice lp L.length lc] 54) ∧ t5.data.toList = t'.data.toList ++ labsL (L.take j))) (fun _ vj _ => L.length - (intOf vj).toNat)
                case atStart => exact ⟨0, _, rfl, rfl, by omega, LX, NX, HX, by simp [labsL]⟩
                case round =>
                  obtain ⟨j, t5, rfl, rfl, hj, hrr⟩ := hrel
                  clear LX NX HX
                  obtain ⟨Lq, Nq, HX, ht5⟩ := hrr.out
                  clear hrr
                  obtain ⟨d0, d1, d2, d3, d4, d5, d6, d7, d8, d9, d10, d11, d12⟩ := box13_facts HX
                  have hts5 := size_of ht5
                  rw [List.length_append, bytes_size] at hts5
                  by_cases h11 : j < L.length
                  · obtain ⟨y, htj⟩ : ∃ t, L[j]? = some t := ⟨_, List.getElem?_eq_getElem h11⟩
                    obtain ⟨g', o', rfl, h5⟩ := HT4.out (by rintro rfl; simp at h11)
                    have hcj := cell_later (h5 j y htj) Lq
                    have hy := hxl y (List.mem_of_getElem? htj)
                    have e5 := labs_next htj
                    have e6 := labs_le L (j + 1)
                    rw [e5, List.length_append, bytes_size] at e6
                    have HE5 : Hid (labsL (L.take (j + 1)) = labsL (L.take j) ++ (y ++ (⟨#[58, 10]⟩ : ByteArray)).data.toList) := e5
                    have HT5 : Hid (t5.data.toList = t'.data.toList ++ labsL (L.take j)) := ht5
                    have hs7 : t5.size + (y ++ (⟨#[58, 10]⟩ : ByteArray)).size ≤ 10000000 := by omega
                    clear e5 e6 htj h5 ht5 hts5
                    go_wp2
                    go_roundw
                    case rel => exact ⟨j + 1, _, rfl, by go_num, by omega, Lq, Nq, HX, by rw [bytes_app, HT5.out, HE5.out, List.append_assoc]⟩
                    case measure => simp [intOf]; omega
                  · obtain rfl : j = L.length := by omega
                    rw [List.take_length] at ht5 hts5
                    have HT5 : Hid (t5.data.toList = t'.data.toList ++ labsL L) := ht5
                    have cJ := cI an cn _ Nq.crow
                    have hs7 : t5.size + ((⟨#[9]⟩ : ByteArray) ++ Z ++ ⟨#[10]⟩).size ≤ 10000000 := by omega
                    clear ht5 hts5 HT4 cI
                    go_wp2_with (go_at_call 29; apply Calls.mono; (focus (with_reducible (exact cJ))); rintro e w1 ⟨rfl, hl1⟩)
                    go_roundw
                    case rel => exact ⟨k + 1, _, rfl, by go_num, by omega, Lq.trans hl1, ownsC_later Nq hl1, by rw [bytes_app, HT5.out, HT1.out, HE1.out]; simp only [List.append_assoc]⟩
                    case measure => simp [intOf]; omega
              · obtain rfl : k = T.length := by omega
                rw [List.take_length] at ht1
                have HT1 : Hid (t'.data.toList = t2.data.toList ++ inssL N T) := ht1
                clear ht1
                go_wp2
                go_roundw
                case rel => exact ⟨i + 1, _, rfl, by go_num, by omega, Lz, Nz, by rw [HT1.out, HE.out]⟩
                case measure => simp [intOf]; omega
          · obtain rfl : i = P.length := by omega
            rw [List.take_length] at ht0
            have HM : Hid (t = ⟨(progL S P).toArray⟩) := by
              show _ = _
              apply bytes_ext
              rw [ht0, HPL.out]
            clear ht0
            go_wp2
            go_ret
            exact ⟨by rw [← HM.out]; rfl, LL.trans Ly⟩
  · have HPL : Hid (progL S P = []) := by show _ = _; unfold progL; rw [if_neg hc]
    have hc' : (checkC S P != 0) = true := by simpa using hc
    generalize checkC S P = R at *
    clear hc
    go_enter Tryd.func7, Tryd.ntmps7
    go_upto_region 1 with (fail)
    generalize w.alloc (.cells #[.slice p S.length cap, .slice p' P.length cap'] 28) = W at *
    obtain ⟨b0, b1, -⟩ := box2_facts HB
    go_wp2_with (go_at_call 17; apply Calls.mono; (focus (with_reducible (exact cC))); rintro e w0 ⟨rfl, hl0⟩)
    go_ret
    exact ⟨by rw [HPL.out]; rfl, LL.trans hl0⟩

end Go.Proofs.YtfgnogdlkhagdaaDoor
