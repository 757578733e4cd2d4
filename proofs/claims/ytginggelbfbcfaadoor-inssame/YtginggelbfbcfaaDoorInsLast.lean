/-
  What Parts and Leads return of an instruction, the document's own and package ins's. Nothing that was in memory turns. Conditions: the listed tables stand as the program's text lays them; its name has at most 1000 bytes.
-/
import Derived.Test.YtginggelbfbcfaaDoorInsMore
import Derived.Deep.RegionHeld3
namespace Go.Proofs.YtginggelbfbcfaaDoor
open Go.RowKit
set_option linter.unusedVariables false
set_option linter.unusedSimpArgs false

set_option maxRecDepth 1000000 in
set_option maxHeartbeats 4000000 in
theorem refParts_any (x : Ins) (hd : x.dest.size ≤ 1000000) (w : World) :
    Calls Tryd.prog 29 #[x.val] w fun e w' => e = .returned (.int .i64 (partsF x)) ∧ Later w w' := by
  have cI := fun w' => refInsRight_any x hd w'
  have cR := fun w' => refReads_any x hd w'
  have cW := fun w' => refWrites_any x hd w'
  have cL := fun w' => refLocked_any x hd w'
  unfold partsF
  generalize insF x = R at *
  generalize readsF x = ro at *
  generalize writesF x = wo at *
  generalize lockedF x = lo at *
  obtain ⟨ro, rb⟩ := ro
  obtain ⟨wo, wb⟩ := wo
  obtain ⟨op, lock, cond, ⟨ak, ar, ay, an⟩, ⟨bk, br, bs, bn⟩, dest, lb⟩ := x
  clear hd
  unfold Ins.val Ins.cells Opd.val at *
  dsimp only at *
  have LL := Later.alloc (Later.refl w) (.cells #[.int .i64 op, .bool lock, .int .i64 cond, .int .i64 ak, .int .i64 ar, .int .i64 ay, .int .i64 an, .int .i64 bk, .int .i64 br, .int .i64 bs, .int .i64 bn, .string dest, lb] 26)
  have HB := at_new w (.cells #[.int .i64 op, .bool lock, .int .i64 cond, .int .i64 ak, .int .i64 ar, .int .i64 ay, .int .i64 an, .int .i64 bk, .int .i64 br, .int .i64 bs, .int .i64 bn, .string dest, lb] 26)
  go_enter Tryd.func29, Tryd.ntmps29
  go_upto_region 1 with (fail)
  obtain ⟨b0, b1, b2, b3, b4, b5, b6, b7, b8, b9, b10, b11, b12⟩ := box13_facts HB
  generalize w.alloc (.cells #[.int .i64 op, .bool lock, .int .i64 cond, .int .i64 ak, .int .i64 ar, .int .i64 ay, .int .i64 an, .int .i64 bk, .int .i64 br, .int .i64 bs, .int .i64 bn, .string dest, lb] 26) = W at *
  rcases Decidable.em (R = 0) with rfl | hR
  · go_upto_region 4 with (first | (go_at_call 26; apply Calls.mono; (focus (with_reducible (exact cI _))); rintro e wn ⟨rfl, hl⟩; replace HB := heap_later hl HB; replace LL := Later.trans LL hl; obtain ⟨b0, b1, b2, b3, b4, b5, b6, b7, b8, b9, b10, b11, b12⟩ := box13_facts HB) | (go_at_call 23; apply Calls.mono; (focus (with_reducible (exact cR _))); rintro e wn ⟨rfl, hl⟩; replace HB := heap_later hl HB; replace LL := Later.trans LL hl; obtain ⟨b0, b1, b2, b3, b4, b5, b6, b7, b8, b9, b10, b11, b12⟩ := box13_facts HB) | (go_at_call 24; apply Calls.mono; (focus (with_reducible (exact cW _))); rintro e wn ⟨rfl, hl⟩; replace HB := heap_later hl HB; replace LL := Later.trans LL hl; obtain ⟨b0, b1, b2, b3, b4, b5, b6, b7, b8, b9, b10, b11, b12⟩ := box13_facts HB) | (go_at_call 27; apply Calls.mono; (focus (with_reducible (exact cL _))); rintro e wn ⟨rfl, hl⟩; replace HB := heap_later hl HB; replace LL := Later.trans LL hl; obtain ⟨b0, b1, b2, b3, b4, b5, b6, b7, b8, b9, b10, b11, b12⟩ := box13_facts HB))
    have HN := Later.alloc (Later.refl wn) (.cells #[.int .i64 ro.kind, .int .i64 ro.reg, .int .i64 ro.sym, .int .i64 ro.n] 23)
    generalize wn.alloc (.cells #[.int .i64 ro.kind, .int .i64 ro.reg, .int .i64 ro.sym, .int .i64 ro.n] 23) = W2 at *
    replace HB := heap_later HN HB
    replace LL := Later.trans LL HN
    
    obtain ⟨b0, b1, b2, b3, b4, b5, b6, b7, b8, b9, b10, b11, b12⟩ := box13_facts HB
    clear HN
    go_upto_region 5 with (first | (go_at_call 26; apply Calls.mono; (focus (with_reducible (exact cI _))); rintro e wn ⟨rfl, hl⟩; replace HB := heap_later hl HB; replace LL := Later.trans LL hl; obtain ⟨b0, b1, b2, b3, b4, b5, b6, b7, b8, b9, b10, b11, b12⟩ := box13_facts HB) | (go_at_call 23; apply Calls.mono; (focus (with_reducible (exact cR _))); rintro e wn ⟨rfl, hl⟩; replace HB := heap_later hl HB; replace LL := Later.trans LL hl; obtain ⟨b0, b1, b2, b3, b4, b5, b6, b7, b8, b9, b10, b11, b12⟩ := box13_facts HB) | (go_at_call 24; apply Calls.mono; (focus (with_reducible (exact cW _))); rintro e wn ⟨rfl, hl⟩; replace HB := heap_later hl HB; replace LL := Later.trans LL hl; obtain ⟨b0, b1, b2, b3, b4, b5, b6, b7, b8, b9, b10, b11, b12⟩ := box13_facts HB) | (go_at_call 27; apply Calls.mono; (focus (with_reducible (exact cL _))); rintro e wn ⟨rfl, hl⟩; replace HB := heap_later hl HB; replace LL := Later.trans LL hl; obtain ⟨b0, b1, b2, b3, b4, b5, b6, b7, b8, b9, b10, b11, b12⟩ := box13_facts HB))
    have HN := Later.alloc (Later.refl wn) (.cells #[.int .i64 wo.kind, .int .i64 wo.reg, .int .i64 wo.sym, .int .i64 wo.n] 23)
    generalize wn.alloc (.cells #[.int .i64 wo.kind, .int .i64 wo.reg, .int .i64 wo.sym, .int .i64 wo.n] 23) = W2 at *
    replace HB := heap_later HN HB
    replace LL := Later.trans LL HN
    
    obtain ⟨b0, b1, b2, b3, b4, b5, b6, b7, b8, b9, b10, b11, b12⟩ := box13_facts HB
    clear HN
    cases rb <;> cases wb <;> cases lo
    all_goals go_wp2_with (first | (go_at_call 26; apply Calls.mono; (focus (with_reducible (exact cI _))); rintro e wn ⟨rfl, hl⟩; replace HB := heap_later hl HB; replace LL := Later.trans LL hl; obtain ⟨b0, b1, b2, b3, b4, b5, b6, b7, b8, b9, b10, b11, b12⟩ := box13_facts HB) | (go_at_call 23; apply Calls.mono; (focus (with_reducible (exact cR _))); rintro e wn ⟨rfl, hl⟩; replace HB := heap_later hl HB; replace LL := Later.trans LL hl; obtain ⟨b0, b1, b2, b3, b4, b5, b6, b7, b8, b9, b10, b11, b12⟩ := box13_facts HB) | (go_at_call 24; apply Calls.mono; (focus (with_reducible (exact cW _))); rintro e wn ⟨rfl, hl⟩; replace HB := heap_later hl HB; replace LL := Later.trans LL hl; obtain ⟨b0, b1, b2, b3, b4, b5, b6, b7, b8, b9, b10, b11, b12⟩ := box13_facts HB) | (go_at_call 27; apply Calls.mono; (focus (with_reducible (exact cL _))); rintro e wn ⟨rfl, hl⟩; replace HB := heap_later hl HB; replace LL := Later.trans LL hl; obtain ⟨b0, b1, b2, b3, b4, b5, b6, b7, b8, b9, b10, b11, b12⟩ := box13_facts HB))
    all_goals go_ret
    all_goals exact ⟨ret_int (by simp), LL⟩
  · have hR' : (R != 0) = true := by simp; exact hR
    go_wp2_with (first | (go_at_call 26; apply Calls.mono; (focus (with_reducible (exact cI _))); rintro e wn ⟨rfl, hl⟩; replace HB := heap_later hl HB; replace LL := Later.trans LL hl; obtain ⟨b0, b1, b2, b3, b4, b5, b6, b7, b8, b9, b10, b11, b12⟩ := box13_facts HB) | (go_at_call 23; apply Calls.mono; (focus (with_reducible (exact cR _))); rintro e wn ⟨rfl, hl⟩; replace HB := heap_later hl HB; replace LL := Later.trans LL hl; obtain ⟨b0, b1, b2, b3, b4, b5, b6, b7, b8, b9, b10, b11, b12⟩ := box13_facts HB) | (go_at_call 24; apply Calls.mono; (focus (with_reducible (exact cW _))); rintro e wn ⟨rfl, hl⟩; replace HB := heap_later hl HB; replace LL := Later.trans LL hl; obtain ⟨b0, b1, b2, b3, b4, b5, b6, b7, b8, b9, b10, b11, b12⟩ := box13_facts HB) | (go_at_call 27; apply Calls.mono; (focus (with_reducible (exact cL _))); rintro e wn ⟨rfl, hl⟩; replace HB := heap_later hl HB; replace LL := Later.trans LL hl; obtain ⟨b0, b1, b2, b3, b4, b5, b6, b7, b8, b9, b10, b11, b12⟩ := box13_facts HB))
    go_ret
    exact ⟨ret_int (by simp [hR]), LL⟩

set_option maxRecDepth 1000000 in
set_option maxHeartbeats 4000000 in
theorem refLeads_any (x : Ins) (hd : x.dest.size ≤ 1000000) (w : World) :
    Calls Tryd.prog 25 #[x.val] w fun e w' => e = .returned (.tuple #[.bool (leadsF x).1, .bool (leadsF x).2]) ∧ Later w w' := by
  have cI := fun w' => refInsRight_any x hd w'
  have cJ := fun w' => refJumps_any x.op w'
  unfold leadsF
  generalize insF x = R at *
  generalize jumpsF x.op = ju at *
  obtain ⟨op, lock, cond, ⟨ak, ar, ay, an⟩, ⟨bk, br, bs, bn⟩, dest, lb⟩ := x
  clear hd
  unfold Ins.val Ins.cells at *
  dsimp only at *
  obtain ⟨P, hP⟩ : ∃ P, P = (if R ≠ 0 then (false, false) else (decide (op ≠ 10) && decide (op ≠ 14), ju)) := ⟨_, rfl⟩
  rw [← hP]
  have LL := Later.alloc (Later.refl w) (.cells #[.int .i64 op, .bool lock, .int .i64 cond, .int .i64 ak, .int .i64 ar, .int .i64 ay, .int .i64 an, .int .i64 bk, .int .i64 br, .int .i64 bs, .int .i64 bn, .string dest, lb] 26)
  have HB := at_new w (.cells #[.int .i64 op, .bool lock, .int .i64 cond, .int .i64 ak, .int .i64 ar, .int .i64 ay, .int .i64 an, .int .i64 bk, .int .i64 br, .int .i64 bs, .int .i64 bn, .string dest, lb] 26)
  go_enter Tryd.func25, Tryd.ntmps25
  go_upto_region 1 with (fail)
  obtain ⟨b0, b1, b2, b3, b4, b5, b6, b7, b8, b9, b10, b11, b12⟩ := box13_facts HB
  generalize w.alloc (.cells #[.int .i64 op, .bool lock, .int .i64 cond, .int .i64 ak, .int .i64 ar, .int .i64 ay, .int .i64 an, .int .i64 bk, .int .i64 br, .int .i64 bs, .int .i64 bn, .string dest, lb] 26) = W at *
  rcases Decidable.em (R = 0) with rfl | hR
  · simp only [ne_eq, not_true_eq_false, if_false] at hP
    subst hP
    go_upto_region 3 with (go_at_call 26; apply Calls.mono; (focus (with_reducible (exact cI _))); rintro e wn ⟨rfl, hl⟩; replace HB := heap_later hl HB; replace LL := Later.trans LL hl; obtain ⟨b0, b1, b2, b3, b4, b5, b6, b7, b8, b9, b10, b11, b12⟩ := box13_facts HB)
    rcases Decidable.em (op = 10) with rfl | h10
    · go_quiet ((go_at_call 41; exact Calls.quiet_of_same (cJ _)))
      all_goals go_wp2
      all_goals go_ret2
      all_goals exact ⟨by simp, by first | exact LL | exact Later.drew LL | exact Later.drewN LL _⟩
    · have h10' : (op != 10) = true := by simp; exact h10
      go_region_held3 (fun w' => w'.cell? ⟨w.heap.size, 0, none⟩ = some (.int .i64 op))
        ((first | with_reducible exact b0 | go_keep))
        (first | (go_at_call 41; apply Calls.mono; (focus (with_reducible (exact cJ _))); rintro e wn ⟨rfl, hr⟩; obtain rfl := hr.symm))
      all_goals go_wp2
      all_goals go_ret2
      all_goals exact ⟨by rcases Decidable.em (op = 14) with h | h <;> simp [h10, h], by first | exact LL | exact Later.drew LL⟩
  · have hR' : (R != 0) = true := by simp; exact hR
    simp only [ne_eq, hR, not_false_eq_true, if_true] at hP
    subst hP
    go_wp2_with (go_at_call 26; apply Calls.mono; (focus (with_reducible (exact cI _))); rintro e wn ⟨rfl, hl⟩; replace HB := heap_later hl HB; replace LL := Later.trans LL hl; obtain ⟨b0, b1, b2, b3, b4, b5, b6, b7, b8, b9, b10, b11, b12⟩ := box13_facts HB)
    go_ret2
    exact ⟨rfl, LL⟩

set_option maxRecDepth 1000000 in
set_option maxHeartbeats 4000000 in
theorem insParts_any (x : Ins) (hd : x.dest.size ≤ 1000) (w : World) (hG : NamesGood w) :
    Calls Tryd.prog 17 #[x.val] w fun e w' => e = .returned (.int .i64 (partsF x)) ∧ Later w w' := by
  have cI := fun w' h => insRight_any x hd w' h
  have cR := fun w' h => insReads_any x hd w' h
  have cW := fun w' h => insWrites_any x hd w' h
  have cL := fun w' h => insLocked_any x hd w' h
  unfold partsF
  generalize insF x = R at *
  generalize readsF x = ro at *
  generalize writesF x = wo at *
  generalize lockedF x = lo at *
  obtain ⟨ro, rb⟩ := ro
  obtain ⟨wo, wb⟩ := wo
  obtain ⟨op, lock, cond, ⟨ak, ar, ay, an⟩, ⟨bk, br, bs, bn⟩, dest, lb⟩ := x
  clear hd
  unfold Ins.val Ins.cells Opd.val at *
  dsimp only at *
  have LL := Later.alloc (Later.refl w) (.cells #[.int .i64 op, .bool lock, .int .i64 cond, .int .i64 ak, .int .i64 ar, .int .i64 ay, .int .i64 an, .int .i64 bk, .int .i64 br, .int .i64 bs, .int .i64 bn, .string dest, lb] 26)
  have HB := at_new w (.cells #[.int .i64 op, .bool lock, .int .i64 cond, .int .i64 ak, .int .i64 ar, .int .i64 ay, .int .i64 an, .int .i64 bk, .int .i64 br, .int .i64 bs, .int .i64 bn, .string dest, lb] 26)
  have HG := hG.later LL
  clear hG
  go_enter Tryd.func17, Tryd.ntmps17
  go_upto_region 1 with (fail)
  obtain ⟨b0, b1, b2, b3, b4, b5, b6, b7, b8, b9, b10, b11, b12⟩ := box13_facts HB
  generalize w.alloc (.cells #[.int .i64 op, .bool lock, .int .i64 cond, .int .i64 ak, .int .i64 ar, .int .i64 ay, .int .i64 an, .int .i64 bk, .int .i64 br, .int .i64 bs, .int .i64 bn, .string dest, lb] 26) = W at *
  rcases Decidable.em (R = 0) with rfl | hR
  · go_upto_region 4 with (first | (go_at_call 12; apply Calls.mono; (focus (with_reducible (exact cI _ HG))); rintro e wn ⟨rfl, hl⟩; replace HB := heap_later hl HB; replace HG := HG.later hl; replace LL := Later.trans LL hl; obtain ⟨b0, b1, b2, b3, b4, b5, b6, b7, b8, b9, b10, b11, b12⟩ := box13_facts HB) | (go_at_call 14; apply Calls.mono; (focus (with_reducible (exact cR _ HG))); rintro e wn ⟨rfl, hl⟩; replace HB := heap_later hl HB; replace HG := HG.later hl; replace LL := Later.trans LL hl; obtain ⟨b0, b1, b2, b3, b4, b5, b6, b7, b8, b9, b10, b11, b12⟩ := box13_facts HB) | (go_at_call 15; apply Calls.mono; (focus (with_reducible (exact cW _ HG))); rintro e wn ⟨rfl, hl⟩; replace HB := heap_later hl HB; replace HG := HG.later hl; replace LL := Later.trans LL hl; obtain ⟨b0, b1, b2, b3, b4, b5, b6, b7, b8, b9, b10, b11, b12⟩ := box13_facts HB) | (go_at_call 18; apply Calls.mono; (focus (with_reducible (exact cL _ HG))); rintro e wn ⟨rfl, hl⟩; replace HB := heap_later hl HB; replace HG := HG.later hl; replace LL := Later.trans LL hl; obtain ⟨b0, b1, b2, b3, b4, b5, b6, b7, b8, b9, b10, b11, b12⟩ := box13_facts HB))
    have HN := Later.alloc (Later.refl wn) (.cells #[.int .i64 ro.kind, .int .i64 ro.reg, .int .i64 ro.sym, .int .i64 ro.n] 23)
    generalize wn.alloc (.cells #[.int .i64 ro.kind, .int .i64 ro.reg, .int .i64 ro.sym, .int .i64 ro.n] 23) = W2 at *
    replace HB := heap_later HN HB
    replace LL := Later.trans LL HN
    replace HG := HG.later HN
    obtain ⟨b0, b1, b2, b3, b4, b5, b6, b7, b8, b9, b10, b11, b12⟩ := box13_facts HB
    clear HN
    go_upto_region 5 with (first | (go_at_call 12; apply Calls.mono; (focus (with_reducible (exact cI _ HG))); rintro e wn ⟨rfl, hl⟩; replace HB := heap_later hl HB; replace HG := HG.later hl; replace LL := Later.trans LL hl; obtain ⟨b0, b1, b2, b3, b4, b5, b6, b7, b8, b9, b10, b11, b12⟩ := box13_facts HB) | (go_at_call 14; apply Calls.mono; (focus (with_reducible (exact cR _ HG))); rintro e wn ⟨rfl, hl⟩; replace HB := heap_later hl HB; replace HG := HG.later hl; replace LL := Later.trans LL hl; obtain ⟨b0, b1, b2, b3, b4, b5, b6, b7, b8, b9, b10, b11, b12⟩ := box13_facts HB) | (go_at_call 15; apply Calls.mono; (focus (with_reducible (exact cW _ HG))); rintro e wn ⟨rfl, hl⟩; replace HB := heap_later hl HB; replace HG := HG.later hl; replace LL := Later.trans LL hl; obtain ⟨b0, b1, b2, b3, b4, b5, b6, b7, b8, b9, b10, b11, b12⟩ := box13_facts HB) | (go_at_call 18; apply Calls.mono; (focus (with_reducible (exact cL _ HG))); rintro e wn ⟨rfl, hl⟩; replace HB := heap_later hl HB; replace HG := HG.later hl; replace LL := Later.trans LL hl; obtain ⟨b0, b1, b2, b3, b4, b5, b6, b7, b8, b9, b10, b11, b12⟩ := box13_facts HB))
    have HN := Later.alloc (Later.refl wn) (.cells #[.int .i64 wo.kind, .int .i64 wo.reg, .int .i64 wo.sym, .int .i64 wo.n] 23)
    generalize wn.alloc (.cells #[.int .i64 wo.kind, .int .i64 wo.reg, .int .i64 wo.sym, .int .i64 wo.n] 23) = W2 at *
    replace HB := heap_later HN HB
    replace LL := Later.trans LL HN
    replace HG := HG.later HN
    obtain ⟨b0, b1, b2, b3, b4, b5, b6, b7, b8, b9, b10, b11, b12⟩ := box13_facts HB
    clear HN
    cases rb <;> cases wb <;> cases lo
    all_goals go_wp2_with (first | (go_at_call 12; apply Calls.mono; (focus (with_reducible (exact cI _ HG))); rintro e wn ⟨rfl, hl⟩; replace HB := heap_later hl HB; replace HG := HG.later hl; replace LL := Later.trans LL hl; obtain ⟨b0, b1, b2, b3, b4, b5, b6, b7, b8, b9, b10, b11, b12⟩ := box13_facts HB) | (go_at_call 14; apply Calls.mono; (focus (with_reducible (exact cR _ HG))); rintro e wn ⟨rfl, hl⟩; replace HB := heap_later hl HB; replace HG := HG.later hl; replace LL := Later.trans LL hl; obtain ⟨b0, b1, b2, b3, b4, b5, b6, b7, b8, b9, b10, b11, b12⟩ := box13_facts HB) | (go_at_call 15; apply Calls.mono; (focus (with_reducible (exact cW _ HG))); rintro e wn ⟨rfl, hl⟩; replace HB := heap_later hl HB; replace HG := HG.later hl; replace LL := Later.trans LL hl; obtain ⟨b0, b1, b2, b3, b4, b5, b6, b7, b8, b9, b10, b11, b12⟩ := box13_facts HB) | (go_at_call 18; apply Calls.mono; (focus (with_reducible (exact cL _ HG))); rintro e wn ⟨rfl, hl⟩; replace HB := heap_later hl HB; replace HG := HG.later hl; replace LL := Later.trans LL hl; obtain ⟨b0, b1, b2, b3, b4, b5, b6, b7, b8, b9, b10, b11, b12⟩ := box13_facts HB))
    all_goals go_ret
    all_goals exact ⟨ret_int (by simp), LL⟩
  · have hR' : (R != 0) = true := by simp; exact hR
    go_wp2_with (first | (go_at_call 12; apply Calls.mono; (focus (with_reducible (exact cI _ HG))); rintro e wn ⟨rfl, hl⟩; replace HB := heap_later hl HB; replace HG := HG.later hl; replace LL := Later.trans LL hl; obtain ⟨b0, b1, b2, b3, b4, b5, b6, b7, b8, b9, b10, b11, b12⟩ := box13_facts HB) | (go_at_call 14; apply Calls.mono; (focus (with_reducible (exact cR _ HG))); rintro e wn ⟨rfl, hl⟩; replace HB := heap_later hl HB; replace HG := HG.later hl; replace LL := Later.trans LL hl; obtain ⟨b0, b1, b2, b3, b4, b5, b6, b7, b8, b9, b10, b11, b12⟩ := box13_facts HB) | (go_at_call 15; apply Calls.mono; (focus (with_reducible (exact cW _ HG))); rintro e wn ⟨rfl, hl⟩; replace HB := heap_later hl HB; replace HG := HG.later hl; replace LL := Later.trans LL hl; obtain ⟨b0, b1, b2, b3, b4, b5, b6, b7, b8, b9, b10, b11, b12⟩ := box13_facts HB) | (go_at_call 18; apply Calls.mono; (focus (with_reducible (exact cL _ HG))); rintro e wn ⟨rfl, hl⟩; replace HB := heap_later hl HB; replace HG := HG.later hl; replace LL := Later.trans LL hl; obtain ⟨b0, b1, b2, b3, b4, b5, b6, b7, b8, b9, b10, b11, b12⟩ := box13_facts HB))
    go_ret
    exact ⟨ret_int (by simp [hR]), LL⟩

set_option maxRecDepth 1000000 in
set_option maxHeartbeats 4000000 in
theorem insLeads_any (x : Ins) (hd : x.dest.size ≤ 1000) (w : World) (hG : NamesGood w) :
    Calls Tryd.prog 16 #[x.val] w fun e w' => e = .returned (.tuple #[.bool (leadsF x).1, .bool (leadsF x).2]) ∧ Later w w' := by
  have cI := fun w' h => insRight_any x hd w' h
  have cJ := fun w' => insJumps_any x.op w'
  unfold leadsF
  generalize insF x = R at *
  generalize jumpsF x.op = ju at *
  obtain ⟨op, lock, cond, ⟨ak, ar, ay, an⟩, ⟨bk, br, bs, bn⟩, dest, lb⟩ := x
  clear hd
  unfold Ins.val Ins.cells at *
  dsimp only at *
  obtain ⟨P, hP⟩ : ∃ P, P = (if R ≠ 0 then (false, false) else (decide (op ≠ 10) && decide (op ≠ 14), ju)) := ⟨_, rfl⟩
  rw [← hP]
  have LL := Later.alloc (Later.refl w) (.cells #[.int .i64 op, .bool lock, .int .i64 cond, .int .i64 ak, .int .i64 ar, .int .i64 ay, .int .i64 an, .int .i64 bk, .int .i64 br, .int .i64 bs, .int .i64 bn, .string dest, lb] 26)
  have HB := at_new w (.cells #[.int .i64 op, .bool lock, .int .i64 cond, .int .i64 ak, .int .i64 ar, .int .i64 ay, .int .i64 an, .int .i64 bk, .int .i64 br, .int .i64 bs, .int .i64 bn, .string dest, lb] 26)
  have HG := hG.later LL
  clear hG
  go_enter Tryd.func16, Tryd.ntmps16
  go_upto_region 1 with (fail)
  obtain ⟨b0, b1, b2, b3, b4, b5, b6, b7, b8, b9, b10, b11, b12⟩ := box13_facts HB
  generalize w.alloc (.cells #[.int .i64 op, .bool lock, .int .i64 cond, .int .i64 ak, .int .i64 ar, .int .i64 ay, .int .i64 an, .int .i64 bk, .int .i64 br, .int .i64 bs, .int .i64 bn, .string dest, lb] 26) = W at *
  rcases Decidable.em (R = 0) with rfl | hR
  · simp only [ne_eq, not_true_eq_false, if_false] at hP
    subst hP
    go_upto_region 3 with (go_at_call 12; apply Calls.mono; (focus (with_reducible (exact cI _ HG))); rintro e wn ⟨rfl, hl⟩; replace HB := heap_later hl HB; replace HG := HG.later hl; replace LL := Later.trans LL hl; obtain ⟨b0, b1, b2, b3, b4, b5, b6, b7, b8, b9, b10, b11, b12⟩ := box13_facts HB)
    rcases Decidable.em (op = 10) with rfl | h10
    · go_quiet ((go_at_call 35; exact Calls.quiet_of_same (cJ _)))
      all_goals go_wp2
      all_goals go_ret2
      all_goals exact ⟨by simp, by first | exact LL | exact Later.drew LL | exact Later.drewN LL _⟩
    · have h10' : (op != 10) = true := by simp; exact h10
      go_region_held3 (fun w' => w'.cell? ⟨w.heap.size, 0, none⟩ = some (.int .i64 op))
        ((first | with_reducible exact b0 | go_keep))
        (first | (go_at_call 35; apply Calls.mono; (focus (with_reducible (exact cJ _))); rintro e wn ⟨rfl, hr⟩; obtain rfl := hr.symm))
      all_goals go_wp2
      all_goals go_ret2
      all_goals exact ⟨by rcases Decidable.em (op = 14) with h | h <;> simp [h10, h], by first | exact LL | exact Later.drew LL⟩
  · have hR' : (R != 0) = true := by simp; exact hR
    simp only [ne_eq, hR, not_false_eq_true, if_true] at hP
    subst hP
    go_wp2_with (go_at_call 12; apply Calls.mono; (focus (with_reducible (exact cI _ HG))); rintro e wn ⟨rfl, hl⟩; replace HB := heap_later hl HB; replace HG := HG.later hl; replace LL := Later.trans LL hl; obtain ⟨b0, b1, b2, b3, b4, b5, b6, b7, b8, b9, b10, b11, b12⟩ := box13_facts HB)
    go_ret2
    exact ⟨rfl, LL⟩

end Go.Proofs.YtginggelbfbcfaaDoor
