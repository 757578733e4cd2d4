/-
  What the statements of chapter 7 ask of one instruction: that package ins tells of it what the document tells. It is so. Nothing that was in memory turns. Conditions: the listed tables stand as the program's text lays them; its name has at most 1000 bytes.
-/
import Derived.Test.YtginggelbfbcfaaDoorInsLast
import Derived.Deep.RegionHeld3
namespace Go.Proofs.YtginggelbfbcfaaDoor
open Go.RowKit
set_option linter.unusedVariables false
set_option linter.unusedSimpArgs false

theorem tells_keep {W w' : World} {A D E F G : Nat} {op cond ak ar ay an bk br bs bn uk ur us un vk vr vs vn : Int} {lock : Bool} {dest : ByteArray} {lb : Value}
    (HB : W.heap[A]? = some (.cells #[.int .i64 op, .bool lock, .int .i64 cond, .int .i64 ak, .int .i64 ar, .int .i64 ay, .int .i64 an, .int .i64 bk, .int .i64 br, .int .i64 bs, .int .i64 bn, .string dest, lb] 26)) (HD : W.heap[D]? = some (.cells #[.int .i64 uk, .int .i64 ur, .int .i64 us, .int .i64 un] 23)) (HE : W.heap[E]? = some (.cells #[.int .i64 uk, .int .i64 ur, .int .i64 us, .int .i64 un] 23)) (HF : W.heap[F]? = some (.cells #[.int .i64 vk, .int .i64 vr, .int .i64 vs, .int .i64 vn] 23)) (HH : W.heap[G]? = some (.cells #[.int .i64 vk, .int .i64 vr, .int .i64 vs, .int .i64 vn] 23)) (h : Later W w') :
    Later W w' ∧ w'.cell? ⟨A, 0, none⟩ = some (.int .i64 op) ∧ w'.cell? ⟨A, 1, none⟩ = some (.bool lock) ∧ w'.cell? ⟨A, 2, none⟩ = some (.int .i64 cond) ∧ w'.cell? ⟨A, 3, none⟩ = some (.int .i64 ak) ∧ w'.cell? ⟨A, 4, none⟩ = some (.int .i64 ar) ∧ w'.cell? ⟨A, 5, none⟩ = some (.int .i64 ay) ∧ w'.cell? ⟨A, 6, none⟩ = some (.int .i64 an) ∧ w'.cell? ⟨A, 7, none⟩ = some (.int .i64 bk) ∧ w'.cell? ⟨A, 8, none⟩ = some (.int .i64 br) ∧ w'.cell? ⟨A, 9, none⟩ = some (.int .i64 bs) ∧ w'.cell? ⟨A, 10, none⟩ = some (.int .i64 bn) ∧ w'.cell? ⟨A, 11, none⟩ = some (.string dest) ∧ w'.cell? ⟨A, 12, none⟩ = some (lb) ∧ w'.cell? ⟨D, 0, none⟩ = some (.int .i64 uk) ∧ w'.cell? ⟨D, 1, none⟩ = some (.int .i64 ur) ∧ w'.cell? ⟨D, 2, none⟩ = some (.int .i64 us) ∧ w'.cell? ⟨D, 3, none⟩ = some (.int .i64 un) ∧ w'.cell? ⟨E, 0, none⟩ = some (.int .i64 uk) ∧ w'.cell? ⟨E, 1, none⟩ = some (.int .i64 ur) ∧ w'.cell? ⟨E, 2, none⟩ = some (.int .i64 us) ∧ w'.cell? ⟨E, 3, none⟩ = some (.int .i64 un) ∧ w'.cell? ⟨F, 0, none⟩ = some (.int .i64 vk) ∧ w'.cell? ⟨F, 1, none⟩ = some (.int .i64 vr) ∧ w'.cell? ⟨F, 2, none⟩ = some (.int .i64 vs) ∧ w'.cell? ⟨F, 3, none⟩ = some (.int .i64 vn) ∧ w'.cell? ⟨G, 0, none⟩ = some (.int .i64 vk) ∧ w'.cell? ⟨G, 1, none⟩ = some (.int .i64 vr) ∧ w'.cell? ⟨G, 2, none⟩ = some (.int .i64 vs) ∧ w'.cell? ⟨G, 3, none⟩ = some (.int .i64 vn) := by
  obtain ⟨b0, b1, b2, b3, b4, b5, b6, b7, b8, b9, b10, b11, b12⟩ := box13_facts (heap_later h HB)
  obtain ⟨d0, d1, d2, d3, -, -, -, -⟩ := box4_facts (heap_later h HD)
  obtain ⟨e0, e1, e2, e3, -, -, -, -⟩ := box4_facts (heap_later h HE)
  obtain ⟨f0, f1, f2, f3, -, -, -, -⟩ := box4_facts (heap_later h HF)
  obtain ⟨g0, g1, g2, g3, -, -, -, -⟩ := box4_facts (heap_later h HH)
  exact ⟨h, b0, b1, b2, b3, b4, b5, b6, b7, b8, b9, b10, b11, b12, d0, d1, d2, d3, e0, e1, e2, e3, f0, f1, f2, f3, g0, g1, g2, g3⟩

set_option maxRecDepth 1000000 in
set_option maxHeartbeats 4000000 in
theorem tells_any (x : Ins) (hd : x.dest.size ≤ 1000) (w : World) (hG : NamesGood w) :
    Calls Tryd.prog 10 #[x.val] w fun e w' => e = .returned (.bool true) ∧ Later w w' := by
  have hd' : x.dest.size ≤ 1000000 := by omega
  have cR := fun w' h => insReads_any x hd w' h
  have dR := fun w' => refReads_any x hd' w'
  have cW := fun w' h => insWrites_any x hd w' h
  have dW := fun w' => refWrites_any x hd' w'
  have cE := fun w' h => insLeads_any x hd w' h
  have dE := fun w' => refLeads_any x hd' w'
  have cI := fun w' h => insRight_any x hd w' h
  have dI := fun w' => refInsRight_any x hd' w'
  have cL := fun w' h => insLocked_any x hd w' h
  have dL := fun w' => refLocked_any x hd' w'
  have cF := fun w' h => insFence_any x hd w' h
  have dF := fun w' => refFence_any x hd' w'
  have cP := fun w' h => insParts_any x hd w' h
  have dP := fun w' => refParts_any x hd' w'
  generalize insF x = R at *
  generalize readsF x = rd at *
  generalize writesF x = wt at *
  generalize leadsF x = le at *
  generalize lockedF x = lo at *
  generalize fenceF x = fe at *
  generalize partsF x = pa at *
  obtain ⟨⟨uk, ur, us, un⟩, rb⟩ := rd
  obtain ⟨⟨vk, vr, vs, vn⟩, wb⟩ := wt
  obtain ⟨le1, le2⟩ := le
  obtain ⟨op, lock, cond, ⟨ak, ar, ay, an⟩, ⟨bk, br, bs, bn⟩, dest, lb⟩ := x
  clear hd hd'
  unfold Ins.val Ins.cells Opd.val at *
  dsimp only at *
  have LL := Later.alloc (Later.refl w) (.cells #[.int .i64 op, .bool lock, .int .i64 cond, .int .i64 ak, .int .i64 ar, .int .i64 ay, .int .i64 an, .int .i64 bk, .int .i64 br, .int .i64 bs, .int .i64 bn, .string dest, lb] 26)
  have HB := at_new w (.cells #[.int .i64 op, .bool lock, .int .i64 cond, .int .i64 ak, .int .i64 ar, .int .i64 ay, .int .i64 an, .int .i64 bk, .int .i64 br, .int .i64 bs, .int .i64 bn, .string dest, lb] 26)
  have HG := hG.later LL
  clear hG
  go_enter Tryd.func10, Tryd.ntmps10
  go_upto_region 1 with (fail)
  obtain ⟨b0, b1, b2, b3, b4, b5, b6, b7, b8, b9, b10, b11, b12⟩ := box13_facts HB
  generalize w.alloc (.cells #[.int .i64 op, .bool lock, .int .i64 cond, .int .i64 ak, .int .i64 ar, .int .i64 ay, .int .i64 an, .int .i64 bk, .int .i64 br, .int .i64 bs, .int .i64 bn, .string dest, lb] 26) = W at *
  generalize hA : w.heap.size = A at *
  go_upto_region 2 with (go_at_call 14; apply Calls.mono; (focus (with_reducible (exact cR _ HG))); rintro e wn ⟨rfl, hl⟩; replace HB := heap_later hl HB; replace HG := HG.later hl; replace LL := Later.trans LL hl; obtain ⟨b0, b1, b2, b3, b4, b5, b6, b7, b8, b9, b10, b11, b12⟩ := box13_facts HB)
  have HD := at_new wn (.cells #[.int .i64 uk, .int .i64 ur, .int .i64 us, .int .i64 un] 23)
  have HN := Later.alloc (Later.refl wn) (.cells #[.int .i64 uk, .int .i64 ur, .int .i64 us, .int .i64 un] 23)
  generalize wn.alloc (.cells #[.int .i64 uk, .int .i64 ur, .int .i64 us, .int .i64 un] 23) = WD at *
  replace HB := heap_later HN HB
  replace HG := HG.later HN
  replace LL := Later.trans LL HN
  obtain ⟨b0, b1, b2, b3, b4, b5, b6, b7, b8, b9, b10, b11, b12⟩ := box13_facts HB
  clear HN
  generalize wn.heap.size = D at *
  clear hl
  go_upto_region 3 with (go_at_call 23; apply Calls.mono; (focus (with_reducible (exact dR _))); rintro e wn ⟨rfl, hl⟩; replace HB := heap_later hl HB; replace HD := heap_later hl HD; replace HG := HG.later hl; replace LL := Later.trans LL hl; obtain ⟨b0, b1, b2, b3, b4, b5, b6, b7, b8, b9, b10, b11, b12⟩ := box13_facts HB)
  have HE := at_new wn (.cells #[.int .i64 uk, .int .i64 ur, .int .i64 us, .int .i64 un] 23)
  have HN := Later.alloc (Later.refl wn) (.cells #[.int .i64 uk, .int .i64 ur, .int .i64 us, .int .i64 un] 23)
  generalize wn.alloc (.cells #[.int .i64 uk, .int .i64 ur, .int .i64 us, .int .i64 un] 23) = WE at *
  replace HB := heap_later HN HB
  replace HD := heap_later HN HD
  replace HG := HG.later HN
  replace LL := Later.trans LL HN
  obtain ⟨b0, b1, b2, b3, b4, b5, b6, b7, b8, b9, b10, b11, b12⟩ := box13_facts HB
  clear HN
  generalize wn.heap.size = E at *
  clear hl
  go_upto_region 4 with (go_at_call 15; apply Calls.mono; (focus (with_reducible (exact cW _ HG))); rintro e wn ⟨rfl, hl⟩; replace HB := heap_later hl HB; replace HD := heap_later hl HD; replace HE := heap_later hl HE; replace HG := HG.later hl; replace LL := Later.trans LL hl; obtain ⟨b0, b1, b2, b3, b4, b5, b6, b7, b8, b9, b10, b11, b12⟩ := box13_facts HB)
  have HF := at_new wn (.cells #[.int .i64 vk, .int .i64 vr, .int .i64 vs, .int .i64 vn] 23)
  have HN := Later.alloc (Later.refl wn) (.cells #[.int .i64 vk, .int .i64 vr, .int .i64 vs, .int .i64 vn] 23)
  generalize wn.alloc (.cells #[.int .i64 vk, .int .i64 vr, .int .i64 vs, .int .i64 vn] 23) = WF at *
  replace HB := heap_later HN HB
  replace HD := heap_later HN HD
  replace HE := heap_later HN HE
  replace HG := HG.later HN
  replace LL := Later.trans LL HN
  obtain ⟨b0, b1, b2, b3, b4, b5, b6, b7, b8, b9, b10, b11, b12⟩ := box13_facts HB
  clear HN
  generalize wn.heap.size = F at *
  clear hl
  go_upto_region 5 with (go_at_call 24; apply Calls.mono; (focus (with_reducible (exact dW _))); rintro e wn ⟨rfl, hl⟩; replace HB := heap_later hl HB; replace HD := heap_later hl HD; replace HE := heap_later hl HE; replace HF := heap_later hl HF; replace HG := HG.later hl; replace LL := Later.trans LL hl; obtain ⟨b0, b1, b2, b3, b4, b5, b6, b7, b8, b9, b10, b11, b12⟩ := box13_facts HB)
  have HH := at_new wn (.cells #[.int .i64 vk, .int .i64 vr, .int .i64 vs, .int .i64 vn] 23)
  have HN := Later.alloc (Later.refl wn) (.cells #[.int .i64 vk, .int .i64 vr, .int .i64 vs, .int .i64 vn] 23)
  generalize wn.alloc (.cells #[.int .i64 vk, .int .i64 vr, .int .i64 vs, .int .i64 vn] 23) = WH at *
  replace HB := heap_later HN HB
  replace HD := heap_later HN HD
  replace HE := heap_later HN HE
  replace HF := heap_later HN HF
  replace HG := HG.later HN
  replace LL := Later.trans LL HN
  obtain ⟨b0, b1, b2, b3, b4, b5, b6, b7, b8, b9, b10, b11, b12⟩ := box13_facts HB
  clear HN
  generalize wn.heap.size = H at *
  clear hl
  go_upto_region 6 with (go_at_call 16; apply Calls.mono; (focus (with_reducible (exact cE _ HG))); rintro e wn ⟨rfl, hl⟩; replace HB := heap_later hl HB; replace HD := heap_later hl HD; replace HE := heap_later hl HE; replace HF := heap_later hl HF; replace HH := heap_later hl HH; replace HG := HG.later hl; replace LL := Later.trans LL hl; obtain ⟨b0, b1, b2, b3, b4, b5, b6, b7, b8, b9, b10, b11, b12⟩ := box13_facts HB)
  clear hl
  go_upto_region 7 with (go_at_call 25; apply Calls.mono; (focus (with_reducible (exact dE _))); rintro e wn ⟨rfl, hl⟩; replace HB := heap_later hl HB; replace HD := heap_later hl HD; replace HE := heap_later hl HE; replace HF := heap_later hl HF; replace HH := heap_later hl HH; replace HG := HG.later hl; replace LL := Later.trans LL hl; obtain ⟨b0, b1, b2, b3, b4, b5, b6, b7, b8, b9, b10, b11, b12⟩ := box13_facts HB)
  clear hl
  clear b0 b1 b2 b3 b4 b5 b6 b7 b8 b9 b10 b11 b12 cR dR cW dW cE dE
  go_region_held3 (fun w' => Later wn w' ∧ w'.cell? ⟨A, 0, none⟩ = some (.int .i64 op) ∧ w'.cell? ⟨A, 1, none⟩ = some (.bool lock) ∧ w'.cell? ⟨A, 2, none⟩ = some (.int .i64 cond) ∧ w'.cell? ⟨A, 3, none⟩ = some (.int .i64 ak) ∧ w'.cell? ⟨A, 4, none⟩ = some (.int .i64 ar) ∧ w'.cell? ⟨A, 5, none⟩ = some (.int .i64 ay) ∧ w'.cell? ⟨A, 6, none⟩ = some (.int .i64 an) ∧ w'.cell? ⟨A, 7, none⟩ = some (.int .i64 bk) ∧ w'.cell? ⟨A, 8, none⟩ = some (.int .i64 br) ∧ w'.cell? ⟨A, 9, none⟩ = some (.int .i64 bs) ∧ w'.cell? ⟨A, 10, none⟩ = some (.int .i64 bn) ∧ w'.cell? ⟨A, 11, none⟩ = some (.string dest) ∧ w'.cell? ⟨A, 12, none⟩ = some (lb) ∧ w'.cell? ⟨D, 0, none⟩ = some (.int .i64 uk) ∧ w'.cell? ⟨D, 1, none⟩ = some (.int .i64 ur) ∧ w'.cell? ⟨D, 2, none⟩ = some (.int .i64 us) ∧ w'.cell? ⟨D, 3, none⟩ = some (.int .i64 un) ∧ w'.cell? ⟨E, 0, none⟩ = some (.int .i64 uk) ∧ w'.cell? ⟨E, 1, none⟩ = some (.int .i64 ur) ∧ w'.cell? ⟨E, 2, none⟩ = some (.int .i64 us) ∧ w'.cell? ⟨E, 3, none⟩ = some (.int .i64 un) ∧ w'.cell? ⟨F, 0, none⟩ = some (.int .i64 vk) ∧ w'.cell? ⟨F, 1, none⟩ = some (.int .i64 vr) ∧ w'.cell? ⟨F, 2, none⟩ = some (.int .i64 vs) ∧ w'.cell? ⟨F, 3, none⟩ = some (.int .i64 vn) ∧ w'.cell? ⟨H, 0, none⟩ = some (.int .i64 vk) ∧ w'.cell? ⟨H, 1, none⟩ = some (.int .i64 vr) ∧ w'.cell? ⟨H, 2, none⟩ = some (.int .i64 vs) ∧ w'.cell? ⟨H, 3, none⟩ = some (.int .i64 vn))
    ((refine tells_keep HB HD HE HF HH ?_; repeat (first | assumption | exact Later.refl _ | apply Later.drew | (apply Later.trans; rotate_left; assumption))))
    (first | (go_at_call 12; apply Calls.mono; (focus (with_reducible (exact cI _ (HG.later (And.left ‹Later wn _ ∧ _›))))); rintro e wm ⟨rfl, hm⟩) | (go_at_call 26; apply Calls.mono; (focus (with_reducible (exact dI _))); rintro e wm ⟨rfl, hm⟩) | (go_at_call 18; apply Calls.mono; (focus (with_reducible (exact cL _ (HG.later (And.left ‹Later wn _ ∧ _›))))); rintro e wm ⟨rfl, hm⟩) | (go_at_call 27; apply Calls.mono; (focus (with_reducible (exact dL _))); rintro e wm ⟨rfl, hm⟩) | (go_at_call 19; apply Calls.mono; (focus (with_reducible (exact cF _ (HG.later (And.left ‹Later wn _ ∧ _›))))); rintro e wm ⟨rfl, hm⟩) | (go_at_call 28; apply Calls.mono; (focus (with_reducible (exact dF _))); rintro e wm ⟨rfl, hm⟩) | (go_at_call 17; apply Calls.mono; (focus (with_reducible (exact cP _ (HG.later (And.left ‹Later wn _ ∧ _›))))); rintro e wm ⟨rfl, hm⟩) | (go_at_call 29; apply Calls.mono; (focus (with_reducible (exact dP _))); rintro e wm ⟨rfl, hm⟩))
  all_goals
    rename_i hHeld
    obtain ⟨hEnd, -⟩ := hHeld
    go_wp2
    go_ret
    exact ⟨rfl, LL.trans hEnd⟩

end Go.Proofs.YtginggelbfbcfaaDoor
