/-
  The first call of the statements of chapter 7, whose answer the document fixes: it is true. Nothing that was in memory turns. Conditions: the listed tables stand as the program's text lays them.
-/
import Derived.Test.YtginggelbfbcfaaDoorInsLast
namespace Go.Proofs.YtginggelbfbcfaaDoor
open Go.RowKit
set_option linter.unusedVariables false
set_option linter.unusedSimpArgs false

set_option maxRecDepth 1000000 in
set_option maxHeartbeats 4000000 in
theorem insAlive_any (w : World) (hG : NamesGood w) :
    Calls Tryd.prog 9 #[] w fun e w' => e = .returned (.bool true) ∧ Later w w' := by
  have cR := fun w' h => insReads_any ⟨2, false, 0, ⟨3, 0, 0, 0⟩, ⟨1, 0, 0, 0⟩, ⟨#[]⟩, .slice none 0 0⟩ (by decide) w' h
  have cI := fun w' h => insRight_any ⟨2, false, 0, ⟨3, 0, 0, 0⟩, ⟨1, 0, 0, 0⟩, ⟨#[]⟩, .slice none 0 0⟩ (by decide) w' h
  have cP := fun w' h => insParts_any ⟨2, false, 0, ⟨3, 0, 0, 0⟩, ⟨1, 0, 0, 0⟩, ⟨#[]⟩, .slice none 0 0⟩ (by decide) w' h
  have cQ := fun w' h => insParts_any ⟨2, true, 0, ⟨3, 0, 0, 0⟩, ⟨1, 0, 0, 0⟩, ⟨#[]⟩, .slice none 0 0⟩ (by decide) w' h
  have cF := fun w' h => insFence_any ⟨2, true, 0, ⟨3, 0, 0, 0⟩, ⟨1, 0, 0, 0⟩, ⟨#[]⟩, .slice none 0 0⟩ (by decide) w' h
  have cE := fun w' h => insFence_any ⟨2, false, 0, ⟨3, 0, 0, 0⟩, ⟨1, 0, 0, 0⟩, ⟨#[]⟩, .slice none 0 0⟩ (by decide) w' h
  have cZ := fun w' h => insRight_any ⟨0, false, 0, ⟨0, 0, 0, 0⟩, ⟨0, 0, 0, 0⟩, ⟨#[]⟩, .slice none 0 0⟩ (by decide) w' h
  have e1 : insF ⟨2, false, 0, ⟨3, 0, 0, 0⟩, ⟨1, 0, 0, 0⟩, ⟨#[]⟩, .slice none 0 0⟩ = 0 := by simp [insF, rowF, opdRightF, memF, plainF, reckonsF, jumpsF]
  have e2 : insF ⟨2, true, 0, ⟨3, 0, 0, 0⟩, ⟨1, 0, 0, 0⟩, ⟨#[]⟩, .slice none 0 0⟩ = 0 := by simp [insF, rowF, opdRightF, memF, plainF, reckonsF, jumpsF]
  have e3 : insF ⟨0, false, 0, ⟨0, 0, 0, 0⟩, ⟨0, 0, 0, 0⟩, ⟨#[]⟩, .slice none 0 0⟩ = 4 := by simp [insF]
  have p1 : partsF ⟨2, false, 0, ⟨3, 0, 0, 0⟩, ⟨1, 0, 0, 0⟩, ⟨#[]⟩, .slice none 0 0⟩ = 2 := by simp [partsF, readsF, writesF, lockedF, e1, memF]
  have p2 : partsF ⟨2, true, 0, ⟨3, 0, 0, 0⟩, ⟨1, 0, 0, 0⟩, ⟨#[]⟩, .slice none 0 0⟩ = 1 := by simp [partsF, readsF, writesF, lockedF, e2, memF]
  have f1 : fenceF ⟨2, false, 0, ⟨3, 0, 0, 0⟩, ⟨1, 0, 0, 0⟩, ⟨#[]⟩, .slice none 0 0⟩ = false := by simp [fenceF, lockedF]
  have f2 : fenceF ⟨2, true, 0, ⟨3, 0, 0, 0⟩, ⟨1, 0, 0, 0⟩, ⟨#[]⟩, .slice none 0 0⟩ = true := by simp [fenceF, lockedF, e2]
  have r1 : readsF ⟨2, false, 0, ⟨3, 0, 0, 0⟩, ⟨1, 0, 0, 0⟩, ⟨#[]⟩, .slice none 0 0⟩ = (⟨3, 0, 0, 0⟩, true) := by simp [readsF, e1, memF]
  simp only [e1, e2, e3, p1, p2, f1, f2, r1, Ins.val, Ins.cells, Opd.val] at cR cI cP cQ cF cE cZ
  clear e1 e2 e3 p1 p2 f1 f2 r1
  have LL := Later.alloc (Later.alloc (Later.refl w) (.cells #[.int .i64 2, .bool false, .int .i64 0, .int .i64 3, .int .i64 0, .int .i64 0, .int .i64 0, .int .i64 1, .int .i64 0, .int .i64 0, .int .i64 0, .string ⟨#[]⟩, .slice none 0 0] 26)) (.cells #[.int .i64 2, .bool true, .int .i64 0, .int .i64 3, .int .i64 0, .int .i64 0, .int .i64 0, .int .i64 1, .int .i64 0, .int .i64 0, .int .i64 0, .string ⟨#[]⟩, .slice none 0 0] 26)
  obtain ⟨HB, HC⟩ := two_new2 w (.cells #[.int .i64 2, .bool false, .int .i64 0, .int .i64 3, .int .i64 0, .int .i64 0, .int .i64 0, .int .i64 1, .int .i64 0, .int .i64 0, .int .i64 0, .string ⟨#[]⟩, .slice none 0 0] 26) (.cells #[.int .i64 2, .bool true, .int .i64 0, .int .i64 3, .int .i64 0, .int .i64 0, .int .i64 0, .int .i64 1, .int .i64 0, .int .i64 0, .int .i64 0, .string ⟨#[]⟩, .slice none 0 0] 26)
  have HG := hG.later LL
  clear hG
  go_enter Tryd.func9, Tryd.ntmps9
  go_upto_region 4 with (fail)
  generalize (w.alloc _).alloc _ = W at *
  obtain ⟨b0, b1, b2, b3, b4, b5, b6, b7, b8, b9, b10, b11, b12⟩ := box13_facts HB
  obtain ⟨x0, x1, x2, x3, x4, x5, x6, x7, x8, x9, x10, x11, x12⟩ := box13_facts HC
  go_upto_region 5 with (go_at_call 14; apply Calls.mono; (focus (with_reducible (exact cR _ HG))); rintro e wn ⟨rfl, hl⟩; replace HB := heap_later hl HB; replace HC := heap_later hl HC; replace HG := HG.later hl; replace LL := Later.trans LL hl; obtain ⟨b0, b1, b2, b3, b4, b5, b6, b7, b8, b9, b10, b11, b12⟩ := box13_facts HB; obtain ⟨x0, x1, x2, x3, x4, x5, x6, x7, x8, x9, x10, x11, x12⟩ := box13_facts HC)
  have HD := at_new wn (.cells #[.int .i64 3, .int .i64 0, .int .i64 0, .int .i64 0] 23)
  have HN := Later.alloc (Later.refl wn) (.cells #[.int .i64 3, .int .i64 0, .int .i64 0, .int .i64 0] 23)
  generalize wn.alloc (.cells #[.int .i64 3, .int .i64 0, .int .i64 0, .int .i64 0] 23) = W2 at *
  replace HB := heap_later HN HB
  replace HC := heap_later HN HC
  replace HG := HG.later HN
  replace LL := Later.trans LL HN
  obtain ⟨b0, b1, b2, b3, b4, b5, b6, b7, b8, b9, b10, b11, b12⟩ := box13_facts HB
  obtain ⟨x0, x1, x2, x3, x4, x5, x6, x7, x8, x9, x10, x11, x12⟩ := box13_facts HC
  obtain ⟨d0, d1, d2, d3, -, -, -, -⟩ := box4_facts HD
  clear HN
  generalize w.heap.size = A at *
  generalize wn.heap.size = D at *
  go_wp2_with (first | (go_at_call 12; apply Calls.mono; (focus (with_reducible (exact cI _ HG))); rintro e wn ⟨rfl, hl⟩; replace HB := heap_later hl HB; replace HC := heap_later hl HC; replace HD := heap_later hl HD; replace HG := HG.later hl; replace LL := Later.trans LL hl; obtain ⟨b0, b1, b2, b3, b4, b5, b6, b7, b8, b9, b10, b11, b12⟩ := box13_facts HB; obtain ⟨x0, x1, x2, x3, x4, x5, x6, x7, x8, x9, x10, x11, x12⟩ := box13_facts HC; obtain ⟨d0, d1, d2, d3, -, -, -, -⟩ := box4_facts HD) | (go_at_call 17; apply Calls.mono; (focus (with_reducible (exact cP _ HG))); rintro e wn ⟨rfl, hl⟩; replace HB := heap_later hl HB; replace HC := heap_later hl HC; replace HD := heap_later hl HD; replace HG := HG.later hl; replace LL := Later.trans LL hl; obtain ⟨b0, b1, b2, b3, b4, b5, b6, b7, b8, b9, b10, b11, b12⟩ := box13_facts HB; obtain ⟨x0, x1, x2, x3, x4, x5, x6, x7, x8, x9, x10, x11, x12⟩ := box13_facts HC; obtain ⟨d0, d1, d2, d3, -, -, -, -⟩ := box4_facts HD) | (go_at_call 17; apply Calls.mono; (focus (with_reducible (exact cQ _ HG))); rintro e wn ⟨rfl, hl⟩; replace HB := heap_later hl HB; replace HC := heap_later hl HC; replace HD := heap_later hl HD; replace HG := HG.later hl; replace LL := Later.trans LL hl; obtain ⟨b0, b1, b2, b3, b4, b5, b6, b7, b8, b9, b10, b11, b12⟩ := box13_facts HB; obtain ⟨x0, x1, x2, x3, x4, x5, x6, x7, x8, x9, x10, x11, x12⟩ := box13_facts HC; obtain ⟨d0, d1, d2, d3, -, -, -, -⟩ := box4_facts HD) | (go_at_call 19; apply Calls.mono; (focus (with_reducible (exact cF _ HG))); rintro e wn ⟨rfl, hl⟩; replace HB := heap_later hl HB; replace HC := heap_later hl HC; replace HD := heap_later hl HD; replace HG := HG.later hl; replace LL := Later.trans LL hl; obtain ⟨b0, b1, b2, b3, b4, b5, b6, b7, b8, b9, b10, b11, b12⟩ := box13_facts HB; obtain ⟨x0, x1, x2, x3, x4, x5, x6, x7, x8, x9, x10, x11, x12⟩ := box13_facts HC; obtain ⟨d0, d1, d2, d3, -, -, -, -⟩ := box4_facts HD) | (go_at_call 19; apply Calls.mono; (focus (with_reducible (exact cE _ HG))); rintro e wn ⟨rfl, hl⟩; replace HB := heap_later hl HB; replace HC := heap_later hl HC; replace HD := heap_later hl HD; replace HG := HG.later hl; replace LL := Later.trans LL hl; obtain ⟨b0, b1, b2, b3, b4, b5, b6, b7, b8, b9, b10, b11, b12⟩ := box13_facts HB; obtain ⟨x0, x1, x2, x3, x4, x5, x6, x7, x8, x9, x10, x11, x12⟩ := box13_facts HC; obtain ⟨d0, d1, d2, d3, -, -, -, -⟩ := box4_facts HD) | (go_at_call 12; apply Calls.mono; (focus (with_reducible (exact cZ _ HG))); rintro e wn ⟨rfl, hl⟩; replace HB := heap_later hl HB; replace HC := heap_later hl HC; replace HD := heap_later hl HD; replace HG := HG.later hl; replace LL := Later.trans LL hl; obtain ⟨b0, b1, b2, b3, b4, b5, b6, b7, b8, b9, b10, b11, b12⟩ := box13_facts HB; obtain ⟨x0, x1, x2, x3, x4, x5, x6, x7, x8, x9, x10, x11, x12⟩ := box13_facts HC; obtain ⟨d0, d1, d2, d3, -, -, -, -⟩ := box4_facts HD))
  go_ret
  exact ⟨rfl, LL⟩

end Go.Proofs.YtginggelbfbcfaaDoor
