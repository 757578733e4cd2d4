/-
  Proved: for every raw act and two numbers InsMakes returns true: the instruction that is made of it may be, and what package ins tells of it, and of it with one number another one, is what the document says; the arguments read as before. The listed package-level variables (names.regs, names.ops, names.jumps, unicode/utf8's first and acceptRanges) start as the program's text lays them; no other condition.
-/
import Derived.Test.YtginggelbfbcfaaDoorRows
import Derived.Test.YtginggelbfbcfaaDoorCards
import Derived.Test.YtginggelbfbcfaaDoorTie
import Derived.Test.YtginggelbfbcfaaDoorNamesLaid
import Derived.Test.YtginggelbfbcfaaDoorOpens
import Derived.Test.YtginggelbfbcfaaDoorTellsCells
import Derived.Test.YtginggelbfbcfaaDoorInsAlive
import Derived.Test.YtginggelbfbcfaaDoorBookIns
import Derived.Test.YtginggelbfbcfaaDoorBookRight
import Derived.Test.YtginggelbfbcfaaDoorOpensAct
import Derived.Test.YtginggelbfbcfaaDoorSet13
import Derived.WalkKit
import Derived.ProofKit
import Derived.OpenShut
import Derived.SizedLaws
import Derived.ShutString
import Derived.Carry
import Derived.Stop.Joined
import Derived.SevenTiedAt
namespace Go.Proofs.YtginggelbfbcfaaDoor.insMakes
open Go.ChangeShapes Go.WideShapes Go.ChangeAt Go.RowKit
open Go.ChangeMaps (open_string shut_string)
set_option linter.unusedVariables false
set_option linter.unusedSimpArgs false

theorem own : ownKnob Tryd.prog.godebug = none := by kernel_rfl
theorem laidOut : laidOutB Tryd.prog = true := by kernel_rfl

theorem texts5 {w : World} {B : Nat} {t : TypeId} (h : w.heap[B]? = some (.cells #[.string ⟨#[]⟩, .string ⟨#[97]⟩, .string ⟨#[114, 97, 120]⟩, .string ⟨#[108, 32, 49]⟩, .string ⟨#[49]⟩] t)) (k : Nat) (hk : k < 5) :
    ∃ s : ByteArray, w.cell? ⟨B, k, none⟩ = some (.string s) ∧ s.size ≤ 1000 := by
  match k, hk with
  | 0, _ => exact ⟨⟨#[]⟩, by simp [World.cell?, h], by decide⟩
  | 1, _ => exact ⟨⟨#[97]⟩, by simp [World.cell?, h], by decide⟩
  | 2, _ => exact ⟨⟨#[114, 97, 120]⟩, by simp [World.cell?, h], by decide⟩
  | 3, _ => exact ⟨⟨#[108, 32, 49]⟩, by simp [World.cell?, h], by decide⟩
  | 4, _ => exact ⟨⟨#[49]⟩, by simp [World.cell?, h], by decide⟩

set_option maxRecDepth 1000000 in
set_option maxHeartbeats 40000000 in
theorem walk (w : World) (g : Good w) (x : Act5) (ok : x.Ok) (field : Int) (hf : I64 field) (byn : Int) (hb : I64 byn) :
    Calls Tryd.prog 4 #[x.val, .int .i64 field, .int .i64 byn] w fun e w' => e = .returned (.bool true) ∧ Later w w' := by
  have cM : ∀ w', Calls Tryd.prog 11 #[x.val, .int .i64 9] w' fun e w'' => e = .returned (insOf x 9).val ∧ Later w' w'' := fun w' => bookIns_any x ok 9 (by omega) w'
  have cF := fun w' => pick_any field 11 hf (by omega) w'
  have c6 := fun w' => pick_any byn 6 hb (by omega) w'
  have c5 := fun w' => pick_any byn 5 hb (by omega) w'
  have lf := pick_bounds field 11 (by omega)
  obtain ⟨k5, hk5, l5⟩ := pick_nat byn 5 (by omega)
  rw [show ((5 : Nat) : Int) = 5 from rfl] at hk5
  simp only [hk5] at c5
  clear hk5 hf hb
  generalize pick byn 6 = k6 at *
  generalize pick field 11 = f at *
  obtain ⟨lf1, lf2⟩ := lf
  have hI : insF (insOf x 9) = 0 := insOf_right x 9 (by omega)
  have hd : (insOf x 9).dest.size ≤ 1000 := insOf_dest x 9 (by omega)
  have hlb : (insOf x 9).labels = .slice none 0 0 := insOf_labels x 9
  have cR := fun w' h => insRight_any (insOf x 9) hd w' h
  rw [hI] at cR
  clear hI
  generalize insOf x 9 = y at *
  obtain ⟨op, lock, cond, ⟨ak, ar, ay, an⟩, ⟨bk, br, bs, bn⟩, dest, lb⟩ := y
  obtain ⟨ak', aa', ab', ac', an'⟩ := x
  clear ok
  unfold Ins.val Ins.cells at *
  unfold Act5.val at *
  dsimp only at *
  subst hlb
  have cl := fun w' h => insAlive_any w' h
  have L0 := Later.alloc (Later.refl w) (.cells #[.int .i64 ak', .int .i64 aa', .int .i64 ab', .int .i64 ac', .int .i64 an'] 30)
  have HB := at_new w (.cells #[.int .i64 ak', .int .i64 aa', .int .i64 ab', .int .i64 ac', .int .i64 an'] 30)
  go_enter Tryd.func4, Tryd.ntmps4
  go_upto_region 1 with (fail)
  obtain ⟨b0, b1, b2, b3, b4⟩ := box5_facts HB
  generalize w.alloc (.cells #[.int .i64 ak', .int .i64 aa', .int .i64 ab', .int .i64 ac', .int .i64 an'] 30) = W0 at *
  go_upto_region 2 with (go_at_call 11; apply Calls.mono; (focus (with_reducible (exact cM _))); rintro e W ⟨rfl, hl0⟩)
  have L1 := L0.trans hl0
  have HI := at_new W (.cells #[.int .i64 op, .bool lock, .int .i64 cond, .int .i64 ak, .int .i64 ar, .int .i64 ay, .int .i64 an, .int .i64 bk, .int .i64 br, .int .i64 bs, .int .i64 bn, .string dest, .slice none 0 0] 26)
  have L2 := Later.alloc L1 (.cells #[.int .i64 op, .bool lock, .int .i64 cond, .int .i64 ak, .int .i64 ar, .int .i64 ay, .int .i64 an, .int .i64 bk, .int .i64 br, .int .i64 bs, .int .i64 bn, .string dest, .slice none 0 0] 26)
  have hC : w.heap.size ≤ W.heap.size := L1.size
  generalize W.alloc (.cells #[.int .i64 op, .bool lock, .int .i64 cond, .int .i64 ak, .int .i64 ar, .int .i64 ay, .int .i64 an, .int .i64 bk, .int .i64 br, .int .i64 bs, .int .i64 bn, .string dest, .slice none 0 0] 26) = W2 at *
  generalize W.heap.size = C at *
  clear b0 b1 b2 b3 b4 HB L0 L1 hl0 cM
  obtain ⟨i0, i1, i2, i3, i4, i5, i6, i7, i8, i9, i10, i11, i12⟩ := box13_facts HI
  go_upto_region 4 with (first | (go_at_call 12; apply Calls.mono; (focus (with_reducible (exact cR _ (NamesGood.later g L2)))); rintro e wn ⟨rfl, hl⟩; replace HI := heap_later hl HI; replace L2 := L2.trans hl; obtain ⟨i0, i1, i2, i3, i4, i5, i6, i7, i8, i9, i10, i11, i12⟩ := box13_facts HI) | (first | (go_at_call 10; apply Calls.mono; (focus (with_reducible (exact tells_cells hd _ (NamesGood.later g L2)))); rintro e wn ⟨rfl, hl⟩; replace HI := heap_later hl HI; replace L2 := L2.trans hl; obtain ⟨i0, i1, i2, i3, i4, i5, i6, i7, i8, i9, i10, i11, i12⟩ := box13_facts HI) | (go_at_call 9; apply Calls.mono; (focus (with_reducible (exact cl _ (NamesGood.later g L2)))); rintro e wn ⟨rfl, hl⟩; replace L2 := L2.trans hl)))
  clear cR
  obtain rfl | rfl | rfl | rfl | rfl | rfl | rfl | rfl | rfl | rfl | rfl : f = 0 ∨ f = 1 ∨ f = 2 ∨ f = 3 ∨ f = 4 ∨ f = 5 ∨ f = 6 ∨ f = 7 ∨ f = 8 ∨ f = 9 ∨ f = 10 := by omega
  · as_aux_lemma =>
    obtain ⟨f0, f1, f2, f3, f4, f5, f6, f7, f8, f9, f10, f11, f12⟩ := box13_free HI
    go_upto_region 26 with (go_at_call 13; apply Calls.mono; (focus (with_reducible (first | exact cF _ | exact c6 _ | exact c5 _))); rintro e w1 ⟨rfl, h1⟩; obtain rfl := h1.symm)
    replace HI := set13_0 HI (.int .i64 byn)
    replace L2 := Later.set L2 hC 0 (.int .i64 byn)
    generalize World.setCell _ ⟨C, 0, none⟩ (.int .i64 byn) = W4 at *
    obtain ⟨i0, i1, i2, i3, i4, i5, i6, i7, i8, i9, i10, i11, i12⟩ := box13_facts HI
    go_wp2_with (first | (go_at_call 10; apply Calls.mono; (focus (with_reducible (exact tells_cells hd _ (NamesGood.later g L2)))); rintro e wn ⟨rfl, hl⟩; replace HI := heap_later hl HI; replace L2 := L2.trans hl; obtain ⟨i0, i1, i2, i3, i4, i5, i6, i7, i8, i9, i10, i11, i12⟩ := box13_facts HI) | (go_at_call 9; apply Calls.mono; (focus (with_reducible (exact cl _ (NamesGood.later g L2)))); rintro e wn ⟨rfl, hl⟩; replace L2 := L2.trans hl))
    go_ret
    exact ⟨rfl, L2⟩
  · as_aux_lemma =>
    obtain ⟨f0, f1, f2, f3, f4, f5, f6, f7, f8, f9, f10, f11, f12⟩ := box13_free HI
    go_upto_region 26 with (go_at_call 13; apply Calls.mono; (focus (with_reducible (first | exact cF _ | exact c6 _ | exact c5 _))); rintro e w1 ⟨rfl, h1⟩; obtain rfl := h1.symm)
    replace HI := set13_1 HI (.bool !lock)
    replace L2 := Later.set L2 hC 1 (.bool !lock)
    generalize World.setCell _ ⟨C, 1, none⟩ (.bool !lock) = W4 at *
    obtain ⟨i0, i1, i2, i3, i4, i5, i6, i7, i8, i9, i10, i11, i12⟩ := box13_facts HI
    go_wp2_with (first | (go_at_call 10; apply Calls.mono; (focus (with_reducible (exact tells_cells hd _ (NamesGood.later g L2)))); rintro e wn ⟨rfl, hl⟩; replace HI := heap_later hl HI; replace L2 := L2.trans hl; obtain ⟨i0, i1, i2, i3, i4, i5, i6, i7, i8, i9, i10, i11, i12⟩ := box13_facts HI) | (go_at_call 9; apply Calls.mono; (focus (with_reducible (exact cl _ (NamesGood.later g L2)))); rintro e wn ⟨rfl, hl⟩; replace L2 := L2.trans hl))
    go_ret
    exact ⟨rfl, L2⟩
  · as_aux_lemma =>
    obtain ⟨f0, f1, f2, f3, f4, f5, f6, f7, f8, f9, f10, f11, f12⟩ := box13_free HI
    go_upto_region 26 with (go_at_call 13; apply Calls.mono; (focus (with_reducible (first | exact cF _ | exact c6 _ | exact c5 _))); rintro e w1 ⟨rfl, h1⟩; obtain rfl := h1.symm)
    replace HI := set13_2 HI (.int .i64 byn)
    replace L2 := Later.set L2 hC 2 (.int .i64 byn)
    generalize World.setCell _ ⟨C, 2, none⟩ (.int .i64 byn) = W4 at *
    obtain ⟨i0, i1, i2, i3, i4, i5, i6, i7, i8, i9, i10, i11, i12⟩ := box13_facts HI
    go_wp2_with (first | (go_at_call 10; apply Calls.mono; (focus (with_reducible (exact tells_cells hd _ (NamesGood.later g L2)))); rintro e wn ⟨rfl, hl⟩; replace HI := heap_later hl HI; replace L2 := L2.trans hl; obtain ⟨i0, i1, i2, i3, i4, i5, i6, i7, i8, i9, i10, i11, i12⟩ := box13_facts HI) | (go_at_call 9; apply Calls.mono; (focus (with_reducible (exact cl _ (NamesGood.later g L2)))); rintro e wn ⟨rfl, hl⟩; replace L2 := L2.trans hl))
    go_ret
    exact ⟨rfl, L2⟩
  · as_aux_lemma =>
    obtain ⟨f0, f1, f2, f3, f4, f5, f6, f7, f8, f9, f10, f11, f12⟩ := box13_free HI
    go_upto_region 26 with (go_at_call 13; apply Calls.mono; (focus (with_reducible (first | exact cF _ | exact c6 _ | exact c5 _))); rintro e w1 ⟨rfl, h1⟩; obtain rfl := h1.symm)
    replace HI := set13_3 HI (.int .i64 k6)
    replace L2 := Later.set L2 hC 3 (.int .i64 k6)
    generalize World.setCell _ ⟨C, 3, none⟩ (.int .i64 k6) = W4 at *
    obtain ⟨i0, i1, i2, i3, i4, i5, i6, i7, i8, i9, i10, i11, i12⟩ := box13_facts HI
    go_wp2_with (first | (go_at_call 10; apply Calls.mono; (focus (with_reducible (exact tells_cells hd _ (NamesGood.later g L2)))); rintro e wn ⟨rfl, hl⟩; replace HI := heap_later hl HI; replace L2 := L2.trans hl; obtain ⟨i0, i1, i2, i3, i4, i5, i6, i7, i8, i9, i10, i11, i12⟩ := box13_facts HI) | (go_at_call 9; apply Calls.mono; (focus (with_reducible (exact cl _ (NamesGood.later g L2)))); rintro e wn ⟨rfl, hl⟩; replace L2 := L2.trans hl))
    go_ret
    exact ⟨rfl, L2⟩
  · as_aux_lemma =>
    obtain ⟨f0, f1, f2, f3, f4, f5, f6, f7, f8, f9, f10, f11, f12⟩ := box13_free HI
    go_upto_region 26 with (go_at_call 13; apply Calls.mono; (focus (with_reducible (first | exact cF _ | exact c6 _ | exact c5 _))); rintro e w1 ⟨rfl, h1⟩; obtain rfl := h1.symm)
    replace HI := set13_7 HI (.int .i64 k6)
    replace L2 := Later.set L2 hC 7 (.int .i64 k6)
    generalize World.setCell _ ⟨C, 7, none⟩ (.int .i64 k6) = W4 at *
    obtain ⟨i0, i1, i2, i3, i4, i5, i6, i7, i8, i9, i10, i11, i12⟩ := box13_facts HI
    go_wp2_with (first | (go_at_call 10; apply Calls.mono; (focus (with_reducible (exact tells_cells hd _ (NamesGood.later g L2)))); rintro e wn ⟨rfl, hl⟩; replace HI := heap_later hl HI; replace L2 := L2.trans hl; obtain ⟨i0, i1, i2, i3, i4, i5, i6, i7, i8, i9, i10, i11, i12⟩ := box13_facts HI) | (go_at_call 9; apply Calls.mono; (focus (with_reducible (exact cl _ (NamesGood.later g L2)))); rintro e wn ⟨rfl, hl⟩; replace L2 := L2.trans hl))
    go_ret
    exact ⟨rfl, L2⟩
  · as_aux_lemma =>
    obtain ⟨f0, f1, f2, f3, f4, f5, f6, f7, f8, f9, f10, f11, f12⟩ := box13_free HI
    go_upto_region 26 with (go_at_call 13; apply Calls.mono; (focus (with_reducible (first | exact cF _ | exact c6 _ | exact c5 _))); rintro e w1 ⟨rfl, h1⟩; obtain rfl := h1.symm)
    replace HI := set13_4 HI (.int .i64 byn)
    replace L2 := Later.set L2 hC 4 (.int .i64 byn)
    generalize World.setCell _ ⟨C, 4, none⟩ (.int .i64 byn) = W4 at *
    obtain ⟨i0, i1, i2, i3, i4, i5, i6, i7, i8, i9, i10, i11, i12⟩ := box13_facts HI
    go_wp2_with (first | (go_at_call 10; apply Calls.mono; (focus (with_reducible (exact tells_cells hd _ (NamesGood.later g L2)))); rintro e wn ⟨rfl, hl⟩; replace HI := heap_later hl HI; replace L2 := L2.trans hl; obtain ⟨i0, i1, i2, i3, i4, i5, i6, i7, i8, i9, i10, i11, i12⟩ := box13_facts HI) | (go_at_call 9; apply Calls.mono; (focus (with_reducible (exact cl _ (NamesGood.later g L2)))); rintro e wn ⟨rfl, hl⟩; replace L2 := L2.trans hl))
    go_ret
    exact ⟨rfl, L2⟩
  · as_aux_lemma =>
    obtain ⟨f0, f1, f2, f3, f4, f5, f6, f7, f8, f9, f10, f11, f12⟩ := box13_free HI
    go_upto_region 26 with (go_at_call 13; apply Calls.mono; (focus (with_reducible (first | exact cF _ | exact c6 _ | exact c5 _))); rintro e w1 ⟨rfl, h1⟩; obtain rfl := h1.symm)
    replace HI := set13_8 HI (.int .i64 byn)
    replace L2 := Later.set L2 hC 8 (.int .i64 byn)
    generalize World.setCell _ ⟨C, 8, none⟩ (.int .i64 byn) = W4 at *
    obtain ⟨i0, i1, i2, i3, i4, i5, i6, i7, i8, i9, i10, i11, i12⟩ := box13_facts HI
    go_wp2_with (first | (go_at_call 10; apply Calls.mono; (focus (with_reducible (exact tells_cells hd _ (NamesGood.later g L2)))); rintro e wn ⟨rfl, hl⟩; replace HI := heap_later hl HI; replace L2 := L2.trans hl; obtain ⟨i0, i1, i2, i3, i4, i5, i6, i7, i8, i9, i10, i11, i12⟩ := box13_facts HI) | (go_at_call 9; apply Calls.mono; (focus (with_reducible (exact cl _ (NamesGood.later g L2)))); rintro e wn ⟨rfl, hl⟩; replace L2 := L2.trans hl))
    go_ret
    exact ⟨rfl, L2⟩
  · as_aux_lemma =>
    obtain ⟨f0, f1, f2, f3, f4, f5, f6, f7, f8, f9, f10, f11, f12⟩ := box13_free HI
    go_upto_region 26 with (go_at_call 13; apply Calls.mono; (focus (with_reducible (first | exact cF _ | exact c6 _ | exact c5 _))); rintro e w1 ⟨rfl, h1⟩; obtain rfl := h1.symm)
    replace HI := set13_5 HI (.int .i64 byn)
    replace L2 := Later.set L2 hC 5 (.int .i64 byn)
    generalize World.setCell _ ⟨C, 5, none⟩ (.int .i64 byn) = W4 at *
    obtain ⟨i0, i1, i2, i3, i4, i5, i6, i7, i8, i9, i10, i11, i12⟩ := box13_facts HI
    go_wp2_with (first | (go_at_call 10; apply Calls.mono; (focus (with_reducible (exact tells_cells hd _ (NamesGood.later g L2)))); rintro e wn ⟨rfl, hl⟩; replace HI := heap_later hl HI; replace L2 := L2.trans hl; obtain ⟨i0, i1, i2, i3, i4, i5, i6, i7, i8, i9, i10, i11, i12⟩ := box13_facts HI) | (go_at_call 9; apply Calls.mono; (focus (with_reducible (exact cl _ (NamesGood.later g L2)))); rintro e wn ⟨rfl, hl⟩; replace L2 := L2.trans hl))
    go_ret
    exact ⟨rfl, L2⟩
  · as_aux_lemma =>
    obtain ⟨f0, f1, f2, f3, f4, f5, f6, f7, f8, f9, f10, f11, f12⟩ := box13_free HI
    go_upto_region 26 with (go_at_call 13; apply Calls.mono; (focus (with_reducible (first | exact cF _ | exact c6 _ | exact c5 _))); rintro e w1 ⟨rfl, h1⟩; obtain rfl := h1.symm)
    replace HI := set13_10 HI (.int .i64 byn)
    replace L2 := Later.set L2 hC 10 (.int .i64 byn)
    generalize World.setCell _ ⟨C, 10, none⟩ (.int .i64 byn) = W4 at *
    obtain ⟨i0, i1, i2, i3, i4, i5, i6, i7, i8, i9, i10, i11, i12⟩ := box13_facts HI
    go_wp2_with (first | (go_at_call 10; apply Calls.mono; (focus (with_reducible (exact tells_cells hd _ (NamesGood.later g L2)))); rintro e wn ⟨rfl, hl⟩; replace HI := heap_later hl HI; replace L2 := L2.trans hl; obtain ⟨i0, i1, i2, i3, i4, i5, i6, i7, i8, i9, i10, i11, i12⟩ := box13_facts HI) | (go_at_call 9; apply Calls.mono; (focus (with_reducible (exact cl _ (NamesGood.later g L2)))); rintro e wn ⟨rfl, hl⟩; replace L2 := L2.trans hl))
    go_ret
    exact ⟨rfl, L2⟩
  · skip
    obtain ⟨f0, f1, f2, f3, f4, f5, f6, f7, f8, f9, f10, f11, f12⟩ := box13_free HI
    have hbs : ∀ w : World, (Instr.buildSlice 24 5 #[(0, .string ⟨#[]⟩), (1, .string ⟨#[97]⟩), (2, .string ⟨#[114, 97, 120]⟩), (3, .string ⟨#[108, 32, 49]⟩), (4, .string ⟨#[49]⟩)]).run Tryd.prog w = .ok (.slice (some ⟨w.heap.size, 0, none⟩) 5 5) (w.alloc (.cells #[.string ⟨#[]⟩, .string ⟨#[97]⟩, .string ⟨#[114, 97, 120]⟩, .string ⟨#[108, 32, 49]⟩, .string ⟨#[49]⟩] 9)) := fun w => by kernel_rfl
    have HT := at_new wn (.cells #[.string ⟨#[]⟩, .string ⟨#[97]⟩, .string ⟨#[114, 97, 120]⟩, .string ⟨#[108, 32, 49]⟩, .string ⟨#[49]⟩] 9)
    have LT := Later.alloc (Later.refl wn) (.cells #[.string ⟨#[]⟩, .string ⟨#[97]⟩, .string ⟨#[114, 97, 120]⟩, .string ⟨#[108, 32, 49]⟩, .string ⟨#[49]⟩] 9)
    obtain ⟨s, hs1, hs⟩ := texts5 HT k5 l5
    replace HI := heap_later LT HI
    replace L2 := L2.trans LT
    obtain ⟨-, -, -, -, -, -, -, -, -, -, -, j11, -⟩ := box13_facts HI
    obtain ⟨-, -, -, -, -, -, -, -, -, -, -, k11, -⟩ := box13_free HI
    have n0 : (0 : Int) ≤ k5 := by omega
    have n1 : (k5 : Int) < 5 := by omega
    clear HT LT f0 f1 f2 f3 f4 f5 f6 f7 f8 f9 f10 f11 f12
    go_upto_region 26 with (go_at_call 13; apply Calls.mono; (focus (with_reducible (first | exact cF _ | exact c6 _ | exact c5 _))); rintro e w1 ⟨rfl, h1⟩; obtain rfl := h1.symm)
    replace HI := set13_11 HI (.string s)
    replace L2 := Later.set L2 hC 11 (.string s)
    generalize World.setCell _ ⟨C, 11, none⟩ (.string s) = W4 at *
    obtain ⟨i0, i1, i2, i3, i4, i5, i6, i7, i8, i9, i10, i11, i12⟩ := box13_facts HI
    go_wp2_with (first | (go_at_call 10; apply Calls.mono; (focus (with_reducible (exact tells_cells hs _ (NamesGood.later g L2)))); rintro e wn ⟨rfl, hl⟩; replace HI := heap_later hl HI; replace L2 := L2.trans hl; obtain ⟨i0, i1, i2, i3, i4, i5, i6, i7, i8, i9, i10, i11, i12⟩ := box13_facts HI) | (go_at_call 9; apply Calls.mono; (focus (with_reducible (exact cl _ (NamesGood.later g L2)))); rintro e wn ⟨rfl, hl⟩; replace L2 := L2.trans hl))
    go_ret
    exact ⟨rfl, L2⟩
  · skip
    obtain ⟨f0, f1, f2, f3, f4, f5, f6, f7, f8, f9, f10, f11, f12⟩ := box13_free HI
    go_upto_region 26 with (go_at_call 13; apply Calls.mono; (focus (with_reducible (first | exact cF _ | exact c6 _ | exact c5 _))); rintro e w1 ⟨rfl, h1⟩; obtain rfl := h1.symm)
    replace HI := set13_3 HI (.int .i64 bk)
    replace L2 := Later.set L2 hC 3 (.int .i64 bk)
    replace HI := set13_4 HI (.int .i64 br)
    replace L2 := Later.set L2 hC 4 (.int .i64 br)
    replace HI := set13_5 HI (.int .i64 bs)
    replace L2 := Later.set L2 hC 5 (.int .i64 bs)
    replace HI := set13_6 HI (.int .i64 bn)
    replace L2 := Later.set L2 hC 6 (.int .i64 bn)
    replace HI := set13_7 HI (.int .i64 ak)
    replace L2 := Later.set L2 hC 7 (.int .i64 ak)
    replace HI := set13_8 HI (.int .i64 ar)
    replace L2 := Later.set L2 hC 8 (.int .i64 ar)
    replace HI := set13_9 HI (.int .i64 ay)
    replace L2 := Later.set L2 hC 9 (.int .i64 ay)
    replace HI := set13_10 HI (.int .i64 an)
    replace L2 := Later.set L2 hC 10 (.int .i64 an)
    generalize World.setCell _ ⟨C, 10, none⟩ (.int .i64 an) = W5 at *
    obtain ⟨i0, i1, i2, i3, i4, i5, i6, i7, i8, i9, i10, i11, i12⟩ := box13_facts HI
    go_wp2_with (first | (go_at_call 10; apply Calls.mono; (focus (with_reducible (exact tells_cells hd _ (NamesGood.later g L2)))); rintro e wn ⟨rfl, hl⟩; replace HI := heap_later hl HI; replace L2 := L2.trans hl; obtain ⟨i0, i1, i2, i3, i4, i5, i6, i7, i8, i9, i10, i11, i12⟩ := box13_facts HI) | (go_at_call 9; apply Calls.mono; (focus (with_reducible (exact cl _ (NamesGood.later g L2)))); rintro e wn ⟨rfl, hl⟩; replace L2 := L2.trans hl))
    go_ret
    exact ⟨rfl, L2⟩

set_option maxRecDepth 100000 in
theorem lifted (os : Os) (started : os.Started) (H : Type) (enc : TypeId × Value → H) :
    ReturnsInHanded {} Tryd.checked os 4 .any (fun w args => (Rows.insMakesSpec.pre enc Tryd.prog Tryd.f4 [] false w args ∧ laidMetH Tryd.prog theList w) ∧ sizedMet enc Tryd.prog Tryd.f4 (OpenSpec.ofChange Rows.insMakesSpec) false w args)
      (Rows.insMakesSpec.post enc Tryd.prog Tryd.f4 false true false false) := by
  refine returnsInHanded_of_change_and (C := Tryd.checked) (X := fun w _ => laidMetH Tryd.prog theList w) (fun _ _ _ hh h => h.of_heap hh) own started (by kernel_rfl) Tryd.func4
    (ChangeSpec.witness_shaped (enc := enc) (C := Tryd.checked) (os := os) (X := fun w _ => laidMetH Tryd.prog theList w) false (World.laidAll Tryd.prog os theList) #[.agg #[.int .i64 0, .int .i64 0, .int .i64 0, .int .i64 0, .int .i64 0], .int .i64 0, .int .i64 0] 8 (World.laidAll_os _ _ _) (World.shaped_of_ZipB (by kernel_rfl) (by kernel_rfl)) (by kernel_rfl) (by kernel_rfl) (by kernel_rfl) (door_met os _)) ?_
  intro W base args ds gs before hval0 hW _ hsz0 hL _
  have hsz : (DataW.weightsEach Tryd.prog (Tryd.f4.params.toList ++ Rows.insMakesSpec.plain.varTypes Tryd.prog) (ds ++ gs)).all (· ≤ reachBytes) = true := hsz0
  clear hsz0
  have hval : ∀ (j : Nat) t v, Tryd.f4.params[j]? = some t → args[j]? = some v → Value.okWide Tryd.prog W .any base t v := hval0
  have hW' := hW
  obtain ⟨p, q, hA0, hV, rfl, hfz, hnd⟩ := hW
  have hA : DataW.TrodAll enc Tryd.prog W 0 (fun _ => true) true Tryd.f4.params.toList args.toList ds p := hA0
  rw [Tryd.params4] at hA hval hsz
  obtain ⟨v0, vs0, d0, ds0, p0, q0, hargs, rfl, rfl, h0, r0⟩ := trodAll_cons hA
  obtain ⟨v1, vs1, d1, ds1, p1, q1, rfl, rfl, rfl, h1, r1⟩ := trodAll_cons r0
  obtain ⟨v2, vs2, d2, ds2, p2, q2, rfl, rfl, rfl, h2, r2⟩ := trodAll_cons r1
  obtain ⟨rfl, rfl, rfl⟩ := trodAll_nil r2
  obtain rfl : args = #[v0, v1, v2] := by cases args; simp_all
  obtain ⟨rfl, rfl⟩ := trodVars_none hV
  simp only [List.append_nil] at hW'
  have h0k := h0
  have hlt0 : ∀ x ∈ p0, x.block < W.heap.size := fun x hx => by simpa using hW'.lt x (by simp [hx])
  obtain ⟨x0, rfl, ok0⟩ := open_act (hval 0 30 v0 rfl rfl) h0
  obtain ⟨a1, rfl, rfl, rfl, w1⟩ := open_int Tryd.underlying3 (hval 1 3 v1 rfl rfl) h1
  obtain ⟨a2, rfl, rfl, rfl, w2⟩ := open_int Tryd.underlying3 (hval 2 3 v2 rfl rfl) h2
  clear hA0 hval0
  refine (walk W (Good.of_laid hL) x0 ok0 a1 (int64_of_wf w1) a2 (int64_of_wf w2)).mono fun e W' ⟨he, hnx⟩ => ?_
  subst he
  refine ⟨_, rfl, _, _, _, [], (p0 ++ ([] ++ ([] ++ []))), [], hW', ?_, ?_, rfl, Below.frame hnx _, fun h => by cases h⟩
  · exact (trodAll_cons_mk (shut_bool Tryd.underlying4 _) trodAll_mk0)
  · exact (trodAll_cons_mk (Below.trod laidOut (by kernel_rfl) (of_decide_eq_true (by kernel_rfl)) h0k hnx hlt0) (trodAll_cons_mk (shut_int Tryd.underlying3 w1) (trodAll_cons_mk (shut_int Tryd.underlying3 w2) trodAll_mk0)))

theorem over : Rows.insMakesRow.holds Tryd.pinned (OpenSpec.ofChange Rows.insMakesSpec) :=
  OpenClaim.holds_of_wide 4 Tryd.f4 rfl rfl rfl rfl rfl rfl rfl ⟨rfl, rfl, rfl, rfl, rfl⟩ rfl rfl rfl rfl rfl (by kernel_rfl) Tryd.func4 (by kernel_rfl)
    (of_decide_eq_true (by kernel_rfl)) (by unfold Func.isWrapper; first | (rw [if_pos (by decide +kernel)]; kernel_rfl) | (rw [if_neg (by decide +kernel)]; exact ⟨rfl, rfl⟩))
    (fun os started H enc _ => lifted os started H enc)

end Go.Proofs.YtginggelbfbcfaaDoor.insMakes

namespace Go.Proofs.YtginggelbfbcfaaDoor
open Go
/-- The statement: the row, with its listed variables tied to the program's text. -/
theorem insMakes_holds : Rows.InsMakesCardSaid :=
  Claim7.holds_tied_plain_at .later [] [.data, .data, .data, .data, .pinned] true Rows.insMakesCard.stood.harness true
    insMakes.over (fun _ h => by cases h) (by kernel_rfl) (fun _ h => by cases h) insMakes_row_tie rfl ⟨rfl, rfl⟩ (by kernel_rfl) rfl
    (fun f fn hf hfn => by
      obtain rfl : f = 4 := Option.some.inj ((show Tryd.prog.funcNamed Rows.insMakesRow.func = some 4 by kernel_rfl).symm.trans hf) |>.symm
      obtain rfl : fn = Tryd.f4 := (Option.some.inj (Tryd.func4.symm.trans hfn)).symm
      exact ⟨by kernel_rfl, fun j t ht => by
        rw [Tryd.params4] at ht
        have hm : t ∈ [30, 3, 3] := by simpa using Array.mem_of_getElem? ht
        have hall : ([30, 3, 3].all fun u => !Tryd.prog.wantsStandIn u) = true := by kernel_rfl
        exact (show Tryd.prog.wantsStandIn t = false by simpa using List.all_eq_true.1 hall t hm)⟩)
    (by kernel_rfl)
#print axioms insMakes_holds
end Go.Proofs.YtginggelbfbcfaaDoor
