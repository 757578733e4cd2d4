/-
  What the statements' own maker of instructions returns of a raw act that becomes a jump. Nothing that was in memory turns. Conditions: its numbers are of 64 bits; there are 1 to 100 instructions.
-/
import Derived.Test.YtegogmbcjjjjjaaDoorJh
import Derived.Deep.RegionWith
namespace Go.Proofs.YtegogmbcjjjjjaaDoor
open Go.RowKit
set_option linter.unusedVariables false
set_option linter.unusedSimpArgs false

theorem labelT_size (i : Nat) : (labelT i).size = 3 := rfl

set_option maxRecDepth 1000000 in
set_option maxHeartbeats 4000000 in
theorem bookIns_11 (x : Act5) (hx : x.Ok) (many : Nat) (hm : 0 < many ∧ many ≤ 100) (w : World) (hk : pick x.kind 22 = 11) :
    Calls Tryd.prog 15 #[x.val, .int .i64 many] w fun e w' => e = .returned (⟨10, false, 0, zeroO, zeroO, labelT (pick x.a many).toNat, nilS⟩ : Ins).val ∧ Later w w' := by
  have cK := fun w' => pick_any x.kind 22 hx.kind (by omega) w'
  have cQ := fun w' => pick_any x.c 5 hx.c (by omega) w'
  have cM := fun w' => pick_any x.a many hx.a (by omega) w'
  rw [hk] at cK
  clear hk
  have hq := pick_nat x.c 5 (by omega)
  obtain ⟨m, hmm, hml⟩ := pick_nat x.a many (by omega)
  have cL := fun w' => label_any m (by omega) w'
  rw [hmm] at cM ⊢
  rw [show ((m : Int)).toNat = m from by omega]
  obtain ⟨ak, aa, ab, ac, an⟩ := x
  clear hx hmm
  dsimp only at *
  obtain ⟨q, hq, hq5⟩ := hq
  rw [show ((5 : Nat) : Int) = 5 from rfl] at hq
  simp only [hq] at cQ
  clear hq
  generalize labelT m = T at *
  unfold Act5.val zeroO Ins.val Ins.cells
  dsimp only at *
  have LL := Later.alloc (Later.alloc (Later.refl w) (.cells #[.int .i64 ak, .int .i64 aa, .int .i64 ab, .int .i64 ac, .int .i64 an] 52)) (.cells #[.int .i64 0, .bool false, .int .i64 0, .int .i64 0, .int .i64 0, .int .i64 0, .int .i64 0, .int .i64 0, .int .i64 0, .int .i64 0, .int .i64 0, .string ⟨#[]⟩, nilS] 39)
  obtain ⟨HB, HI⟩ := two_new2 w (.cells #[.int .i64 ak, .int .i64 aa, .int .i64 ab, .int .i64 ac, .int .i64 an] 52) (.cells #[.int .i64 0, .bool false, .int .i64 0, .int .i64 0, .int .i64 0, .int .i64 0, .int .i64 0, .int .i64 0, .int .i64 0, .int .i64 0, .int .i64 0, .string ⟨#[]⟩, nilS] 39)
  unfold nilS at *
  go_enter Tryd.func15, Tryd.ntmps15
  go_upto_region 32 with (first
    | (go_at_call 34; apply Calls.mono; (focus (with_reducible (exact cQ _))); rintro e w1 ⟨rfl, h1⟩; obtain rfl := h1.symm)
    | (go_at_call 34; apply Calls.mono; (focus (with_reducible (exact cK _))); rintro e w1 ⟨rfl, h1⟩; obtain rfl := h1.symm))
  generalize (w.alloc _).alloc _ = W at *
  obtain ⟨b0, b1, b2, b3, b4⟩ := box5_facts HB
  generalize hC : w.heap.size + 1 = C at *
  generalize hE : w.heap.size = E at *
  have hEC : w.heap.size ≤ C := by omega
  clear hC
  go_wp2_with (first
    | (go_at_call 34; apply Calls.mono; (focus (with_reducible (exact cM _))); rintro e w1 ⟨rfl, h1⟩; obtain rfl := h1.symm)
    | (go_at_call 16; apply Calls.mono; (focus (with_reducible (exact cL _))); rintro e wn ⟨rfl, hl⟩; replace HI := heap_later hl HI; replace LL := Later.trans LL hl; obtain ⟨i0, i1, i2, i3, i4, i5, i6, i7, i8, i9, i10, i11, i12⟩ := box13_facts HI; obtain ⟨f0, f1, f2, f3, f4, f5, f6, f7, f8, f9, f10, f11, f12⟩ := box13_free HI))
  obtain ⟨r0, r1, r2, r3, r4, r5, r6, r7, r8, r9, r10, r11, r12⟩ := box13_facts (store13_block HI (.int .i64 10) (.bool false) (.int .i64 0) (.int .i64 0) (.int .i64 0) (.int .i64 0) (.int .i64 0) (.int .i64 0) (.int .i64 0) (.int .i64 0) (.int .i64 0) (.string T) (.slice none 0 0))
  have hfin := store13_later LL hEC (.int .i64 10) (.bool false) (.int .i64 0) (.int .i64 0) (.int .i64 0) (.int .i64 0) (.int .i64 0) (.int .i64 0) (.int .i64 0) (.int .i64 0) (.int .i64 0) (.string T) (.slice none 0 0)
  unfold store13 at r0 r1 r2 r3 r4 r5 r6 r7 r8 r9 r10 r11 r12 hfin
  refine bodyPost_ret (by simp [results, Tryd.results15, go_sem, r0, r1, r2, r3, r4, r5, r6, r7, r8, r9, r10, r11, r12]; try rfl) rfl ⟨rfl, hfin⟩

end Go.Proofs.YtegogmbcjjjjjaaDoor
