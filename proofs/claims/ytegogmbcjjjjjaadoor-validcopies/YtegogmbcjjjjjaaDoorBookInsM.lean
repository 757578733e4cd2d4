/-
  What the statements' own maker of instructions returns of a raw act that becomes a jump. Nothing that was in memory turns. Conditions: its numbers are of 64 bits; there are 1 to 100 instructions.
-/
import Derived.Test.YtegogmbcjjjjjaaDoorJh
import Derived.Deep.RegionWith
namespace Go.Proofs.YtegogmbcjjjjjaaDoor
open Go.RowKit
set_option linter.unusedVariables false
set_option linter.unusedSimpArgs false

set_option maxRecDepth 1000000 in
set_option maxHeartbeats 4000000 in
theorem bookIns_12 (x : Act5) (hx : x.Ok) (many : Nat) (hm : 0 < many ∧ many ≤ 100) (w : World) (hk : pick x.kind 22 = 12) :
    Calls Tryd.prog 15 #[x.val, .int .i64 many] w fun e w' => e = .returned (⟨11, false, 1 + pick x.c 10, zeroO, zeroO, labelT (pick x.a many).toNat, nilS⟩ : Ins).val ∧ Later w w' := by
  have cK := fun w' => pick_any x.kind 22 hx.kind (by omega) w'
  have cQ := fun w' => pick_any x.c 5 hx.c (by omega) w'
  have cC := fun w' => pick_any x.c 10 hx.c (by omega) w'
  obtain ⟨cd, hcd, hcl⟩ := pick_nat x.c 10 (by omega)
  rw [show ((10 : Nat) : Int) = 10 from rfl] at hcd
  rw [hcd] at cC ⊢
  clear hcd
  have cM := fun w' => pick_any x.a many hx.a (by omega) w'
  rw [hk] at cK
  clear hk
  have hq := pick_nat x.c 5 (by omega)
  obtain ⟨m, hmm, hml⟩ := pick_nat x.a many (by omega)
  have cL := fun w' => label_any m (by omega) w'
  rw [hmm] at cM ⊢
  rw [show ((m : Int)).toNat = m from by omega]
  obtain ⟨ak, aa, ab, ac, an⟩ := x
  clear hx hmm
  dsimp only at *
  obtain ⟨q, hq, hq5⟩ := hq
  rw [show ((5 : Nat) : Int) = 5 from rfl] at hq
  simp only [hq] at cQ
  clear hq
  generalize labelT m = T at *
  unfold Act5.val zeroO Ins.val Ins.cells
  dsimp only at *
  have LL := Later.alloc (Later.alloc (Later.refl w) (.cells #[.int .i64 ak, .int .i64 aa, .int .i64 ab, .int .i64 ac, .int .i64 an] 52)) (.cells #[.int .i64 0, .bool false, .int .i64 0, .int .i64 0, .int .i64 0, .int .i64 0, .int .i64 0, .int .i64 0, .int .i64 0, .int .i64 0, .int .i64 0, .string ⟨#[]⟩, nilS] 39)
  obtain ⟨HB, HI⟩ := two_new2 w (.cells #[.int .i64 ak, .int .i64 aa, .int .i64 ab, .int .i64 ac, .int .i64 an] 52) (.cells #[.int .i64 0, .bool false, .int .i64 0, .int .i64 0, .int .i64 0, .int .i64 0, .int .i64 0, .int .i64 0, .int .i64 0, .int .i64 0, .int .i64 0, .string ⟨#[]⟩, nilS] 39)
  unfold nilS at *
  go_enter Tryd.func15, Tryd.ntmps15
  go_upto_region 34 with (first
    | (go_at_call 34; apply Calls.mono; (focus (with_reducible (exact cQ _))); rintro e w1 ⟨rfl, h1⟩; obtain rfl := h1.symm)
    | (go_at_call 34; apply Calls.mono; (focus (with_reducible (exact cK _))); rintro e w1 ⟨rfl, h1⟩; obtain rfl := h1.symm))
  generalize (w.alloc _).alloc _ = W at *
  obtain ⟨b0, b1, b2, b3, b4⟩ := box5_facts HB
  generalize hC : w.heap.size + 1 = C at *
  generalize hE : w.heap.size = E at *
  have hEC : w.heap.size ≤ C := by omega
  clear hC
  obtain ⟨b0, b1, b2, b3, b4⟩ := box5_facts HB; obtain ⟨i0, i1, i2, i3, i4, i5, i6, i7, i8, i9, i10, i11, i12⟩ := box13_facts HI; obtain ⟨f0, f1, f2, f3, f4, f5, f6, f7, f8, f9, f10, f11, f12⟩ := box13_free HI
  have hw1 : IntKind.i64.wrap (1 + (cd : Int)) = 1 + (cd : Int) := by
    have e : ∀ n : Int, IntKind.i64.wrap n = if (true && decide (n % 18446744073709551616 ≥ 9223372036854775808)) = true then n % 18446744073709551616 - 18446744073709551616 else n % 18446744073709551616 := fun n => rfl
    rw [e, if_neg (by simp; omega)]
    omega
  go_region_with (first
    | (go_at_call 34; apply Calls.mono; (focus (with_reducible (exact cC _))); rintro e wn ⟨rfl, h1⟩; obtain rfl := h1.symm)
    | (go_at_call 34; apply Calls.mono; (focus (with_reducible (exact cM _))); rintro e wn ⟨rfl, h1⟩; obtain rfl := h1.symm)
    | (go_at_call 16; apply Calls.mono; (focus (with_reducible (exact cL _))); rintro e wn ⟨rfl, hl⟩; replace HB := (by first | exact heap_later hl HB | exact heap_later hl (heap_later (Later.drew (Later.refl _)) HB)); replace HI := (by first | exact heap_later hl HI | exact heap_later hl (heap_later (Later.drew (Later.refl _)) HI)); replace LL := (by first | exact Later.trans LL hl | exact Later.trans (Later.drew LL) hl); obtain ⟨b0, b1, b2, b3, b4⟩ := box5_facts HB; obtain ⟨i0, i1, i2, i3, i4, i5, i6, i7, i8, i9, i10, i11, i12⟩ := box13_facts HI; obtain ⟨f0, f1, f2, f3, f4, f5, f6, f7, f8, f9, f10, f11, f12⟩ := box13_free HI))
  all_goals obtain ⟨r0, r1, r2, r3, r4, r5, r6, r7, r8, r9, r10, r11, r12⟩ := box13_facts (store13_block HI (.int .i64 11) (.bool false) (.int .i64 (1 + cd)) (.int .i64 0) (.int .i64 0) (.int .i64 0) (.int .i64 0) (.int .i64 0) (.int .i64 0) (.int .i64 0) (.int .i64 0) (.string T) (.slice none 0 0))
  all_goals have hfin := store13_later LL hEC (.int .i64 11) (.bool false) (.int .i64 (1 + cd)) (.int .i64 0) (.int .i64 0) (.int .i64 0) (.int .i64 0) (.int .i64 0) (.int .i64 0) (.int .i64 0) (.int .i64 0) (.string T) (.slice none 0 0)
  all_goals unfold store13 at r0 r1 r2 r3 r4 r5 r6 r7 r8 r9 r10 r11 r12 hfin
  all_goals go_wp2
  all_goals refine bodyPost_ret (by simp [results, Tryd.results15, go_sem, r0, r1, r2, r3, r4, r5, r6, r7, r8, r9, r10, r11, r12]; try rfl) rfl ⟨rfl, hfin⟩

end Go.Proofs.YtegogmbcjjjjjaaDoor
