/-
  What the statements' own maker of instructions returns of a raw act, by its kind. Nothing that was in memory turns. Conditions: its numbers are of 64 bits.
-/
import Derived.Test.YtegogmbcjjjjjaaDoorJh
import Derived.Deep.RegionHeld3
namespace Go.Proofs.YtegogmbcjjjjjaaDoor
open Go.RowKit
set_option linter.unusedVariables false
set_option linter.unusedSimpArgs false

set_option maxRecDepth 1000000 in
set_option maxHeartbeats 4000000 in
theorem bookIns_0 (x : Act5) (hx : x.Ok) (many : Int) (w : World) (hk : pick x.kind 22 = 0) :
    Calls Tryd.prog 15 #[x.val, .int .i64 many] w fun e w' => e = .returned (twoI (1) false (registerO x.a) (plainO x.b x.n)).val ∧ Later w w' := by
  have cK := fun w' => pick_any x.kind 22 hx.kind (by omega) w'
  have cQ := fun w' => pick_any x.c 5 hx.c (by omega) w'
  rw [hk] at cK
  clear hk
  have hq := pick_nat x.c 5 (by omega)
  obtain ⟨ak, aa, ab, ac, an⟩ := x
  have cA := fun w' => register_any aa hx.a w'
  have cB := fun w' => plain_any ab an hx.b w'
  clear hx
  dsimp only at *
  generalize registerO aa = oa at *
  generalize plainO ab an = ob at *
  obtain ⟨q, hq, hq5⟩ := hq
  rw [show ((5 : Nat) : Int) = 5 from rfl] at hq
  simp only [hq] at cQ ⊢
  clear hq
  obtain ⟨a0, a1, a2, a3⟩ := oa
  obtain ⟨o0, o1, o2, o3⟩ := ob
  unfold Opd.val at cA cB
  unfold Act5.val twoI Ins.val Ins.cells
  dsimp only at *
  have LL := Later.alloc (Later.alloc (Later.refl w) (.cells #[.int .i64 ak, .int .i64 aa, .int .i64 ab, .int .i64 ac, .int .i64 an] 52)) (.cells #[.int .i64 0, .bool false, .int .i64 0, .int .i64 0, .int .i64 0, .int .i64 0, .int .i64 0, .int .i64 0, .int .i64 0, .int .i64 0, .int .i64 0, .string ⟨#[]⟩, nilS] 39)
  obtain ⟨HB, HI⟩ := two_new2 w (.cells #[.int .i64 ak, .int .i64 aa, .int .i64 ab, .int .i64 ac, .int .i64 an] 52) (.cells #[.int .i64 0, .bool false, .int .i64 0, .int .i64 0, .int .i64 0, .int .i64 0, .int .i64 0, .int .i64 0, .int .i64 0, .int .i64 0, .int .i64 0, .string ⟨#[]⟩, nilS] 39)
  have hB : w.heap.size ≤ w.heap.size + 1 := by omega
  unfold nilS at *
  go_enter Tryd.func15, Tryd.ntmps15
  go_upto_region 4 with (first
    | (go_at_call 34; apply Calls.mono; (focus (with_reducible (exact cQ _))); rintro e w1 ⟨rfl, h1⟩; obtain rfl := h1.symm)
    | (go_at_call 34; apply Calls.mono; (focus (with_reducible (exact cK _))); rintro e w1 ⟨rfl, h1⟩; obtain rfl := h1.symm))
  generalize (w.alloc _).alloc _ = W at *
  obtain ⟨b0, b1, b2, b3, b4⟩ := box5_facts HB; obtain ⟨i0, i1, i2, i3, i4, i5, i6, i7, i8, i9, i10, i11, i12⟩ := box13_facts HI; obtain ⟨f0, f1, f2, f3, f4, f5, f6, f7, f8, f9, f10, f11, f12⟩ := box13_free HI
  generalize hC : w.heap.size + 1 = C at *
  generalize hE : w.heap.size = E at *
  have hEC : w.heap.size ≤ C := by omega
  have hne : E ≠ C := by omega
  clear hB hC
  have hne1 : ¬ E = C := hne
  have hne2 : ¬ C = E := fun h => hne h.symm
  clear b0 b1 b2 b3 b4
  go_region_held3 (fun w' => w'.cell? ⟨E, 0, none⟩ = some (.int .i64 ak) ∧ w'.cell? ⟨E, 1, none⟩ = some (.int .i64 aa) ∧ w'.cell? ⟨E, 2, none⟩ = some (.int .i64 ab) ∧ w'.cell? ⟨E, 3, none⟩ = some (.int .i64 ac) ∧ w'.cell? ⟨E, 4, none⟩ = some (.int .i64 an))
    ((first
      | with_reducible exact box5_facts HB
      | with_reducible exact box5_facts (heap_drew HB)
      | with_reducible exact box5_facts ((store13_other hne _ _ _ _ _ _ _ _ _ _ _ _ _).trans HB)
      | go_keep))
    (first
    | (go_at_call 35; apply Calls.mono; (focus (with_reducible (exact cA _))); rintro e wn ⟨rfl, hl⟩; replace HB := (by first | exact heap_later hl HB | exact heap_later hl (heap_later (Later.drew (Later.refl _)) HB)); replace HI := (by first | exact heap_later hl HI | exact heap_later hl (heap_later (Later.drew (Later.refl _)) HI)); replace LL := (by first | exact Later.trans LL hl | exact Later.trans (Later.drew LL) hl); obtain ⟨i0, i1, i2, i3, i4, i5, i6, i7, i8, i9, i10, i11, i12⟩ := box13_facts HI; obtain ⟨f0, f1, f2, f3, f4, f5, f6, f7, f8, f9, f10, f11, f12⟩ := box13_free HI)
    | (go_at_call 36; apply Calls.mono; (focus (with_reducible (exact cB _))); rintro e wn ⟨rfl, hl⟩; replace HB := (by first | exact heap_later hl HB | exact heap_later hl (heap_later (Later.drew (Later.refl _)) HB)); replace HI := (by first | exact heap_later hl HI | exact heap_later hl (heap_later (Later.drew (Later.refl _)) HI)); replace LL := (by first | exact Later.trans LL hl | exact Later.trans (Later.drew LL) hl); obtain ⟨i0, i1, i2, i3, i4, i5, i6, i7, i8, i9, i10, i11, i12⟩ := box13_facts HI; obtain ⟨f0, f1, f2, f3, f4, f5, f6, f7, f8, f9, f10, f11, f12⟩ := box13_free HI))
  all_goals obtain ⟨r0, r1, r2, r3, r4, r5, r6, r7, r8, r9, r10, r11, r12⟩ := box13_facts (store13_block HI (.int .i64 (1)) (.bool false) (.int .i64 0) (.int .i64 a0) (.int .i64 a1) (.int .i64 a2) (.int .i64 a3) (.int .i64 o0) (.int .i64 o1) (.int .i64 o2) (.int .i64 o3) (.string ⟨#[]⟩) (.slice none 0 0))
  all_goals have hfin := store13_later LL hEC (.int .i64 (1)) (.bool false) (.int .i64 0) (.int .i64 a0) (.int .i64 a1) (.int .i64 a2) (.int .i64 a3) (.int .i64 o0) (.int .i64 o1) (.int .i64 o2) (.int .i64 o3) (.string ⟨#[]⟩) (.slice none 0 0)
  all_goals unfold store13 at r0 r1 r2 r3 r4 r5 r6 r7 r8 r9 r10 r11 r12 hfin
  all_goals go_wp2
  all_goals refine bodyPost_ret (by simp [results, Tryd.results15, go_sem, r0, r1, r2, r3, r4, r5, r6, r7, r8, r9, r10, r11, r12]; try rfl) rfl ⟨rfl, hfin⟩

set_option maxRecDepth 1000000 in
set_option maxHeartbeats 4000000 in
theorem bookIns_1 (x : Act5) (hx : x.Ok) (many : Int) (w : World) (hk : pick x.kind 22 = 1) :
    Calls Tryd.prog 15 #[x.val, .int .i64 many] w fun e w' => e = .returned (twoI (1) false (registerO x.a) (memoryO x.b)).val ∧ Later w w' := by
  have cK := fun w' => pick_any x.kind 22 hx.kind (by omega) w'
  have cQ := fun w' => pick_any x.c 5 hx.c (by omega) w'
  rw [hk] at cK
  clear hk
  have hq := pick_nat x.c 5 (by omega)
  obtain ⟨ak, aa, ab, ac, an⟩ := x
  have cA := fun w' => register_any aa hx.a w'
  have cB := fun w' => memory_any ab hx.b w'
  clear hx
  dsimp only at *
  generalize registerO aa = oa at *
  generalize memoryO ab = ob at *
  obtain ⟨q, hq, hq5⟩ := hq
  rw [show ((5 : Nat) : Int) = 5 from rfl] at hq
  simp only [hq] at cQ ⊢
  clear hq
  obtain ⟨a0, a1, a2, a3⟩ := oa
  obtain ⟨o0, o1, o2, o3⟩ := ob
  unfold Opd.val at cA cB
  unfold Act5.val twoI Ins.val Ins.cells
  dsimp only at *
  have LL := Later.alloc (Later.alloc (Later.refl w) (.cells #[.int .i64 ak, .int .i64 aa, .int .i64 ab, .int .i64 ac, .int .i64 an] 52)) (.cells #[.int .i64 0, .bool false, .int .i64 0, .int .i64 0, .int .i64 0, .int .i64 0, .int .i64 0, .int .i64 0, .int .i64 0, .int .i64 0, .int .i64 0, .string ⟨#[]⟩, nilS] 39)
  obtain ⟨HB, HI⟩ := two_new2 w (.cells #[.int .i64 ak, .int .i64 aa, .int .i64 ab, .int .i64 ac, .int .i64 an] 52) (.cells #[.int .i64 0, .bool false, .int .i64 0, .int .i64 0, .int .i64 0, .int .i64 0, .int .i64 0, .int .i64 0, .int .i64 0, .int .i64 0, .int .i64 0, .string ⟨#[]⟩, nilS] 39)
  have hB : w.heap.size ≤ w.heap.size + 1 := by omega
  unfold nilS at *
  go_enter Tryd.func15, Tryd.ntmps15
  go_upto_region 8 with (first
    | (go_at_call 34; apply Calls.mono; (focus (with_reducible (exact cQ _))); rintro e w1 ⟨rfl, h1⟩; obtain rfl := h1.symm)
    | (go_at_call 34; apply Calls.mono; (focus (with_reducible (exact cK _))); rintro e w1 ⟨rfl, h1⟩; obtain rfl := h1.symm))
  generalize (w.alloc _).alloc _ = W at *
  obtain ⟨b0, b1, b2, b3, b4⟩ := box5_facts HB; obtain ⟨i0, i1, i2, i3, i4, i5, i6, i7, i8, i9, i10, i11, i12⟩ := box13_facts HI; obtain ⟨f0, f1, f2, f3, f4, f5, f6, f7, f8, f9, f10, f11, f12⟩ := box13_free HI
  generalize hC : w.heap.size + 1 = C at *
  generalize hE : w.heap.size = E at *
  have hEC : w.heap.size ≤ C := by omega
  have hne : E ≠ C := by omega
  clear hB hC
  have hne1 : ¬ E = C := hne
  have hne2 : ¬ C = E := fun h => hne h.symm
  clear b0 b1 b2 b3 b4
  go_region_held3 (fun w' => w'.cell? ⟨E, 0, none⟩ = some (.int .i64 ak) ∧ w'.cell? ⟨E, 1, none⟩ = some (.int .i64 aa) ∧ w'.cell? ⟨E, 2, none⟩ = some (.int .i64 ab) ∧ w'.cell? ⟨E, 3, none⟩ = some (.int .i64 ac) ∧ w'.cell? ⟨E, 4, none⟩ = some (.int .i64 an))
    ((first
      | with_reducible exact box5_facts HB
      | with_reducible exact box5_facts (heap_drew HB)
      | with_reducible exact box5_facts ((store13_other hne _ _ _ _ _ _ _ _ _ _ _ _ _).trans HB)
      | go_keep))
    (first
    | (go_at_call 35; apply Calls.mono; (focus (with_reducible (exact cA _))); rintro e wn ⟨rfl, hl⟩; replace HB := (by first | exact heap_later hl HB | exact heap_later hl (heap_later (Later.drew (Later.refl _)) HB)); replace HI := (by first | exact heap_later hl HI | exact heap_later hl (heap_later (Later.drew (Later.refl _)) HI)); replace LL := (by first | exact Later.trans LL hl | exact Later.trans (Later.drew LL) hl); obtain ⟨i0, i1, i2, i3, i4, i5, i6, i7, i8, i9, i10, i11, i12⟩ := box13_facts HI; obtain ⟨f0, f1, f2, f3, f4, f5, f6, f7, f8, f9, f10, f11, f12⟩ := box13_free HI)
    | (go_at_call 37; apply Calls.mono; (focus (with_reducible (exact cB _))); rintro e wn ⟨rfl, hl⟩; replace HB := (by first | exact heap_later hl HB | exact heap_later hl (heap_later (Later.drew (Later.refl _)) HB)); replace HI := (by first | exact heap_later hl HI | exact heap_later hl (heap_later (Later.drew (Later.refl _)) HI)); replace LL := (by first | exact Later.trans LL hl | exact Later.trans (Later.drew LL) hl); obtain ⟨i0, i1, i2, i3, i4, i5, i6, i7, i8, i9, i10, i11, i12⟩ := box13_facts HI; obtain ⟨f0, f1, f2, f3, f4, f5, f6, f7, f8, f9, f10, f11, f12⟩ := box13_free HI))
  all_goals obtain ⟨r0, r1, r2, r3, r4, r5, r6, r7, r8, r9, r10, r11, r12⟩ := box13_facts (store13_block HI (.int .i64 (1)) (.bool false) (.int .i64 0) (.int .i64 a0) (.int .i64 a1) (.int .i64 a2) (.int .i64 a3) (.int .i64 o0) (.int .i64 o1) (.int .i64 o2) (.int .i64 o3) (.string ⟨#[]⟩) (.slice none 0 0))
  all_goals have hfin := store13_later LL hEC (.int .i64 (1)) (.bool false) (.int .i64 0) (.int .i64 a0) (.int .i64 a1) (.int .i64 a2) (.int .i64 a3) (.int .i64 o0) (.int .i64 o1) (.int .i64 o2) (.int .i64 o3) (.string ⟨#[]⟩) (.slice none 0 0)
  all_goals unfold store13 at r0 r1 r2 r3 r4 r5 r6 r7 r8 r9 r10 r11 r12 hfin
  all_goals go_wp2
  all_goals refine bodyPost_ret (by simp [results, Tryd.results15, go_sem, r0, r1, r2, r3, r4, r5, r6, r7, r8, r9, r10, r11, r12]; try rfl) rfl ⟨rfl, hfin⟩

set_option maxRecDepth 1000000 in
set_option maxHeartbeats 4000000 in
theorem bookIns_2 (x : Act5) (hx : x.Ok) (many : Int) (w : World) (hk : pick x.kind 22 = 2) :
    Calls Tryd.prog 15 #[x.val, .int .i64 many] w fun e w' => e = .returned (twoI (1) false (memoryO x.a) (plainO x.b x.n)).val ∧ Later w w' := by
  have cK := fun w' => pick_any x.kind 22 hx.kind (by omega) w'
  have cQ := fun w' => pick_any x.c 5 hx.c (by omega) w'
  rw [hk] at cK
  clear hk
  have hq := pick_nat x.c 5 (by omega)
  obtain ⟨ak, aa, ab, ac, an⟩ := x
  have cA := fun w' => memory_any aa hx.a w'
  have cB := fun w' => plain_any ab an hx.b w'
  clear hx
  dsimp only at *
  generalize memoryO aa = oa at *
  generalize plainO ab an = ob at *
  obtain ⟨q, hq, hq5⟩ := hq
  rw [show ((5 : Nat) : Int) = 5 from rfl] at hq
  simp only [hq] at cQ ⊢
  clear hq
  obtain ⟨a0, a1, a2, a3⟩ := oa
  obtain ⟨o0, o1, o2, o3⟩ := ob
  unfold Opd.val at cA cB
  unfold Act5.val twoI Ins.val Ins.cells
  dsimp only at *
  have LL := Later.alloc (Later.alloc (Later.refl w) (.cells #[.int .i64 ak, .int .i64 aa, .int .i64 ab, .int .i64 ac, .int .i64 an] 52)) (.cells #[.int .i64 0, .bool false, .int .i64 0, .int .i64 0, .int .i64 0, .int .i64 0, .int .i64 0, .int .i64 0, .int .i64 0, .int .i64 0, .int .i64 0, .string ⟨#[]⟩, nilS] 39)
  obtain ⟨HB, HI⟩ := two_new2 w (.cells #[.int .i64 ak, .int .i64 aa, .int .i64 ab, .int .i64 ac, .int .i64 an] 52) (.cells #[.int .i64 0, .bool false, .int .i64 0, .int .i64 0, .int .i64 0, .int .i64 0, .int .i64 0, .int .i64 0, .int .i64 0, .int .i64 0, .int .i64 0, .string ⟨#[]⟩, nilS] 39)
  have hB : w.heap.size ≤ w.heap.size + 1 := by omega
  unfold nilS at *
  go_enter Tryd.func15, Tryd.ntmps15
  go_upto_region 13 with (first
    | (go_at_call 34; apply Calls.mono; (focus (with_reducible (exact cQ _))); rintro e w1 ⟨rfl, h1⟩; obtain rfl := h1.symm)
    | (go_at_call 34; apply Calls.mono; (focus (with_reducible (exact cK _))); rintro e w1 ⟨rfl, h1⟩; obtain rfl := h1.symm))
  generalize (w.alloc _).alloc _ = W at *
  obtain ⟨b0, b1, b2, b3, b4⟩ := box5_facts HB; obtain ⟨i0, i1, i2, i3, i4, i5, i6, i7, i8, i9, i10, i11, i12⟩ := box13_facts HI; obtain ⟨f0, f1, f2, f3, f4, f5, f6, f7, f8, f9, f10, f11, f12⟩ := box13_free HI
  generalize hC : w.heap.size + 1 = C at *
  generalize hE : w.heap.size = E at *
  have hEC : w.heap.size ≤ C := by omega
  have hne : E ≠ C := by omega
  clear hB hC
  have hne1 : ¬ E = C := hne
  have hne2 : ¬ C = E := fun h => hne h.symm
  clear b0 b1 b2 b3 b4
  go_region_held3 (fun w' => w'.cell? ⟨E, 0, none⟩ = some (.int .i64 ak) ∧ w'.cell? ⟨E, 1, none⟩ = some (.int .i64 aa) ∧ w'.cell? ⟨E, 2, none⟩ = some (.int .i64 ab) ∧ w'.cell? ⟨E, 3, none⟩ = some (.int .i64 ac) ∧ w'.cell? ⟨E, 4, none⟩ = some (.int .i64 an))
    ((first
      | with_reducible exact box5_facts HB
      | with_reducible exact box5_facts (heap_drew HB)
      | with_reducible exact box5_facts ((store13_other hne _ _ _ _ _ _ _ _ _ _ _ _ _).trans HB)
      | go_keep))
    (first
    | (go_at_call 37; apply Calls.mono; (focus (with_reducible (exact cA _))); rintro e wn ⟨rfl, hl⟩; replace HB := (by first | exact heap_later hl HB | exact heap_later hl (heap_later (Later.drew (Later.refl _)) HB)); replace HI := (by first | exact heap_later hl HI | exact heap_later hl (heap_later (Later.drew (Later.refl _)) HI)); replace LL := (by first | exact Later.trans LL hl | exact Later.trans (Later.drew LL) hl); obtain ⟨i0, i1, i2, i3, i4, i5, i6, i7, i8, i9, i10, i11, i12⟩ := box13_facts HI; obtain ⟨f0, f1, f2, f3, f4, f5, f6, f7, f8, f9, f10, f11, f12⟩ := box13_free HI)
    | (go_at_call 36; apply Calls.mono; (focus (with_reducible (exact cB _))); rintro e wn ⟨rfl, hl⟩; replace HB := (by first | exact heap_later hl HB | exact heap_later hl (heap_later (Later.drew (Later.refl _)) HB)); replace HI := (by first | exact heap_later hl HI | exact heap_later hl (heap_later (Later.drew (Later.refl _)) HI)); replace LL := (by first | exact Later.trans LL hl | exact Later.trans (Later.drew LL) hl); obtain ⟨i0, i1, i2, i3, i4, i5, i6, i7, i8, i9, i10, i11, i12⟩ := box13_facts HI; obtain ⟨f0, f1, f2, f3, f4, f5, f6, f7, f8, f9, f10, f11, f12⟩ := box13_free HI))
  all_goals obtain ⟨r0, r1, r2, r3, r4, r5, r6, r7, r8, r9, r10, r11, r12⟩ := box13_facts (store13_block HI (.int .i64 (1)) (.bool false) (.int .i64 0) (.int .i64 a0) (.int .i64 a1) (.int .i64 a2) (.int .i64 a3) (.int .i64 o0) (.int .i64 o1) (.int .i64 o2) (.int .i64 o3) (.string ⟨#[]⟩) (.slice none 0 0))
  all_goals have hfin := store13_later LL hEC (.int .i64 (1)) (.bool false) (.int .i64 0) (.int .i64 a0) (.int .i64 a1) (.int .i64 a2) (.int .i64 a3) (.int .i64 o0) (.int .i64 o1) (.int .i64 o2) (.int .i64 o3) (.string ⟨#[]⟩) (.slice none 0 0)
  all_goals unfold store13 at r0 r1 r2 r3 r4 r5 r6 r7 r8 r9 r10 r11 r12 hfin
  all_goals go_wp2
  all_goals refine bodyPost_ret (by simp [results, Tryd.results15, go_sem, r0, r1, r2, r3, r4, r5, r6, r7, r8, r9, r10, r11, r12]; try rfl) rfl ⟨rfl, hfin⟩

set_option maxRecDepth 1000000 in
set_option maxHeartbeats 4000000 in
theorem bookIns_3 (x : Act5) (hx : x.Ok) (many : Int) (w : World) (hk : pick x.kind 22 = 3) :
    Calls Tryd.prog 15 #[x.val, .int .i64 many] w fun e w' => e = .returned (twoI (2 + pick x.c 5) false (registerO x.a) (plainO x.b x.n)).val ∧ Later w w' := by
  have cK := fun w' => pick_any x.kind 22 hx.kind (by omega) w'
  have cQ := fun w' => pick_any x.c 5 hx.c (by omega) w'
  rw [hk] at cK
  clear hk
  have hq := pick_nat x.c 5 (by omega)
  obtain ⟨ak, aa, ab, ac, an⟩ := x
  have cA := fun w' => register_any aa hx.a w'
  have cB := fun w' => plain_any ab an hx.b w'
  clear hx
  dsimp only at *
  generalize registerO aa = oa at *
  generalize plainO ab an = ob at *
  obtain ⟨q, hq, hq5⟩ := hq
  rw [show ((5 : Nat) : Int) = 5 from rfl] at hq
  simp only [hq] at cQ ⊢
  clear hq
  obtain ⟨a0, a1, a2, a3⟩ := oa
  obtain ⟨o0, o1, o2, o3⟩ := ob
  unfold Opd.val at cA cB
  unfold Act5.val twoI Ins.val Ins.cells
  dsimp only at *
  have LL := Later.alloc (Later.alloc (Later.refl w) (.cells #[.int .i64 ak, .int .i64 aa, .int .i64 ab, .int .i64 ac, .int .i64 an] 52)) (.cells #[.int .i64 0, .bool false, .int .i64 0, .int .i64 0, .int .i64 0, .int .i64 0, .int .i64 0, .int .i64 0, .int .i64 0, .int .i64 0, .int .i64 0, .string ⟨#[]⟩, nilS] 39)
  obtain ⟨HB, HI⟩ := two_new2 w (.cells #[.int .i64 ak, .int .i64 aa, .int .i64 ab, .int .i64 ac, .int .i64 an] 52) (.cells #[.int .i64 0, .bool false, .int .i64 0, .int .i64 0, .int .i64 0, .int .i64 0, .int .i64 0, .int .i64 0, .int .i64 0, .int .i64 0, .int .i64 0, .string ⟨#[]⟩, nilS] 39)
  have hB : w.heap.size ≤ w.heap.size + 1 := by omega
  unfold nilS at *
  go_enter Tryd.func15, Tryd.ntmps15
  go_upto_region 15 with (first
    | (go_at_call 34; apply Calls.mono; (focus (with_reducible (exact cQ _))); rintro e w1 ⟨rfl, h1⟩; obtain rfl := h1.symm)
    | (go_at_call 34; apply Calls.mono; (focus (with_reducible (exact cK _))); rintro e w1 ⟨rfl, h1⟩; obtain rfl := h1.symm))
  generalize (w.alloc _).alloc _ = W at *
  obtain ⟨b0, b1, b2, b3, b4⟩ := box5_facts HB; obtain ⟨i0, i1, i2, i3, i4, i5, i6, i7, i8, i9, i10, i11, i12⟩ := box13_facts HI; obtain ⟨f0, f1, f2, f3, f4, f5, f6, f7, f8, f9, f10, f11, f12⟩ := box13_free HI
  generalize hC : w.heap.size + 1 = C at *
  generalize hE : w.heap.size = E at *
  have hEC : w.heap.size ≤ C := by omega
  have hne : E ≠ C := by omega
  clear hB hC
  have hne1 : ¬ E = C := hne
  have hne2 : ¬ C = E := fun h => hne h.symm
  clear b0 b1 b2 b3 b4
  go_region_held3 (fun w' => w'.cell? ⟨E, 0, none⟩ = some (.int .i64 ak) ∧ w'.cell? ⟨E, 1, none⟩ = some (.int .i64 aa) ∧ w'.cell? ⟨E, 2, none⟩ = some (.int .i64 ab) ∧ w'.cell? ⟨E, 3, none⟩ = some (.int .i64 ac) ∧ w'.cell? ⟨E, 4, none⟩ = some (.int .i64 an))
    ((first
      | with_reducible exact box5_facts HB
      | with_reducible exact box5_facts (heap_drew HB)
      | with_reducible exact box5_facts ((store13_other hne _ _ _ _ _ _ _ _ _ _ _ _ _).trans HB)
      | go_keep))
    (first
    | (go_at_call 35; apply Calls.mono; (focus (with_reducible (exact cA _))); rintro e wn ⟨rfl, hl⟩; replace HB := (by first | exact heap_later hl HB | exact heap_later hl (heap_later (Later.drew (Later.refl _)) HB)); replace HI := (by first | exact heap_later hl HI | exact heap_later hl (heap_later (Later.drew (Later.refl _)) HI)); replace LL := (by first | exact Later.trans LL hl | exact Later.trans (Later.drew LL) hl); obtain ⟨i0, i1, i2, i3, i4, i5, i6, i7, i8, i9, i10, i11, i12⟩ := box13_facts HI; obtain ⟨f0, f1, f2, f3, f4, f5, f6, f7, f8, f9, f10, f11, f12⟩ := box13_free HI)
    | (go_at_call 36; apply Calls.mono; (focus (with_reducible (exact cB _))); rintro e wn ⟨rfl, hl⟩; replace HB := (by first | exact heap_later hl HB | exact heap_later hl (heap_later (Later.drew (Later.refl _)) HB)); replace HI := (by first | exact heap_later hl HI | exact heap_later hl (heap_later (Later.drew (Later.refl _)) HI)); replace LL := (by first | exact Later.trans LL hl | exact Later.trans (Later.drew LL) hl); obtain ⟨i0, i1, i2, i3, i4, i5, i6, i7, i8, i9, i10, i11, i12⟩ := box13_facts HI; obtain ⟨f0, f1, f2, f3, f4, f5, f6, f7, f8, f9, f10, f11, f12⟩ := box13_free HI))
  all_goals obtain ⟨r0, r1, r2, r3, r4, r5, r6, r7, r8, r9, r10, r11, r12⟩ := box13_facts (store13_block HI (.int .i64 (2 + q)) (.bool false) (.int .i64 0) (.int .i64 a0) (.int .i64 a1) (.int .i64 a2) (.int .i64 a3) (.int .i64 o0) (.int .i64 o1) (.int .i64 o2) (.int .i64 o3) (.string ⟨#[]⟩) (.slice none 0 0))
  all_goals have hfin := store13_later LL hEC (.int .i64 (2 + q)) (.bool false) (.int .i64 0) (.int .i64 a0) (.int .i64 a1) (.int .i64 a2) (.int .i64 a3) (.int .i64 o0) (.int .i64 o1) (.int .i64 o2) (.int .i64 o3) (.string ⟨#[]⟩) (.slice none 0 0)
  all_goals unfold store13 at r0 r1 r2 r3 r4 r5 r6 r7 r8 r9 r10 r11 r12 hfin
  all_goals go_wp2
  all_goals refine bodyPost_ret (by simp [results, Tryd.results15, go_sem, r0, r1, r2, r3, r4, r5, r6, r7, r8, r9, r10, r11, r12]; try rfl) rfl ⟨rfl, hfin⟩

set_option maxRecDepth 1000000 in
set_option maxHeartbeats 4000000 in
theorem bookIns_4 (x : Act5) (hx : x.Ok) (many : Int) (w : World) (hk : pick x.kind 22 = 4) :
    Calls Tryd.prog 15 #[x.val, .int .i64 many] w fun e w' => e = .returned (twoI (2 + pick x.c 5) false (registerO x.a) (memoryO x.b)).val ∧ Later w w' := by
  have cK := fun w' => pick_any x.kind 22 hx.kind (by omega) w'
  have cQ := fun w' => pick_any x.c 5 hx.c (by omega) w'
  rw [hk] at cK
  clear hk
  have hq := pick_nat x.c 5 (by omega)
  obtain ⟨ak, aa, ab, ac, an⟩ := x
  have cA := fun w' => register_any aa hx.a w'
  have cB := fun w' => memory_any ab hx.b w'
  clear hx
  dsimp only at *
  generalize registerO aa = oa at *
  generalize memoryO ab = ob at *
  obtain ⟨q, hq, hq5⟩ := hq
  rw [show ((5 : Nat) : Int) = 5 from rfl] at hq
  simp only [hq] at cQ ⊢
  clear hq
  obtain ⟨a0, a1, a2, a3⟩ := oa
  obtain ⟨o0, o1, o2, o3⟩ := ob
  unfold Opd.val at cA cB
  unfold Act5.val twoI Ins.val Ins.cells
  dsimp only at *
  have LL := Later.alloc (Later.alloc (Later.refl w) (.cells #[.int .i64 ak, .int .i64 aa, .int .i64 ab, .int .i64 ac, .int .i64 an] 52)) (.cells #[.int .i64 0, .bool false, .int .i64 0, .int .i64 0, .int .i64 0, .int .i64 0, .int .i64 0, .int .i64 0, .int .i64 0, .int .i64 0, .int .i64 0, .string ⟨#[]⟩, nilS] 39)
  obtain ⟨HB, HI⟩ := two_new2 w (.cells #[.int .i64 ak, .int .i64 aa, .int .i64 ab, .int .i64 ac, .int .i64 an] 52) (.cells #[.int .i64 0, .bool false, .int .i64 0, .int .i64 0, .int .i64 0, .int .i64 0, .int .i64 0, .int .i64 0, .int .i64 0, .int .i64 0, .int .i64 0, .string ⟨#[]⟩, nilS] 39)
  have hB : w.heap.size ≤ w.heap.size + 1 := by omega
  unfold nilS at *
  go_enter Tryd.func15, Tryd.ntmps15
  go_upto_region 17 with (first
    | (go_at_call 34; apply Calls.mono; (focus (with_reducible (exact cQ _))); rintro e w1 ⟨rfl, h1⟩; obtain rfl := h1.symm)
    | (go_at_call 34; apply Calls.mono; (focus (with_reducible (exact cK _))); rintro e w1 ⟨rfl, h1⟩; obtain rfl := h1.symm))
  generalize (w.alloc _).alloc _ = W at *
  obtain ⟨b0, b1, b2, b3, b4⟩ := box5_facts HB; obtain ⟨i0, i1, i2, i3, i4, i5, i6, i7, i8, i9, i10, i11, i12⟩ := box13_facts HI; obtain ⟨f0, f1, f2, f3, f4, f5, f6, f7, f8, f9, f10, f11, f12⟩ := box13_free HI
  generalize hC : w.heap.size + 1 = C at *
  generalize hE : w.heap.size = E at *
  have hEC : w.heap.size ≤ C := by omega
  have hne : E ≠ C := by omega
  clear hB hC
  have hne1 : ¬ E = C := hne
  have hne2 : ¬ C = E := fun h => hne h.symm
  clear b0 b1 b2 b3 b4
  go_region_held3 (fun w' => w'.cell? ⟨E, 0, none⟩ = some (.int .i64 ak) ∧ w'.cell? ⟨E, 1, none⟩ = some (.int .i64 aa) ∧ w'.cell? ⟨E, 2, none⟩ = some (.int .i64 ab) ∧ w'.cell? ⟨E, 3, none⟩ = some (.int .i64 ac) ∧ w'.cell? ⟨E, 4, none⟩ = some (.int .i64 an))
    ((first
      | with_reducible exact box5_facts HB
      | with_reducible exact box5_facts (heap_drew HB)
      | with_reducible exact box5_facts ((store13_other hne _ _ _ _ _ _ _ _ _ _ _ _ _).trans HB)
      | go_keep))
    (first
    | (go_at_call 35; apply Calls.mono; (focus (with_reducible (exact cA _))); rintro e wn ⟨rfl, hl⟩; replace HB := (by first | exact heap_later hl HB | exact heap_later hl (heap_later (Later.drew (Later.refl _)) HB)); replace HI := (by first | exact heap_later hl HI | exact heap_later hl (heap_later (Later.drew (Later.refl _)) HI)); replace LL := (by first | exact Later.trans LL hl | exact Later.trans (Later.drew LL) hl); obtain ⟨i0, i1, i2, i3, i4, i5, i6, i7, i8, i9, i10, i11, i12⟩ := box13_facts HI; obtain ⟨f0, f1, f2, f3, f4, f5, f6, f7, f8, f9, f10, f11, f12⟩ := box13_free HI)
    | (go_at_call 37; apply Calls.mono; (focus (with_reducible (exact cB _))); rintro e wn ⟨rfl, hl⟩; replace HB := (by first | exact heap_later hl HB | exact heap_later hl (heap_later (Later.drew (Later.refl _)) HB)); replace HI := (by first | exact heap_later hl HI | exact heap_later hl (heap_later (Later.drew (Later.refl _)) HI)); replace LL := (by first | exact Later.trans LL hl | exact Later.trans (Later.drew LL) hl); obtain ⟨i0, i1, i2, i3, i4, i5, i6, i7, i8, i9, i10, i11, i12⟩ := box13_facts HI; obtain ⟨f0, f1, f2, f3, f4, f5, f6, f7, f8, f9, f10, f11, f12⟩ := box13_free HI))
  all_goals obtain ⟨r0, r1, r2, r3, r4, r5, r6, r7, r8, r9, r10, r11, r12⟩ := box13_facts (store13_block HI (.int .i64 (2 + q)) (.bool false) (.int .i64 0) (.int .i64 a0) (.int .i64 a1) (.int .i64 a2) (.int .i64 a3) (.int .i64 o0) (.int .i64 o1) (.int .i64 o2) (.int .i64 o3) (.string ⟨#[]⟩) (.slice none 0 0))
  all_goals have hfin := store13_later LL hEC (.int .i64 (2 + q)) (.bool false) (.int .i64 0) (.int .i64 a0) (.int .i64 a1) (.int .i64 a2) (.int .i64 a3) (.int .i64 o0) (.int .i64 o1) (.int .i64 o2) (.int .i64 o3) (.string ⟨#[]⟩) (.slice none 0 0)
  all_goals unfold store13 at r0 r1 r2 r3 r4 r5 r6 r7 r8 r9 r10 r11 r12 hfin
  all_goals go_wp2
  all_goals refine bodyPost_ret (by simp [results, Tryd.results15, go_sem, r0, r1, r2, r3, r4, r5, r6, r7, r8, r9, r10, r11, r12]; try rfl) rfl ⟨rfl, hfin⟩

set_option maxRecDepth 1000000 in
set_option maxHeartbeats 4000000 in
theorem bookIns_5 (x : Act5) (hx : x.Ok) (many : Int) (w : World) (hk : pick x.kind 22 = 5) :
    Calls Tryd.prog 15 #[x.val, .int .i64 many] w fun e w' => e = .returned (twoI (2 + pick x.c 5) false (memoryO x.a) (plainO x.b x.n)).val ∧ Later w w' := by
  have cK := fun w' => pick_any x.kind 22 hx.kind (by omega) w'
  have cQ := fun w' => pick_any x.c 5 hx.c (by omega) w'
  rw [hk] at cK
  clear hk
  have hq := pick_nat x.c 5 (by omega)
  obtain ⟨ak, aa, ab, ac, an⟩ := x
  have cA := fun w' => memory_any aa hx.a w'
  have cB := fun w' => plain_any ab an hx.b w'
  clear hx
  dsimp only at *
  generalize memoryO aa = oa at *
  generalize plainO ab an = ob at *
  obtain ⟨q, hq, hq5⟩ := hq
  rw [show ((5 : Nat) : Int) = 5 from rfl] at hq
  simp only [hq] at cQ ⊢
  clear hq
  obtain ⟨a0, a1, a2, a3⟩ := oa
  obtain ⟨o0, o1, o2, o3⟩ := ob
  unfold Opd.val at cA cB
  unfold Act5.val twoI Ins.val Ins.cells
  dsimp only at *
  have LL := Later.alloc (Later.alloc (Later.refl w) (.cells #[.int .i64 ak, .int .i64 aa, .int .i64 ab, .int .i64 ac, .int .i64 an] 52)) (.cells #[.int .i64 0, .bool false, .int .i64 0, .int .i64 0, .int .i64 0, .int .i64 0, .int .i64 0, .int .i64 0, .int .i64 0, .int .i64 0, .int .i64 0, .string ⟨#[]⟩, nilS] 39)
  obtain ⟨HB, HI⟩ := two_new2 w (.cells #[.int .i64 ak, .int .i64 aa, .int .i64 ab, .int .i64 ac, .int .i64 an] 52) (.cells #[.int .i64 0, .bool false, .int .i64 0, .int .i64 0, .int .i64 0, .int .i64 0, .int .i64 0, .int .i64 0, .int .i64 0, .int .i64 0, .int .i64 0, .string ⟨#[]⟩, nilS] 39)
  have hB : w.heap.size ≤ w.heap.size + 1 := by omega
  unfold nilS at *
  go_enter Tryd.func15, Tryd.ntmps15
  go_upto_region 20 with (first
    | (go_at_call 34; apply Calls.mono; (focus (with_reducible (exact cQ _))); rintro e w1 ⟨rfl, h1⟩; obtain rfl := h1.symm)
    | (go_at_call 34; apply Calls.mono; (focus (with_reducible (exact cK _))); rintro e w1 ⟨rfl, h1⟩; obtain rfl := h1.symm))
  generalize (w.alloc _).alloc _ = W at *
  obtain ⟨b0, b1, b2, b3, b4⟩ := box5_facts HB; obtain ⟨i0, i1, i2, i3, i4, i5, i6, i7, i8, i9, i10, i11, i12⟩ := box13_facts HI; obtain ⟨f0, f1, f2, f3, f4, f5, f6, f7, f8, f9, f10, f11, f12⟩ := box13_free HI
  generalize hC : w.heap.size + 1 = C at *
  generalize hE : w.heap.size = E at *
  have hEC : w.heap.size ≤ C := by omega
  have hne : E ≠ C := by omega
  clear hB hC
  have hne1 : ¬ E = C := hne
  have hne2 : ¬ C = E := fun h => hne h.symm
  clear b0 b1 b2 b3 b4
  go_region_held3 (fun w' => w'.cell? ⟨E, 0, none⟩ = some (.int .i64 ak) ∧ w'.cell? ⟨E, 1, none⟩ = some (.int .i64 aa) ∧ w'.cell? ⟨E, 2, none⟩ = some (.int .i64 ab) ∧ w'.cell? ⟨E, 3, none⟩ = some (.int .i64 ac) ∧ w'.cell? ⟨E, 4, none⟩ = some (.int .i64 an))
    ((first
      | with_reducible exact box5_facts HB
      | with_reducible exact box5_facts (heap_drew HB)
      | with_reducible exact box5_facts ((store13_other hne _ _ _ _ _ _ _ _ _ _ _ _ _).trans HB)
      | go_keep))
    (first
    | (go_at_call 37; apply Calls.mono; (focus (with_reducible (exact cA _))); rintro e wn ⟨rfl, hl⟩; replace HB := (by first | exact heap_later hl HB | exact heap_later hl (heap_later (Later.drew (Later.refl _)) HB)); replace HI := (by first | exact heap_later hl HI | exact heap_later hl (heap_later (Later.drew (Later.refl _)) HI)); replace LL := (by first | exact Later.trans LL hl | exact Later.trans (Later.drew LL) hl); obtain ⟨i0, i1, i2, i3, i4, i5, i6, i7, i8, i9, i10, i11, i12⟩ := box13_facts HI; obtain ⟨f0, f1, f2, f3, f4, f5, f6, f7, f8, f9, f10, f11, f12⟩ := box13_free HI)
    | (go_at_call 36; apply Calls.mono; (focus (with_reducible (exact cB _))); rintro e wn ⟨rfl, hl⟩; replace HB := (by first | exact heap_later hl HB | exact heap_later hl (heap_later (Later.drew (Later.refl _)) HB)); replace HI := (by first | exact heap_later hl HI | exact heap_later hl (heap_later (Later.drew (Later.refl _)) HI)); replace LL := (by first | exact Later.trans LL hl | exact Later.trans (Later.drew LL) hl); obtain ⟨i0, i1, i2, i3, i4, i5, i6, i7, i8, i9, i10, i11, i12⟩ := box13_facts HI; obtain ⟨f0, f1, f2, f3, f4, f5, f6, f7, f8, f9, f10, f11, f12⟩ := box13_free HI))
  all_goals obtain ⟨r0, r1, r2, r3, r4, r5, r6, r7, r8, r9, r10, r11, r12⟩ := box13_facts (store13_block HI (.int .i64 (2 + q)) (.bool false) (.int .i64 0) (.int .i64 a0) (.int .i64 a1) (.int .i64 a2) (.int .i64 a3) (.int .i64 o0) (.int .i64 o1) (.int .i64 o2) (.int .i64 o3) (.string ⟨#[]⟩) (.slice none 0 0))
  all_goals have hfin := store13_later LL hEC (.int .i64 (2 + q)) (.bool false) (.int .i64 0) (.int .i64 a0) (.int .i64 a1) (.int .i64 a2) (.int .i64 a3) (.int .i64 o0) (.int .i64 o1) (.int .i64 o2) (.int .i64 o3) (.string ⟨#[]⟩) (.slice none 0 0)
  all_goals unfold store13 at r0 r1 r2 r3 r4 r5 r6 r7 r8 r9 r10 r11 r12 hfin
  all_goals go_wp2
  all_goals refine bodyPost_ret (by simp [results, Tryd.results15, go_sem, r0, r1, r2, r3, r4, r5, r6, r7, r8, r9, r10, r11, r12]; try rfl) rfl ⟨rfl, hfin⟩

set_option maxRecDepth 1000000 in
set_option maxHeartbeats 4000000 in
theorem bookIns_6 (x : Act5) (hx : x.Ok) (many : Int) (w : World) (hk : pick x.kind 22 = 6) :
    Calls Tryd.prog 15 #[x.val, .int .i64 many] w fun e w' => e = .returned (twoI (7) false (registerO x.a) (memoryO x.b)).val ∧ Later w w' := by
  have cK := fun w' => pick_any x.kind 22 hx.kind (by omega) w'
  have cQ := fun w' => pick_any x.c 5 hx.c (by omega) w'
  rw [hk] at cK
  clear hk
  have hq := pick_nat x.c 5 (by omega)
  obtain ⟨ak, aa, ab, ac, an⟩ := x
  have cA := fun w' => register_any aa hx.a w'
  have cB := fun w' => memory_any ab hx.b w'
  clear hx
  dsimp only at *
  generalize registerO aa = oa at *
  generalize memoryO ab = ob at *
  obtain ⟨q, hq, hq5⟩ := hq
  rw [show ((5 : Nat) : Int) = 5 from rfl] at hq
  simp only [hq] at cQ ⊢
  clear hq
  obtain ⟨a0, a1, a2, a3⟩ := oa
  obtain ⟨o0, o1, o2, o3⟩ := ob
  unfold Opd.val at cA cB
  unfold Act5.val twoI Ins.val Ins.cells
  dsimp only at *
  have LL := Later.alloc (Later.alloc (Later.refl w) (.cells #[.int .i64 ak, .int .i64 aa, .int .i64 ab, .int .i64 ac, .int .i64 an] 52)) (.cells #[.int .i64 0, .bool false, .int .i64 0, .int .i64 0, .int .i64 0, .int .i64 0, .int .i64 0, .int .i64 0, .int .i64 0, .int .i64 0, .int .i64 0, .string ⟨#[]⟩, nilS] 39)
  obtain ⟨HB, HI⟩ := two_new2 w (.cells #[.int .i64 ak, .int .i64 aa, .int .i64 ab, .int .i64 ac, .int .i64 an] 52) (.cells #[.int .i64 0, .bool false, .int .i64 0, .int .i64 0, .int .i64 0, .int .i64 0, .int .i64 0, .int .i64 0, .int .i64 0, .int .i64 0, .int .i64 0, .string ⟨#[]⟩, nilS] 39)
  have hB : w.heap.size ≤ w.heap.size + 1 := by omega
  unfold nilS at *
  go_enter Tryd.func15, Tryd.ntmps15
  go_upto_region 22 with (first
    | (go_at_call 34; apply Calls.mono; (focus (with_reducible (exact cQ _))); rintro e w1 ⟨rfl, h1⟩; obtain rfl := h1.symm)
    | (go_at_call 34; apply Calls.mono; (focus (with_reducible (exact cK _))); rintro e w1 ⟨rfl, h1⟩; obtain rfl := h1.symm))
  generalize (w.alloc _).alloc _ = W at *
  obtain ⟨b0, b1, b2, b3, b4⟩ := box5_facts HB; obtain ⟨i0, i1, i2, i3, i4, i5, i6, i7, i8, i9, i10, i11, i12⟩ := box13_facts HI; obtain ⟨f0, f1, f2, f3, f4, f5, f6, f7, f8, f9, f10, f11, f12⟩ := box13_free HI
  generalize hC : w.heap.size + 1 = C at *
  generalize hE : w.heap.size = E at *
  have hEC : w.heap.size ≤ C := by omega
  have hne : E ≠ C := by omega
  clear hB hC
  have hne1 : ¬ E = C := hne
  have hne2 : ¬ C = E := fun h => hne h.symm
  clear b0 b1 b2 b3 b4
  go_region_held3 (fun w' => w'.cell? ⟨E, 0, none⟩ = some (.int .i64 ak) ∧ w'.cell? ⟨E, 1, none⟩ = some (.int .i64 aa) ∧ w'.cell? ⟨E, 2, none⟩ = some (.int .i64 ab) ∧ w'.cell? ⟨E, 3, none⟩ = some (.int .i64 ac) ∧ w'.cell? ⟨E, 4, none⟩ = some (.int .i64 an))
    ((first
      | with_reducible exact box5_facts HB
      | with_reducible exact box5_facts (heap_drew HB)
      | with_reducible exact box5_facts ((store13_other hne _ _ _ _ _ _ _ _ _ _ _ _ _).trans HB)
      | go_keep))
    (first
    | (go_at_call 35; apply Calls.mono; (focus (with_reducible (exact cA _))); rintro e wn ⟨rfl, hl⟩; replace HB := (by first | exact heap_later hl HB | exact heap_later hl (heap_later (Later.drew (Later.refl _)) HB)); replace HI := (by first | exact heap_later hl HI | exact heap_later hl (heap_later (Later.drew (Later.refl _)) HI)); replace LL := (by first | exact Later.trans LL hl | exact Later.trans (Later.drew LL) hl); obtain ⟨i0, i1, i2, i3, i4, i5, i6, i7, i8, i9, i10, i11, i12⟩ := box13_facts HI; obtain ⟨f0, f1, f2, f3, f4, f5, f6, f7, f8, f9, f10, f11, f12⟩ := box13_free HI)
    | (go_at_call 37; apply Calls.mono; (focus (with_reducible (exact cB _))); rintro e wn ⟨rfl, hl⟩; replace HB := (by first | exact heap_later hl HB | exact heap_later hl (heap_later (Later.drew (Later.refl _)) HB)); replace HI := (by first | exact heap_later hl HI | exact heap_later hl (heap_later (Later.drew (Later.refl _)) HI)); replace LL := (by first | exact Later.trans LL hl | exact Later.trans (Later.drew LL) hl); obtain ⟨i0, i1, i2, i3, i4, i5, i6, i7, i8, i9, i10, i11, i12⟩ := box13_facts HI; obtain ⟨f0, f1, f2, f3, f4, f5, f6, f7, f8, f9, f10, f11, f12⟩ := box13_free HI))
  all_goals obtain ⟨r0, r1, r2, r3, r4, r5, r6, r7, r8, r9, r10, r11, r12⟩ := box13_facts (store13_block HI (.int .i64 (7)) (.bool false) (.int .i64 0) (.int .i64 a0) (.int .i64 a1) (.int .i64 a2) (.int .i64 a3) (.int .i64 o0) (.int .i64 o1) (.int .i64 o2) (.int .i64 o3) (.string ⟨#[]⟩) (.slice none 0 0))
  all_goals have hfin := store13_later LL hEC (.int .i64 (7)) (.bool false) (.int .i64 0) (.int .i64 a0) (.int .i64 a1) (.int .i64 a2) (.int .i64 a3) (.int .i64 o0) (.int .i64 o1) (.int .i64 o2) (.int .i64 o3) (.string ⟨#[]⟩) (.slice none 0 0)
  all_goals unfold store13 at r0 r1 r2 r3 r4 r5 r6 r7 r8 r9 r10 r11 r12 hfin
  all_goals go_wp2
  all_goals refine bodyPost_ret (by simp [results, Tryd.results15, go_sem, r0, r1, r2, r3, r4, r5, r6, r7, r8, r9, r10, r11, r12]; try rfl) rfl ⟨rfl, hfin⟩

set_option maxRecDepth 1000000 in
set_option maxHeartbeats 4000000 in
theorem bookIns_7 (x : Act5) (hx : x.Ok) (many : Int) (w : World) (hk : pick x.kind 22 = 7) :
    Calls Tryd.prog 15 #[x.val, .int .i64 many] w fun e w' => e = .returned (twoI (7) false (memoryO x.a) (plainO x.b x.n)).val ∧ Later w w' := by
  have cK := fun w' => pick_any x.kind 22 hx.kind (by omega) w'
  have cQ := fun w' => pick_any x.c 5 hx.c (by omega) w'
  rw [hk] at cK
  clear hk
  have hq := pick_nat x.c 5 (by omega)
  obtain ⟨ak, aa, ab, ac, an⟩ := x
  have cA := fun w' => memory_any aa hx.a w'
  have cB := fun w' => plain_any ab an hx.b w'
  clear hx
  dsimp only at *
  generalize memoryO aa = oa at *
  generalize plainO ab an = ob at *
  obtain ⟨q, hq, hq5⟩ := hq
  rw [show ((5 : Nat) : Int) = 5 from rfl] at hq
  simp only [hq] at cQ ⊢
  clear hq
  obtain ⟨a0, a1, a2, a3⟩ := oa
  obtain ⟨o0, o1, o2, o3⟩ := ob
  unfold Opd.val at cA cB
  unfold Act5.val twoI Ins.val Ins.cells
  dsimp only at *
  have LL := Later.alloc (Later.alloc (Later.refl w) (.cells #[.int .i64 ak, .int .i64 aa, .int .i64 ab, .int .i64 ac, .int .i64 an] 52)) (.cells #[.int .i64 0, .bool false, .int .i64 0, .int .i64 0, .int .i64 0, .int .i64 0, .int .i64 0, .int .i64 0, .int .i64 0, .int .i64 0, .int .i64 0, .string ⟨#[]⟩, nilS] 39)
  obtain ⟨HB, HI⟩ := two_new2 w (.cells #[.int .i64 ak, .int .i64 aa, .int .i64 ab, .int .i64 ac, .int .i64 an] 52) (.cells #[.int .i64 0, .bool false, .int .i64 0, .int .i64 0, .int .i64 0, .int .i64 0, .int .i64 0, .int .i64 0, .int .i64 0, .int .i64 0, .int .i64 0, .string ⟨#[]⟩, nilS] 39)
  have hB : w.heap.size ≤ w.heap.size + 1 := by omega
  unfold nilS at *
  go_enter Tryd.func15, Tryd.ntmps15
  go_upto_region 24 with (first
    | (go_at_call 34; apply Calls.mono; (focus (with_reducible (exact cQ _))); rintro e w1 ⟨rfl, h1⟩; obtain rfl := h1.symm)
    | (go_at_call 34; apply Calls.mono; (focus (with_reducible (exact cK _))); rintro e w1 ⟨rfl, h1⟩; obtain rfl := h1.symm))
  generalize (w.alloc _).alloc _ = W at *
  obtain ⟨b0, b1, b2, b3, b4⟩ := box5_facts HB; obtain ⟨i0, i1, i2, i3, i4, i5, i6, i7, i8, i9, i10, i11, i12⟩ := box13_facts HI; obtain ⟨f0, f1, f2, f3, f4, f5, f6, f7, f8, f9, f10, f11, f12⟩ := box13_free HI
  generalize hC : w.heap.size + 1 = C at *
  generalize hE : w.heap.size = E at *
  have hEC : w.heap.size ≤ C := by omega
  have hne : E ≠ C := by omega
  clear hB hC
  have hne1 : ¬ E = C := hne
  have hne2 : ¬ C = E := fun h => hne h.symm
  clear b0 b1 b2 b3 b4
  go_region_held3 (fun w' => w'.cell? ⟨E, 0, none⟩ = some (.int .i64 ak) ∧ w'.cell? ⟨E, 1, none⟩ = some (.int .i64 aa) ∧ w'.cell? ⟨E, 2, none⟩ = some (.int .i64 ab) ∧ w'.cell? ⟨E, 3, none⟩ = some (.int .i64 ac) ∧ w'.cell? ⟨E, 4, none⟩ = some (.int .i64 an))
    ((first
      | with_reducible exact box5_facts HB
      | with_reducible exact box5_facts (heap_drew HB)
      | with_reducible exact box5_facts ((store13_other hne _ _ _ _ _ _ _ _ _ _ _ _ _).trans HB)
      | go_keep))
    (first
    | (go_at_call 37; apply Calls.mono; (focus (with_reducible (exact cA _))); rintro e wn ⟨rfl, hl⟩; replace HB := (by first | exact heap_later hl HB | exact heap_later hl (heap_later (Later.drew (Later.refl _)) HB)); replace HI := (by first | exact heap_later hl HI | exact heap_later hl (heap_later (Later.drew (Later.refl _)) HI)); replace LL := (by first | exact Later.trans LL hl | exact Later.trans (Later.drew LL) hl); obtain ⟨i0, i1, i2, i3, i4, i5, i6, i7, i8, i9, i10, i11, i12⟩ := box13_facts HI; obtain ⟨f0, f1, f2, f3, f4, f5, f6, f7, f8, f9, f10, f11, f12⟩ := box13_free HI)
    | (go_at_call 36; apply Calls.mono; (focus (with_reducible (exact cB _))); rintro e wn ⟨rfl, hl⟩; replace HB := (by first | exact heap_later hl HB | exact heap_later hl (heap_later (Later.drew (Later.refl _)) HB)); replace HI := (by first | exact heap_later hl HI | exact heap_later hl (heap_later (Later.drew (Later.refl _)) HI)); replace LL := (by first | exact Later.trans LL hl | exact Later.trans (Later.drew LL) hl); obtain ⟨i0, i1, i2, i3, i4, i5, i6, i7, i8, i9, i10, i11, i12⟩ := box13_facts HI; obtain ⟨f0, f1, f2, f3, f4, f5, f6, f7, f8, f9, f10, f11, f12⟩ := box13_free HI))
  all_goals obtain ⟨r0, r1, r2, r3, r4, r5, r6, r7, r8, r9, r10, r11, r12⟩ := box13_facts (store13_block HI (.int .i64 (7)) (.bool false) (.int .i64 0) (.int .i64 a0) (.int .i64 a1) (.int .i64 a2) (.int .i64 a3) (.int .i64 o0) (.int .i64 o1) (.int .i64 o2) (.int .i64 o3) (.string ⟨#[]⟩) (.slice none 0 0))
  all_goals have hfin := store13_later LL hEC (.int .i64 (7)) (.bool false) (.int .i64 0) (.int .i64 a0) (.int .i64 a1) (.int .i64 a2) (.int .i64 a3) (.int .i64 o0) (.int .i64 o1) (.int .i64 o2) (.int .i64 o3) (.string ⟨#[]⟩) (.slice none 0 0)
  all_goals unfold store13 at r0 r1 r2 r3 r4 r5 r6 r7 r8 r9 r10 r11 r12 hfin
  all_goals go_wp2
  all_goals refine bodyPost_ret (by simp [results, Tryd.results15, go_sem, r0, r1, r2, r3, r4, r5, r6, r7, r8, r9, r10, r11, r12]; try rfl) rfl ⟨rfl, hfin⟩

set_option maxRecDepth 1000000 in
set_option maxHeartbeats 4000000 in
theorem bookIns_8 (x : Act5) (hx : x.Ok) (many : Int) (w : World) (hk : pick x.kind 22 = 8) :
    Calls Tryd.prog 15 #[x.val, .int .i64 many] w fun e w' => e = .returned (twoI (8) false (memoryO x.a) (registerO x.b)).val ∧ Later w w' := by
  have cK := fun w' => pick_any x.kind 22 hx.kind (by omega) w'
  have cQ := fun w' => pick_any x.c 5 hx.c (by omega) w'
  rw [hk] at cK
  clear hk
  have hq := pick_nat x.c 5 (by omega)
  obtain ⟨ak, aa, ab, ac, an⟩ := x
  have cA := fun w' => memory_any aa hx.a w'
  have cB := fun w' => register_any ab hx.b w'
  clear hx
  dsimp only at *
  generalize memoryO aa = oa at *
  generalize registerO ab = ob at *
  obtain ⟨q, hq, hq5⟩ := hq
  rw [show ((5 : Nat) : Int) = 5 from rfl] at hq
  simp only [hq] at cQ ⊢
  clear hq
  obtain ⟨a0, a1, a2, a3⟩ := oa
  obtain ⟨o0, o1, o2, o3⟩ := ob
  unfold Opd.val at cA cB
  unfold Act5.val twoI Ins.val Ins.cells
  dsimp only at *
  have LL := Later.alloc (Later.alloc (Later.refl w) (.cells #[.int .i64 ak, .int .i64 aa, .int .i64 ab, .int .i64 ac, .int .i64 an] 52)) (.cells #[.int .i64 0, .bool false, .int .i64 0, .int .i64 0, .int .i64 0, .int .i64 0, .int .i64 0, .int .i64 0, .int .i64 0, .int .i64 0, .int .i64 0, .string ⟨#[]⟩, nilS] 39)
  obtain ⟨HB, HI⟩ := two_new2 w (.cells #[.int .i64 ak, .int .i64 aa, .int .i64 ab, .int .i64 ac, .int .i64 an] 52) (.cells #[.int .i64 0, .bool false, .int .i64 0, .int .i64 0, .int .i64 0, .int .i64 0, .int .i64 0, .int .i64 0, .int .i64 0, .int .i64 0, .int .i64 0, .string ⟨#[]⟩, nilS] 39)
  have hB : w.heap.size ≤ w.heap.size + 1 := by omega
  unfold nilS at *
  go_enter Tryd.func15, Tryd.ntmps15
  go_upto_region 26 with (first
    | (go_at_call 34; apply Calls.mono; (focus (with_reducible (exact cQ _))); rintro e w1 ⟨rfl, h1⟩; obtain rfl := h1.symm)
    | (go_at_call 34; apply Calls.mono; (focus (with_reducible (exact cK _))); rintro e w1 ⟨rfl, h1⟩; obtain rfl := h1.symm))
  generalize (w.alloc _).alloc _ = W at *
  obtain ⟨b0, b1, b2, b3, b4⟩ := box5_facts HB; obtain ⟨i0, i1, i2, i3, i4, i5, i6, i7, i8, i9, i10, i11, i12⟩ := box13_facts HI; obtain ⟨f0, f1, f2, f3, f4, f5, f6, f7, f8, f9, f10, f11, f12⟩ := box13_free HI
  generalize hC : w.heap.size + 1 = C at *
  generalize hE : w.heap.size = E at *
  have hEC : w.heap.size ≤ C := by omega
  have hne : E ≠ C := by omega
  clear hB hC
  have hne1 : ¬ E = C := hne
  have hne2 : ¬ C = E := fun h => hne h.symm
  clear b0 b1 b2 b3 b4
  go_region_held3 (fun w' => w'.cell? ⟨E, 0, none⟩ = some (.int .i64 ak) ∧ w'.cell? ⟨E, 1, none⟩ = some (.int .i64 aa) ∧ w'.cell? ⟨E, 2, none⟩ = some (.int .i64 ab) ∧ w'.cell? ⟨E, 3, none⟩ = some (.int .i64 ac) ∧ w'.cell? ⟨E, 4, none⟩ = some (.int .i64 an))
    ((first
      | with_reducible exact box5_facts HB
      | with_reducible exact box5_facts (heap_drew HB)
      | with_reducible exact box5_facts ((store13_other hne _ _ _ _ _ _ _ _ _ _ _ _ _).trans HB)
      | go_keep))
    (first
    | (go_at_call 37; apply Calls.mono; (focus (with_reducible (exact cA _))); rintro e wn ⟨rfl, hl⟩; replace HB := (by first | exact heap_later hl HB | exact heap_later hl (heap_later (Later.drew (Later.refl _)) HB)); replace HI := (by first | exact heap_later hl HI | exact heap_later hl (heap_later (Later.drew (Later.refl _)) HI)); replace LL := (by first | exact Later.trans LL hl | exact Later.trans (Later.drew LL) hl); obtain ⟨i0, i1, i2, i3, i4, i5, i6, i7, i8, i9, i10, i11, i12⟩ := box13_facts HI; obtain ⟨f0, f1, f2, f3, f4, f5, f6, f7, f8, f9, f10, f11, f12⟩ := box13_free HI)
    | (go_at_call 35; apply Calls.mono; (focus (with_reducible (exact cB _))); rintro e wn ⟨rfl, hl⟩; replace HB := (by first | exact heap_later hl HB | exact heap_later hl (heap_later (Later.drew (Later.refl _)) HB)); replace HI := (by first | exact heap_later hl HI | exact heap_later hl (heap_later (Later.drew (Later.refl _)) HI)); replace LL := (by first | exact Later.trans LL hl | exact Later.trans (Later.drew LL) hl); obtain ⟨i0, i1, i2, i3, i4, i5, i6, i7, i8, i9, i10, i11, i12⟩ := box13_facts HI; obtain ⟨f0, f1, f2, f3, f4, f5, f6, f7, f8, f9, f10, f11, f12⟩ := box13_free HI))
  all_goals obtain ⟨r0, r1, r2, r3, r4, r5, r6, r7, r8, r9, r10, r11, r12⟩ := box13_facts (store13_block HI (.int .i64 (8)) (.bool false) (.int .i64 0) (.int .i64 a0) (.int .i64 a1) (.int .i64 a2) (.int .i64 a3) (.int .i64 o0) (.int .i64 o1) (.int .i64 o2) (.int .i64 o3) (.string ⟨#[]⟩) (.slice none 0 0))
  all_goals have hfin := store13_later LL hEC (.int .i64 (8)) (.bool false) (.int .i64 0) (.int .i64 a0) (.int .i64 a1) (.int .i64 a2) (.int .i64 a3) (.int .i64 o0) (.int .i64 o1) (.int .i64 o2) (.int .i64 o3) (.string ⟨#[]⟩) (.slice none 0 0)
  all_goals unfold store13 at r0 r1 r2 r3 r4 r5 r6 r7 r8 r9 r10 r11 r12 hfin
  all_goals go_wp2
  all_goals refine bodyPost_ret (by simp [results, Tryd.results15, go_sem, r0, r1, r2, r3, r4, r5, r6, r7, r8, r9, r10, r11, r12]; try rfl) rfl ⟨rfl, hfin⟩

set_option maxRecDepth 1000000 in
set_option maxHeartbeats 4000000 in
theorem bookIns_9 (x : Act5) (hx : x.Ok) (many : Int) (w : World) (hk : pick x.kind 22 = 9) :
    Calls Tryd.prog 15 #[x.val, .int .i64 many] w fun e w' => e = .returned (twoI (9) true (memoryO x.a) (registerO x.b)).val ∧ Later w w' := by
  have cK := fun w' => pick_any x.kind 22 hx.kind (by omega) w'
  have cQ := fun w' => pick_any x.c 5 hx.c (by omega) w'
  rw [hk] at cK
  clear hk
  have hq := pick_nat x.c 5 (by omega)
  obtain ⟨ak, aa, ab, ac, an⟩ := x
  have cA := fun w' => memory_any aa hx.a w'
  have cB := fun w' => register_any ab hx.b w'
  clear hx
  dsimp only at *
  generalize memoryO aa = oa at *
  generalize registerO ab = ob at *
  obtain ⟨q, hq, hq5⟩ := hq
  rw [show ((5 : Nat) : Int) = 5 from rfl] at hq
  simp only [hq] at cQ ⊢
  clear hq
  obtain ⟨a0, a1, a2, a3⟩ := oa
  obtain ⟨o0, o1, o2, o3⟩ := ob
  unfold Opd.val at cA cB
  unfold Act5.val twoI Ins.val Ins.cells
  dsimp only at *
  have LL := Later.alloc (Later.alloc (Later.refl w) (.cells #[.int .i64 ak, .int .i64 aa, .int .i64 ab, .int .i64 ac, .int .i64 an] 52)) (.cells #[.int .i64 0, .bool false, .int .i64 0, .int .i64 0, .int .i64 0, .int .i64 0, .int .i64 0, .int .i64 0, .int .i64 0, .int .i64 0, .int .i64 0, .string ⟨#[]⟩, nilS] 39)
  obtain ⟨HB, HI⟩ := two_new2 w (.cells #[.int .i64 ak, .int .i64 aa, .int .i64 ab, .int .i64 ac, .int .i64 an] 52) (.cells #[.int .i64 0, .bool false, .int .i64 0, .int .i64 0, .int .i64 0, .int .i64 0, .int .i64 0, .int .i64 0, .int .i64 0, .int .i64 0, .int .i64 0, .string ⟨#[]⟩, nilS] 39)
  have hB : w.heap.size ≤ w.heap.size + 1 := by omega
  unfold nilS at *
  go_enter Tryd.func15, Tryd.ntmps15
  go_upto_region 28 with (first
    | (go_at_call 34; apply Calls.mono; (focus (with_reducible (exact cQ _))); rintro e w1 ⟨rfl, h1⟩; obtain rfl := h1.symm)
    | (go_at_call 34; apply Calls.mono; (focus (with_reducible (exact cK _))); rintro e w1 ⟨rfl, h1⟩; obtain rfl := h1.symm))
  generalize (w.alloc _).alloc _ = W at *
  obtain ⟨b0, b1, b2, b3, b4⟩ := box5_facts HB; obtain ⟨i0, i1, i2, i3, i4, i5, i6, i7, i8, i9, i10, i11, i12⟩ := box13_facts HI; obtain ⟨f0, f1, f2, f3, f4, f5, f6, f7, f8, f9, f10, f11, f12⟩ := box13_free HI
  generalize hC : w.heap.size + 1 = C at *
  generalize hE : w.heap.size = E at *
  have hEC : w.heap.size ≤ C := by omega
  have hne : E ≠ C := by omega
  clear hB hC
  have hne1 : ¬ E = C := hne
  have hne2 : ¬ C = E := fun h => hne h.symm
  clear b0 b1 b2 b3 b4
  go_region_held3 (fun w' => w'.cell? ⟨E, 0, none⟩ = some (.int .i64 ak) ∧ w'.cell? ⟨E, 1, none⟩ = some (.int .i64 aa) ∧ w'.cell? ⟨E, 2, none⟩ = some (.int .i64 ab) ∧ w'.cell? ⟨E, 3, none⟩ = some (.int .i64 ac) ∧ w'.cell? ⟨E, 4, none⟩ = some (.int .i64 an))
    ((first
      | with_reducible exact box5_facts HB
      | with_reducible exact box5_facts (heap_drew HB)
      | with_reducible exact box5_facts ((store13_other hne _ _ _ _ _ _ _ _ _ _ _ _ _).trans HB)
      | go_keep))
    (first
    | (go_at_call 37; apply Calls.mono; (focus (with_reducible (exact cA _))); rintro e wn ⟨rfl, hl⟩; replace HB := (by first | exact heap_later hl HB | exact heap_later hl (heap_later (Later.drew (Later.refl _)) HB)); replace HI := (by first | exact heap_later hl HI | exact heap_later hl (heap_later (Later.drew (Later.refl _)) HI)); replace LL := (by first | exact Later.trans LL hl | exact Later.trans (Later.drew LL) hl); obtain ⟨i0, i1, i2, i3, i4, i5, i6, i7, i8, i9, i10, i11, i12⟩ := box13_facts HI; obtain ⟨f0, f1, f2, f3, f4, f5, f6, f7, f8, f9, f10, f11, f12⟩ := box13_free HI)
    | (go_at_call 35; apply Calls.mono; (focus (with_reducible (exact cB _))); rintro e wn ⟨rfl, hl⟩; replace HB := (by first | exact heap_later hl HB | exact heap_later hl (heap_later (Later.drew (Later.refl _)) HB)); replace HI := (by first | exact heap_later hl HI | exact heap_later hl (heap_later (Later.drew (Later.refl _)) HI)); replace LL := (by first | exact Later.trans LL hl | exact Later.trans (Later.drew LL) hl); obtain ⟨i0, i1, i2, i3, i4, i5, i6, i7, i8, i9, i10, i11, i12⟩ := box13_facts HI; obtain ⟨f0, f1, f2, f3, f4, f5, f6, f7, f8, f9, f10, f11, f12⟩ := box13_free HI))
  all_goals obtain ⟨r0, r1, r2, r3, r4, r5, r6, r7, r8, r9, r10, r11, r12⟩ := box13_facts (store13_block HI (.int .i64 (9)) (.bool true) (.int .i64 0) (.int .i64 a0) (.int .i64 a1) (.int .i64 a2) (.int .i64 a3) (.int .i64 o0) (.int .i64 o1) (.int .i64 o2) (.int .i64 o3) (.string ⟨#[]⟩) (.slice none 0 0))
  all_goals have hfin := store13_later LL hEC (.int .i64 (9)) (.bool true) (.int .i64 0) (.int .i64 a0) (.int .i64 a1) (.int .i64 a2) (.int .i64 a3) (.int .i64 o0) (.int .i64 o1) (.int .i64 o2) (.int .i64 o3) (.string ⟨#[]⟩) (.slice none 0 0)
  all_goals unfold store13 at r0 r1 r2 r3 r4 r5 r6 r7 r8 r9 r10 r11 r12 hfin
  all_goals go_wp2
  all_goals refine bodyPost_ret (by simp [results, Tryd.results15, go_sem, r0, r1, r2, r3, r4, r5, r6, r7, r8, r9, r10, r11, r12]; try rfl) rfl ⟨rfl, hfin⟩

end Go.Proofs.YtegogmbcjjjjjaaDoor
