/-
  What the statements' own makers of operands and labels return: register, plain, memory, label. Nothing that was in memory turns. Conditions: the numbers are of 64 bits; as each theorem names them.
-/
import Derived.Test.YtginggelbfbcfaaDoorPick
import Derived.Test.YtginggelbfbcfaaDoorRefOpnd
import Derived.Test.YtginggelbfbcfaaDoorBoxes
import Derived.RegionTactic
import Derived.Deep.CutRange
import Derived.Laws.BytesArg
namespace Go.Proofs.YtginggelbfbcfaaDoor
open Go.RowKit
set_option linter.unusedVariables false
set_option linter.unusedSimpArgs false

/-- A number of 64 bits. -/
def I64 (n : Int) : Prop := -9223372036854775808 ≤ n ∧ n ≤ 9223372036854775807

def registerO (k : Int) : Opd := ⟨1, pick k 4, 0, 0⟩
def plainO (k n : Int) : Opd := if pick k 3 = 0 then registerO (k.tdiv 3) else ⟨2, 0, 0, n⟩
def memoryO (k : Int) : Opd :=
  if pick k 60 % 5 = 4 then ⟨4, pick k 60 / 15, pick k 60 / 5 % 3, 0⟩
  else ⟨3, 0, pick k 60 / 5 % 3, pick k 60 % 5 % (if pick k 60 / 5 % 3 = 1 then 2 else 1)⟩
/-- The text of a label. -/
def labelT (i : Nat) : ByteArray := ⟨#[108, UInt8.ofNat (48 + i / 10), UInt8.ofNat (48 + i % 10)]⟩

theorem Later.set4 {w w' : World} (h : Later w w') {B : Nat} (hB : w.heap.size ≤ B) (x y z u : Value) : Later w ((((w'.setCell ⟨B, 0, none⟩ x).setCell ⟨B, 1, none⟩ y).setCell ⟨B, 2, none⟩ z).setCell ⟨B, 3, none⟩ u) :=
  Below.setCell (Below.setCell (Below.setCell (Below.setCell h hB _) hB _) hB _) hB _

set_option maxRecDepth 1000000 in
set_option maxHeartbeats 1000000 in
theorem register_any (k : Int) (hk : I64 k) (w : World) :
    Calls Tryd.prog 30 #[.int .i64 k] w fun e w' => e = .returned (registerO k).val ∧ Later w w' := by
  have c := fun w' => pick_any k 4 hk (by omega) w'
  unfold registerO Opd.val
  generalize pick k 4 = r at *
  go_enter Tryd.func30, Tryd.ntmps30
  go_wp2_with (go_at_call 13; apply Calls.mono; (focus (with_reducible (exact c _))); rintro e w1 ⟨rfl, h1⟩; obtain rfl := h1.symm)
  refine bodyPost_ret (by simp [results, Tryd.results30, go_sem]; try rfl) rfl ⟨rfl, Later.alloc (Later.refl _) _⟩

set_option maxRecDepth 1000000 in
set_option maxHeartbeats 1000000 in
theorem plain_any (k n : Int) (hk : I64 k) (w : World) :
    Calls Tryd.prog 31 #[.int .i64 k, .int .i64 n] w fun e w' => e = .returned (plainO k n).val ∧ Later w w' := by
  have c := fun w' => pick_any k 3 hk (by omega) w'
  have hq : I64 (k.tdiv 3) := by
    have := Int.mul_tdiv_add_tmod k 3
    have h1 := Int.tmod_lt_of_pos k (show (0 : Int) < 3 by omega)
    have h2 := Int.lt_tmod_of_pos k (show (0 : Int) < 3 by omega)
    unfold I64 at *
    omega
  have cr := fun w' => register_any (k.tdiv 3) hq w'
  have L0 := Later.alloc (Later.refl w) (.cells #[.int .i64 0, .int .i64 0, .int .i64 0, .int .i64 0] 23)
  have h0 := at_new w (.cells #[.int .i64 0, .int .i64 0, .int .i64 0, .int .i64 0] 23)
  unfold plainO
  by_cases h : pick k 3 = 0
  · rw [if_pos h]
    rw [h] at c
    generalize registerO (k.tdiv 3) = o at *
    obtain ⟨ok, or, os, on⟩ := o
    unfold Opd.val at *
    unfold I64 at *
    go_enter Tryd.func31, Tryd.ntmps31
    go_wp2_with (first
      | (go_at_call 13; apply Calls.mono; (focus (with_reducible (exact c _))); rintro e w1 ⟨rfl, h1⟩; obtain rfl := h1.symm)
      | (go_at_call 30; apply Calls.mono; (focus (with_reducible (exact cr _))); rintro e w2 ⟨rfl, hl2⟩; obtain ⟨d0, d1, d2, d3, f0, f1, f2, f3⟩ := box4_facts (heap_later hl2 h0)))
    have hs := box4_stored (heap_later hl2 h0) (.int .i64 ok) (.int .i64 or) (.int .i64 os) (.int .i64 on)
    obtain ⟨r0, r1, r2, r3, -, -, -, -⟩ := box4_facts hs
    refine bodyPost_ret (by simp [results, Tryd.results31, go_sem, r0, r1, r2, r3]; try rfl) rfl ⟨rfl, ?_⟩
    exact Later.set4 (L0.trans hl2) (Nat.le_refl _) _ _ _ _
  · rw [if_neg h]
    have h' : (pick k 3 == 0) = false := by simp; exact h
    generalize pick k 3 = p at *
    unfold Opd.val
    go_enter Tryd.func31, Tryd.ntmps31
    go_wp2_with (go_at_call 13; apply Calls.mono; (focus (with_reducible (exact c _))); rintro e w1 ⟨rfl, h1⟩; obtain rfl := h1.symm)
    refine bodyPost_ret (by simp [results, Tryd.results31, go_sem]; try rfl) rfl ⟨rfl, Later.alloc (Later.refl _) _⟩

theorem memoryO_val (k : Int) : ∃ m : Nat, pick k 60 = (m : Nat) ∧ m < 60 := by
  have h := pick_nat k 60 (by omega)
  exact h

set_option maxRecDepth 1000000 in
set_option maxHeartbeats 1000000 in
theorem memory_any (k : Int) (hk : I64 k) (w : World) :
    Calls Tryd.prog 32 #[.int .i64 k] w fun e w' => e = .returned (memoryO k).val ∧ Later w w' := by
  have c := fun w' => pick_any k 60 hk (by omega) w'
  unfold memoryO
  obtain ⟨m, hm, hlt⟩ := memoryO_val k
  rw [hm] at c ⊢
  clear hm hk
  have e1 : (m : Int).tmod 5 = ((m % 5 : Nat) : Int) := by rw [Int.tmod_eq_emod_of_nonneg (by omega)]; omega
  have e2 : (m : Int).tdiv 5 = ((m / 5 : Nat) : Int) := by rw [Int.tdiv_eq_ediv_of_nonneg (by omega)]; omega
  have e3 : ((m / 5 : Nat) : Int).tmod 3 = ((m / 5 % 3 : Nat) : Int) := by rw [Int.tmod_eq_emod_of_nonneg (by omega)]; omega
  have e4 : (m : Int).tdiv 15 = ((m / 15 : Nat) : Int) := by rw [Int.tdiv_eq_ediv_of_nonneg (by omega)]; omega
  have r2 : (m : Int) / 5 % 3 = ((m / 5 % 3 : Nat) : Int) := by omega
  have r4 : (m : Int) / 15 = ((m / 15 : Nat) : Int) := by omega
  have r1 : (m : Int) % 5 = ((m % 5 : Nat) : Int) := by omega
  rw [r1, r2, r4]
  have b3 : m / 5 % 3 < 3 := by omega
  have b5 : m % 5 < 5 := by omega
  have b15 : m / 15 < 4 := by omega
  have b25 : m / 5 < 12 := by omega
  generalize m / 5 % 3 = s at *
  generalize m % 5 = p at *
  generalize m / 15 = g at *
  generalize m / 5 = q at *
  by_cases h4 : p = 4
  · subst h4
    rw [if_pos (by omega)]
    unfold Opd.val
    go_enter Tryd.func32, Tryd.ntmps32
    go_wp2_with (go_at_call 13; apply Calls.mono; (focus (with_reducible (exact c _))); rintro e w1 ⟨rfl, h1⟩; obtain rfl := h1.symm)
    refine bodyPost_ret (by simp [results, Tryd.results32, go_sem]; try rfl) rfl ⟨rfl, Later.alloc (Later.alloc (Later.refl _) _) _⟩
  · rw [if_neg (by omega)]
    have h4' : ((p : Int) == 4) = false := by simp; omega
    obtain rfl | rfl | rfl : s = 0 ∨ s = 1 ∨ s = 2 := by omega
    · have e3' : (q : Int).tmod 3 = 0 := by rw [e3]; rfl
      have f1 : (p : Int).tmod 1 = 0 := by rw [Int.tmod_eq_emod_of_nonneg (by omega)]; omega
      have f2 : (p : Int) % (if ((0 : Nat) : Int) = 1 then 2 else 1) = 0 := by simp; try omega
      rw [f2]
      clear e3 r1 r2 r4 f2
      unfold Opd.val
      go_enter Tryd.func32, Tryd.ntmps32
      go_wp2_with (go_at_call 13; apply Calls.mono; (focus (with_reducible (exact c _))); rintro e w1 ⟨rfl, h1⟩; obtain rfl := h1.symm)
      refine bodyPost_ret (by simp [results, Tryd.results32, go_sem]; try rfl) rfl ⟨rfl, Later.alloc (Later.alloc (Later.refl _) _) _⟩
    · have e3' : (q : Int).tmod 3 = 1 := by rw [e3]; rfl
      have f1 : (p : Int).tmod 2 = ((p % 2 : Nat) : Int) := by rw [Int.tmod_eq_emod_of_nonneg (by omega)]; omega
      have f2 : (p : Int) % (if ((1 : Nat) : Int) = 1 then 2 else 1) = ((p % 2 : Nat) : Int) := by simp; try omega
      rw [f2]
      clear e3 r1 r2 r4 f2
      unfold Opd.val
      go_enter Tryd.func32, Tryd.ntmps32
      go_wp2_with (go_at_call 13; apply Calls.mono; (focus (with_reducible (exact c _))); rintro e w1 ⟨rfl, h1⟩; obtain rfl := h1.symm)
      refine bodyPost_ret (by simp [results, Tryd.results32, go_sem]; try rfl) rfl ⟨rfl, Later.alloc (Later.alloc (Later.refl _) _) _⟩
    · have e3' : (q : Int).tmod 3 = 2 := by rw [e3]; rfl
      have f1 : (p : Int).tmod 1 = 0 := by rw [Int.tmod_eq_emod_of_nonneg (by omega)]; omega
      have f2 : (p : Int) % (if ((2 : Nat) : Int) = 1 then 2 else 1) = 0 := by simp; try omega
      rw [f2]
      clear e3 r1 r2 r4 f2
      unfold Opd.val
      go_enter Tryd.func32, Tryd.ntmps32
      go_wp2_with (go_at_call 13; apply Calls.mono; (focus (with_reducible (exact c _))); rintro e w1 ⟨rfl, h1⟩; obtain rfl := h1.symm)
      refine bodyPost_ret (by simp [results, Tryd.results32, go_sem]; try rfl) rfl ⟨rfl, Later.alloc (Later.alloc (Later.refl _) _) _⟩

set_option maxRecDepth 1000000 in
set_option maxHeartbeats 1000000 in
theorem label_any (i : Nat) (hi : i < 100) (w : World) :
    Calls Tryd.prog 33 #[.int .i64 i] w fun e w' => e = .returned (.string (labelT i)) ∧ Later w w' := by
  have e1 : (i : Int).tdiv 10 = ((i / 10 : Nat) : Int) := by rw [Int.tdiv_eq_ediv_of_nonneg (by omega)]; omega
  have e2 : (i : Int).tmod 10 = ((i % 10 : Nat) : Int) := by rw [Int.tmod_eq_emod_of_nonneg (by omega)]; omega
  unfold labelT
  have b1 : i / 10 < 10 := by omega
  have b2 : i % 10 < 10 := by omega
  generalize i / 10 = a at *
  generalize i % 10 = b at *
  have hcv := run_convert_bytes_arg (P := Tryd.prog) (w.alloc (.cells #[.int .u8 (48 + (a : Int)), .int .u8 (48 + (b : Int))] 5)) 54 5 Tryd.underlying54 Tryd.underlying5 w.heap.size 0 2 2 [48 + (a : Int), 48 + (b : Int)] rfl (fun j hj => by
    obtain ⟨h0, h1, -, -⟩ := box2_facts (at_new w (.cells #[.int .u8 (48 + (a : Int)), .int .u8 (48 + (b : Int))] 5))
    obtain rfl | rfl : j = 0 ∨ j = 1 := by omega
    · exact h0
    · exact h1) 9 Tryd.underlying9
  have hS : (⟨#[108]⟩ : ByteArray) ++ strOfNums [48 + (a : Int), 48 + (b : Int)] = ⟨#[108, UInt8.ofNat (48 + a), UInt8.ofNat (48 + b)]⟩ := by
    have e1 : (48 + (a : Int)).toNat = 48 + a := by omega
    have e2 : (48 + (b : Int)).toNat = 48 + b := by omega
    simp only [strOfNums, List.map_cons, List.map_nil, e1, e2]
    apply ByteArray.ext
    simp [ByteArray.data_append]
  have hZ : (strOfNums [48 + (a : Int), 48 + (b : Int)]).size = 2 := by simp [strOfNums, ByteArray.size]
  rw [← hS]
  generalize strOfNums [48 + (a : Int), 48 + (b : Int)] = S at *
  clear hS
  go_enter Tryd.func33, Tryd.ntmps33
  go_wp2
  go_ret
  exact ⟨rfl, Later.alloc (Later.refl _) _⟩

end Go.Proofs.YtginggelbfbcfaaDoor
