/-
  What Short and Pick do: Short returns a text's first 60 bytes; Pick returns a number from 0 to 3. Nothing in memory turns. Conditions: the text's length and the number are of 64 bits.
-/
import Derived.Test.YtidlapopnigcjaaDoorCalls
namespace Go.Proofs.YtidlapopnigcjaaDoor
open Go.RowKit

/-- A text's first 60 bytes. -/
def short (s : ByteArray) : ByteArray := s.extract 0 (min (s.size : Int) 60).toNat

theorem short_size (s : ByteArray) : (short s).size ≤ 60 := by
  unfold short
  rw [ByteArray.size_extract]
  omega

theorem short_any (s : ByteArray) (hs : s.size ≤ 140737488355328) (w : World) :
    Calls Tryd.prog 8 #[.string s, .int .i64 60] w fun e w' => e = .returned (.string (short s)) ∧ Later w w' := by
  go_enter Tryd.func8, Tryd.ntmps8
  go_wp2
  go_ret
  exact ⟨rfl, Later.refl _⟩

/-- A text of at most 60 bytes is a number's own, or is not read. -/
theorem two_ways (s : ByteArray) : (∃ v, -9223372036854775808 ≤ v ∧ v ≤ 9223372036854775807 ∧ s = txt v) ∨ okOf s.data.toList = false := by
  cases h : okOf s.data.toList with
  | false => exact Or.inr rfl
  | true =>
    obtain ⟨e, a, b⟩ := ok_text h
    exact Or.inl ⟨_, a, b, (txt_eq e).symm⟩

/-- Which of four. -/
def pick4 (n : Int) : Int := if n.tmod 4 < 0 then n.tmod 4 + 4 else n.tmod 4

theorem pick4_one (n : Int) : pick4 n = 0 ∨ pick4 n = 1 ∨ pick4 n = 2 ∨ pick4 n = 3 := by
  unfold pick4
  have h1 := Int.tmod_lt_of_pos n (b := 4) (by omega)
  have h2 : -4 < n.tmod 4 := by
    have := Int.tmod_lt_of_pos (-n) (b := 4) (by omega)
    rw [Int.neg_tmod] at this
    omega
  split <;> omega

theorem pick_any (n : Int) (w : World) :
    Calls Tryd.prog 14 #[.int .i64 n, .int .i64 4] w fun e w' => e = .returned (.int .i64 (pick4 n)) ∧ w' = w := by
  unfold pick4
  by_cases h : n.tmod 4 < 0
  · have h2 : -4 < n.tmod 4 := by
      have := Int.tmod_lt_of_pos (-n) (b := 4) (by omega)
      rw [Int.neg_tmod] at this
      omega
    have e : wrap64 (n.tmod 4 + 4) = n.tmod 4 + 4 := by
      generalize n.tmod 4 = x at h h2
      rw [wrap64]
      omega
    rw [if_pos h]
    go_enter Tryd.func14, Tryd.ntmps14
    go_wp2
    go_ret
    exact ⟨rfl, rfl⟩
  · rw [if_neg h]
    go_enter Tryd.func14, Tryd.ntmps14
    go_wp2
    go_ret
    exact ⟨rfl, rfl⟩

/-- How the machine compares two texts, and how lists of bytes compare. -/
theorem less_before : ∀ l r : List UInt8, Op.bytesLess l r = before l r
  | [], [] => rfl
  | [], _ :: _ => rfl
  | _ :: _, [] => rfl
  | a :: l, b :: r => by
    have e : before (a :: l) (b :: r) = (decide (a.toNat < b.toNat) || (a.toNat == b.toNat && before l r)) := rfl
    have e0 : Op.bytesLess (a :: l) (b :: r) = (decide (a < b) || (a == b && Op.bytesLess l r)) := rfl
    have e1 : decide (a < b) = decide (a.toNat < b.toNat) := by simp only [UInt8.lt_iff_toNat_lt]
    have e2 : (a == b) = (a.toNat == b.toNat) := by
      rw [Bool.eq_iff_iff, beq_iff_eq, beq_iff_eq]
      exact UInt8.toNat_inj.symm
    rw [e, e0, ← less_before l r, e1, e2]

/-- Of two numbers from 0 on: how their texts stand to each other. -/
theorem order_txt (a b : Int) (ha : 0 ≤ a) (hb : 0 ≤ b) :
    (a < b ∧ (txt a).size < (txt b).size) ∨ (¬ a < b ∧ (txt b).size < (txt a).size) ∨ ((txt a).size = (txt b).size ∧ Op.bytesLess (txt a).toList (txt b).toList = decide (a < b)) := by
  obtain ⟨u, rfl⟩ : ∃ u : Nat, a = u := ⟨a.toNat, by omega⟩
  obtain ⟨v, rfl⟩ : ∃ v : Nat, b = v := ⟨b.toNat, by omega⟩
  have h := order_dec u v
  have e1 : (txt (u : Int)).size = (Lib.decDigits u).length := by
    rw [← Lib.itoa_nonneg]; show (Lib.itoa (u : Int)).toArray.size = _; simp
  have e2 : (txt (v : Int)).size = (Lib.decDigits v).length := by
    rw [← Lib.itoa_nonneg]; show (Lib.itoa (v : Int)).toArray.size = _; simp
  rw [e1, e2, ByteArray.toList_eq, ByteArray.toList_eq, txt_list, txt_list, Lib.itoa_nonneg, Lib.itoa_nonneg, less_before]
  rcases Nat.lt_trichotomy (Lib.decDigits u).length (Lib.decDigits v).length with hl | hl | hl
  · rw [decide_eq_true hl, Bool.true_or, decide_eq_true_iff] at h
    exact Or.inl ⟨by omega, hl⟩
  · refine Or.inr (Or.inr ⟨hl, ?_⟩)
    rw [decide_eq_false (show ¬ (Lib.decDigits u).length < (Lib.decDigits v).length by omega), beq_iff_eq.2 hl, Bool.false_or, Bool.true_and] at h
    rw [← h]
    simp
  · rw [decide_eq_false (show ¬ (Lib.decDigits u).length < (Lib.decDigits v).length by omega), beq_eq_false_iff_ne.2 (show (Lib.decDigits u).length ≠ (Lib.decDigits v).length by omega), Bool.false_or, Bool.false_and, decide_eq_false_iff_not] at h
    exact Or.inr (Or.inl ⟨by omega, hl⟩)

end Go.Proofs.YtidlapopnigcjaaDoor
