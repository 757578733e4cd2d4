/-
  What is told of an instruction that may be is one of nine. Nothing runs here. Conditions: none.
-/
import Derived.Test.YtginggelbfbcfaaDoorBookRight
namespace Go.Proofs.YtginggelbfbcfaaDoor
open Go.RowKit
set_option linter.unusedVariables false
set_option linter.unusedSimpArgs false

theorem nine (x : Ins) (h : insF x = 0) :
    ((readsF x).2 = true ∧ (writesF x).2 = true ∧ lockedF x = false ∧ fenceF x = false ∧ partsF x = 2 ∧ leadsF x = (true, false) ∧ (x.op ≠ 10 ∧ x.op ≠ 12 ∧ x.op ≠ 14)) ∨ ((readsF x).2 = true ∧ (writesF x).2 = true ∧ lockedF x = true ∧ fenceF x = true ∧ partsF x = 1 ∧ leadsF x = (true, false) ∧ (x.op ≠ 10 ∧ x.op ≠ 12 ∧ x.op ≠ 14)) ∨ ((readsF x).2 = true ∧ (writesF x).2 = false ∧ lockedF x = false ∧ fenceF x = false ∧ partsF x = 1 ∧ leadsF x = (true, false) ∧ (x.op ≠ 10 ∧ x.op ≠ 12 ∧ x.op ≠ 14)) ∨ ((readsF x).2 = false ∧ (writesF x).2 = true ∧ lockedF x = false ∧ fenceF x = false ∧ partsF x = 1 ∧ leadsF x = (true, false) ∧ (x.op ≠ 10 ∧ x.op ≠ 12 ∧ x.op ≠ 14)) ∨ ((readsF x).2 = false ∧ (writesF x).2 = false ∧ lockedF x = false ∧ fenceF x = false ∧ partsF x = 1 ∧ leadsF x = (true, false) ∧ (x.op ≠ 10 ∧ x.op ≠ 12 ∧ x.op ≠ 14)) ∨ ((readsF x).2 = false ∧ (writesF x).2 = false ∧ lockedF x = false ∧ fenceF x = false ∧ partsF x = 1 ∧ leadsF x = (false, true) ∧ x.op = 10) ∨ ((readsF x).2 = false ∧ (writesF x).2 = false ∧ lockedF x = false ∧ fenceF x = false ∧ partsF x = 1 ∧ leadsF x = (true, true) ∧ x.op = 11) ∨ ((readsF x).2 = false ∧ (writesF x).2 = false ∧ lockedF x = false ∧ fenceF x = true ∧ partsF x = 1 ∧ leadsF x = (true, false) ∧ x.op = 12) ∨ ((readsF x).2 = false ∧ (writesF x).2 = false ∧ lockedF x = false ∧ fenceF x = false ∧ partsF x = 1 ∧ leadsF x = (false, false) ∧ x.op = 14) := by
  have hj : jumpsF x.op = true ↔ (x.op = 10 ∨ x.op = 11) := by simp [jumpsF]
  have hr : reckonsF x.op = true ↔ (2 ≤ x.op ∧ x.op ≤ 6) := by simp [reckonsF]
  have hm := @mem_not_reg x.a
  have hma : memF x.b = true → plainF x.b = false := by simp [memF, plainF]; omega
  have hmb : memF x.b = true → x.b.kind ≠ 1 := mem_not_reg
  have hp : plainF x.b = true ↔ (x.b.kind = 1 ∨ x.b.kind = 2) := by simp [plainF]
  have key : (9 < x.op ∧ x.op ≤ 14 ∧ x.lock = false) ∨ (1 ≤ x.op ∧ x.op ≤ 9 ∧ ((memF x.a = false ∧ x.lock = false ∧ x.op ≠ 8) ∨ (memF x.a = true ∧ memF x.b = false ∧ (x.lock = true → (2 ≤ x.op ∧ x.op ≤ 6) ∨ x.op = 9) ∧ (x.op = 9 → x.lock = true) ∧ (x.op = 8 → x.lock = false)))) := by
    unfold insF rowF at h
    generalize rightF _ = ri at *
    generalize opdRightF x.a = ra at *
    generalize opdRightF x.b = rb at *
    generalize memF x.a = ma at *
    generalize memF x.b = mb at *
    generalize plainF x.b = pb at *
    generalize jumpsF x.op = ju at *
    generalize reckonsF x.op = rk at *
    generalize opdZero x.a = za at *
    generalize opdZero x.b = zb at *
    generalize x.a.kind = ak at *
    generalize x.b.kind = bk at *
    generalize x.dest.data.toList.isEmpty = em at *
    generalize x.lock = lk at *
    generalize x.op = op at *
    generalize x.cond = cond at *
    by_cases h0 : op < 1 ∨ 14 < op
    · rw [if_pos h0] at h; omega
    · obtain rfl | rfl | rfl | rfl | rfl | rfl | rfl | rfl | rfl | rfl | rfl | rfl | rfl | rfl : op = 1 ∨ op = 2 ∨ op = 3 ∨ op = 4 ∨ op = 5 ∨ op = 6 ∨ op = 7 ∨ op = 8 ∨ op = 9 ∨ op = 10 ∨ op = 11 ∨ op = 12 ∨ op = 13 ∨ op = 14 := by omega
      all_goals simp at h hr hj ⊢
      all_goals grind
  have hl : leadsF x = (decide (x.op ≠ 10) && decide (x.op ≠ 14), jumpsF x.op) := by simp [leadsF, h]
  have hR : (readsF x).2 = (decide (x.op ≤ 9) && (memF x.b || (memF x.a && decide (x.op ≠ 1)))) := by
    simp only [readsF, h]
    by_cases h9 : 9 < x.op
    · simp [h9]; omega
    · by_cases hb : memF x.b = true
      · simp [h9, hb]; omega
      · by_cases ha : memF x.a = true
        · by_cases h1 : x.op = 1 <;> simp [h9, hb, ha, h1]; omega
        · simp [h9, hb, ha]
  have hW : (writesF x).2 = (decide (x.op ≤ 9) && memF x.a && decide (x.op ≠ 7)) := by
    simp only [writesF, h]
    by_cases h9 : 9 < x.op
    · simp [h9]; omega
    · by_cases h7 : x.op = 7
      · simp [h7]
      · by_cases ha : memF x.a = true
        · simp [h9, h7, ha]; omega
        · simp [h9, h7, ha]
  have hL : lockedF x = (decide (x.op = 8) || x.lock) := by simp [lockedF, h]
  have hF : fenceF x = (decide (x.op = 12) || lockedF x) := by simp [fenceF, h]
  have hP : partsF x = if ((readsF x).2 && (writesF x).2 && !lockedF x) = true then 2 else 1 := by simp [partsF, h]
  rw [hP, hF, hL, hR, hW, hl]
  clear hP hF hL hR hW hl h
  rcases key with ⟨k1, k2, k3⟩ | ⟨k1, k2, k3 | k3⟩
  · obtain h | h | h | h | h : x.op = 10 ∨ x.op = 11 ∨ x.op = 12 ∨ x.op = 13 ∨ x.op = 14 := by omega
    all_goals simp [h, k3, jumpsF]
  · obtain ⟨k4, k5, k6⟩ := k3
    by_cases hb : memF x.b = true
    · obtain h | h | h | h | h | h | h | h : x.op = 1 ∨ x.op = 2 ∨ x.op = 3 ∨ x.op = 4 ∨ x.op = 5 ∨ x.op = 6 ∨ x.op = 7 ∨ x.op = 9 := by omega
      all_goals simp [h, k4, k5, hb, jumpsF]
    · obtain h | h | h | h | h | h | h | h : x.op = 1 ∨ x.op = 2 ∨ x.op = 3 ∨ x.op = 4 ∨ x.op = 5 ∨ x.op = 6 ∨ x.op = 7 ∨ x.op = 9 := by omega
      all_goals simp [h, k4, k5, hb, jumpsF]
  · obtain ⟨k4, k5, k6, k7, k8⟩ := k3
    cases hk : x.lock
    all_goals obtain h | h | h | h | h | h | h | h | h : x.op = 1 ∨ x.op = 2 ∨ x.op = 3 ∨ x.op = 4 ∨ x.op = 5 ∨ x.op = 6 ∨ x.op = 7 ∨ x.op = 8 ∨ x.op = 9 := by omega
    all_goals simp [hk, h] at k6 k7 k8
    all_goals simp [h, k4, k5, hk, jumpsF]

end Go.Proofs.YtginggelbfbcfaaDoor
