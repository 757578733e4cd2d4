/-
  What names.RegText returns, and opnd's look at a register. Nothing turns. Conditions: the table of the registers' words stands as the program's text lays it.
-/
import Derived.Test.YtginggelbfbcfaaDoorTables
namespace Go.Proofs.YtginggelbfbcfaaDoor
open Go.RowKit
set_option linter.unusedVariables false

set_option maxRecDepth 1000000 in
set_option maxHeartbeats 1000000 in
theorem regText_any (r : Int) (w : World) (hT : Tab w 2 regsT) :
    Calls Tryd.prog 73 #[.int .i64 r] w fun e w' => e = .returned (.string (textAt regsT r)) ∧ w' = w := by
  by_cases h0 : r < 0
  · rw [show textAt regsT r = ⟨#[]⟩ by simp only [textAt]; rw [if_neg (by omega)]]
    go_enter Tryd.func73, Tryd.ntmps73
    go_wp2
    go_ret
    exact ⟨rfl, rfl⟩
  · by_cases h1 : 8 ≤ r
    · rw [show textAt regsT r = ⟨#[]⟩ by simp only [textAt]; rw [if_neg (by simp [regsT]; omega)]]
      go_enter Tryd.func73, Tryd.ntmps73
      go_wp2
      go_ret
      exact ⟨rfl, rfl⟩
    · obtain ⟨k, rfl⟩ : ∃ k : Nat, r = (k : Nat) := ⟨r.toNat, by omega⟩
      have hk : k < regsT.length := by simp [regsT]; omega
      have hc := hT k _ (List.getElem?_eq_getElem hk)
      have e : textAt regsT (k : Int) = regsT[k] := by
        simp only [textAt]
        rw [if_pos (by omega)]
        simp [hk]
      rw [e]
      generalize regsT[k] = t at *
      clear e hT
      have hk' : (k : Int) < 8 := by omega
      go_enter Tryd.func73, Tryd.ntmps73
      go_wp2
      go_ret
      exact ⟨rfl, rfl⟩

/-- A register's word is not empty; of what is none it is. -/
theorem regText_no (r : Int) : ((textAt regsT r).toList.isEmpty = false) ↔ 0 ≤ r ∧ r ≤ 7 := by
  rw [ByteArray.toList_eq]
  by_cases h : 0 ≤ r ∧ r ≤ 7
  · simp only [h, and_self, iff_true]
    obtain ⟨k, rfl⟩ : ∃ k : Nat, r = (k : Nat) := ⟨r.toNat, by omega⟩
    match k, h with
    | 0, _ => rfl
    | 1, _ => rfl
    | 2, _ => rfl
    | 3, _ => rfl
    | 4, _ => rfl
    | 5, _ => rfl
    | 6, _ => rfl
    | 7, _ => rfl
    | n + 8, h => omega
  · simp only [h, iff_false, Bool.not_eq_false]
    rw [show textAt regsT r = ⟨#[]⟩ by simp only [textAt]; rw [if_neg (by simp [regsT]; omega)]]
    rfl

end Go.Proofs.YtginggelbfbcfaaDoor
