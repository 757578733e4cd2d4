/-
  What palingbook.Pick returns: a number from 0 to m less 1; memory is as it was. Conditions: the number is of 64 bits, m is 1 to 10000000.
-/
import Derived.Test.YtpnbpjhoilibcaaDoorLater
namespace Go.Proofs.YtpnbpjhoilibcaaDoor
open Go.RowKit
set_option linter.unusedVariables false

def pick (n m : Int) : Int := n % m

theorem pick_any (n m : Int) (hn : -9223372036854775808 ≤ n ∧ n ≤ 9223372036854775807) (hm : 0 < m ∧ m ≤ 10000000) (w : World) :
    Calls Tryd.prog 33 #[.int .i64 n, .int .i64 m] w fun e w' => e = .returned (.int .i64 (pick n m)) ∧ w' = w := by
  have h0 : (m == 0) = false := by simp; omega
  have h1 : (m == -1) = false := by simp; omega
  have e1 : (n.tmod m = n % m ∧ 0 ≤ n % m) ∨ (n.tmod m = n % m - m) := by
    rw [Int.tmod_eq_emod]
    have a : (m.natAbs : Int) = m := by omega
    have := Int.emod_nonneg n (show m ≠ 0 by omega)
    split
    · left; omega
    · right; omega
  have b1 := Int.emod_nonneg n (show m ≠ 0 by omega)
  have b2 := Int.emod_lt_of_pos n hm.1
  unfold pick
  by_cases h : n.tmod m < 0
  · have e2 : n % m = n.tmod m + m := by omega
    have e3 : n.tmod m + m < 10000000 ∧ 0 ≤ n.tmod m + m := by omega
    rw [e2]
    clear e1 e2 b1 b2
    go_enter Tryd.func33, Tryd.ntmps33
    go_wp2
    go_ret
    exact ⟨rfl, rfl⟩
  · have e2 : n % m = n.tmod m := by omega
    rw [e2]
    clear e1 e2 b1 b2
    go_enter Tryd.func33, Tryd.ntmps33
    go_wp2
    go_ret
    exact ⟨rfl, rfl⟩

theorem pick_nat (n : Int) (m : Nat) (hm : 0 < m) : ∃ k : Nat, pick n m = k ∧ k < m := by
  have h1 := Int.emod_nonneg n (show (m : Int) ≠ 0 by omega)
  have h2 := Int.emod_lt_of_pos n (show (0 : Int) < m by omega)
  exact ⟨(n % m).toNat, by unfold pick; omega, by omega⟩

end Go.Proofs.YtpnbpjhoilibcaaDoor
