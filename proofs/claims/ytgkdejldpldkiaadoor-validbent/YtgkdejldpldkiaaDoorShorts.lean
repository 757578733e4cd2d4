/-
  What the statements' own word for a text's first bytes returns. Nothing that was in memory turns. Conditions: the text is no greater than a machine can hold.
-/
import Derived.Test.YtgkdejldpldkiaaDoorJb
namespace Go.Proofs.YtgkdejldpldkiaaDoor
open Go.RowKit
set_option linter.unusedVariables false

theorem short_any (n : Nat) (hn : n ≤ 1000) (s : ByteArray) (hs : s.size ≤ 140737488355328) (w : World) :
    Calls Tryd.prog 9 #[.string s, .int .i64 n] w fun e w' => e = .returned (.string (short n s)) ∧ Later w w' := by
  by_cases h : s.size ≤ n
  · rw [show short n s = s by simp [short, h]]
    have h' : (s.size : Int) ≤ n := by omega
    go_enter Tryd.func9, Tryd.ntmps9
    go_wp2
    go_ret
    exact ⟨rfl, Later.refl _⟩
  · rw [show short n s = s.extract 0 n by simp [short, h]]
    have h' : ¬ (s.size : Int) ≤ n := by omega
    go_enter Tryd.func9, Tryd.ntmps9
    go_wp2
    go_ret
    exact ⟨rfl, Later.refl _⟩

end Go.Proofs.YtgkdejldpldkiaaDoor
