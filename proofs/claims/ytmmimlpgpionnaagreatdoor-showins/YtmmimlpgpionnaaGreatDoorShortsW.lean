/-
  What the statements' own word for a text's first bytes returns, be the text ever so long. Nothing that was in memory turns. Conditions: the text is no greater than a machine can hold.
-/
import Derived.Test.YtmmimlpgpionnaaGreatDoorJb
namespace Go.Proofs.YtmmimlpgpionnaaGreatDoor
open Go.RowKit
set_option linter.unusedVariables false

/-- The first bytes of a text, be it ever so long. -/
def shortT (t : ByteArray) : ByteArray := short 30 t

set_option maxRecDepth 1000000 in
theorem shortAny (s : ByteArray) (hs : s.size ≤ 9223372036854775807) (w : World) :
    Calls Tryz.prog 11 #[.string s, .int .i64 30] w fun e w' => e = .returned (.string (shortT s)) ∧ Later w w' := by
  unfold shortT
  by_cases h : s.size ≤ 30
  · rw [show short 30 s = s by simp [short, h]]
    have h' : (s.size : Int) ≤ 30 := by omega
    go_enter Tryz.func11, Tryz.ntmps11
    go_wp2
    go_ret
    exact ⟨rfl, Later.refl _⟩
  · rw [show short 30 s = s.extract 0 30 by simp [short, h]]
    have h' : ¬ (s.size : Int) ≤ 30 := by omega
    go_enter Tryz.func11, Tryz.ntmps11
    go_wp2
    go_ret
    exact ⟨rfl, Later.refl _⟩

end Go.Proofs.YtmmimlpgpionnaaGreatDoor
