/-
  How lists of raw acts lie in memory when they come in. Conditions: none.
-/
import Derived.Test.YtegogmbcjjjjjaaDoorBookProgPlain
import Derived.WideShapes
namespace Go.Proofs.YtegogmbcjjjjjaaDoor
open Go.RowKit Go.ChangeShapes Go.WideShapes Go.Deep

section
variable {H : Type} {enc : TypeId × Value → H} {W : World} {base : Nat} {spare : Nat → Bool} {held : Bool}

set_option maxRecDepth 100000 in
theorem open_acts {r : Reach} {b0 : Nat} {v : Value} {d : DataW H} {p : List MemPlace} (hv : Value.okWide Tryd.prog W r b0 26 v) (h : DataW.Trod enc Tryd.prog W base spare held 26 v d p) :
    ∃ l, ActsRow W v l := by
  obtain ⟨a, len, cap, rfl⟩ := okWide_slice Tryd.underlying26 hv
  obtain ⟨fuel, hf⟩ := h
  obtain ⟨u, l, hc, h1⟩ := trod_acts hf
  simp [Value.cells] at hc
  subst hc
  exact ⟨l, h1⟩

end

end Go.Proofs.YtegogmbcjjjjjaaDoor
