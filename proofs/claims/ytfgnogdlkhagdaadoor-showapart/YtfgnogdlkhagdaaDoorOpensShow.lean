/-
  How texts and a raw act lie in memory when they come in. Conditions: none.
-/
import Derived.Test.YtfgnogdlkhagdaaDoorBookProgPlain
import Derived.WideShapes
namespace Go.Proofs.YtfgnogdlkhagdaaDoor
open Go.RowKit Go.ChangeShapes Go.WideShapes Go.Deep

section
variable {H : Type} {enc : TypeId × Value → H} {W : World} {base : Nat} {spare : Nat → Bool} {held : Bool}

set_option maxRecDepth 100000 in
theorem open_texts {r : Reach} {b0 : Nat} {v : Value} {d : DataW H} {p : List MemPlace} (hv : Value.okWide Tryd.prog W r b0 52 v) (h : DataW.Trod enc Tryd.prog W base spare held 52 v d p) :
    ∃ L, TextsIn W v L := by
  obtain ⟨a, len, cap, rfl⟩ := okWide_slice Tryd.underlying52 hv
  obtain ⟨fuel, hf⟩ := h
  obtain ⟨u, l, hc, h1⟩ := trod_texts hf
  simp [Value.cells] at hc
  subst hc
  exact ⟨l, h1⟩

set_option maxRecDepth 100000 in
theorem open_act2 {r : Reach} {b0 : Nat} {v : Value} {d : DataW H} {p : List MemPlace} (hv : Value.okWide Tryd.prog W r b0 60 v) (h : DataW.Trod enc Tryd.prog W base spare held 60 v d p) :
    ∃ x : Act5, v = x.val ∧ x.Ok ∧ I64 x.n := by
  obtain ⟨ca, rfl, hsz⟩ := okWide_struct Tryd.underlying60 hv
  obtain ⟨fuel, hf⟩ := h
  obtain ⟨x, hc, h1, h2⟩ := trod_act hf
  refine ⟨x, ?_, h1, h2⟩
  unfold Act5.val
  simp [Value.cells, Act5.list] at hc
  simp [hc, ← Array.toList_inj]

end

end Go.Proofs.YtfgnogdlkhagdaaDoor
