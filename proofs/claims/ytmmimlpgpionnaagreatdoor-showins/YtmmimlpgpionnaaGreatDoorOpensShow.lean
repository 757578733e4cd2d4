/-
  How texts and a raw act lie in memory when they come in. Conditions: none.
-/
import Derived.Test.YtmmimlpgpionnaaGreatDoorBookProgPlain
import Derived.WideShapes
namespace Go.Proofs.YtmmimlpgpionnaaGreatDoor
open Go.RowKit Go.ChangeShapes Go.WideShapes Go.Deep

section
variable {H : Type} {enc : TypeId × Value → H} {W : World} {base : Nat} {spare : Nat → Bool} {held : Bool}

set_option maxRecDepth 100000 in
theorem open_texts {r : Reach} {b0 : Nat} {v : Value} {d : DataW H} {p : List MemPlace} (hv : Value.okWide Tryz.prog W r b0 34 v) (h : DataW.Trod enc Tryz.prog W base spare held 34 v d p) :
    ∃ L, TextsIn W v L := by
  obtain ⟨a, len, cap, rfl⟩ := okWide_slice Tryz.underlying34 hv
  obtain ⟨fuel, hf⟩ := h
  obtain ⟨u, l, hc, h1⟩ := trod_texts hf
  simp [Value.cells] at hc
  subst hc
  exact ⟨l, h1⟩

set_option maxRecDepth 100000 in
theorem open_act2 {r : Reach} {b0 : Nat} {v : Value} {d : DataW H} {p : List MemPlace} (hv : Value.okWide Tryz.prog W r b0 38 v) (h : DataW.Trod enc Tryz.prog W base spare held 38 v d p) :
    ∃ x : Act5, v = x.val ∧ x.Ok ∧ I64 x.n := by
  obtain ⟨ca, rfl, hsz⟩ := okWide_struct Tryz.underlying38 hv
  obtain ⟨fuel, hf⟩ := h
  obtain ⟨x, hc, h1, h2⟩ := trod_act hf
  refine ⟨x, ?_, h1, h2⟩
  unfold Act5.val
  simp [Value.cells, Act5.list] at hc
  simp [hc, ← Array.toList_inj]

end

end Go.Proofs.YtmmimlpgpionnaaGreatDoor
