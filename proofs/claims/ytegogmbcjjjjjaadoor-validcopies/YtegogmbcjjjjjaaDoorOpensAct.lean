/-
  How a raw act lies in memory: what is read as one has its five cells. Conditions: none.
-/
import Derived.Test.YtegogmbcjjjjjaaDoorJh
namespace Go.Proofs.YtegogmbcjjjjjaaDoor
open Go.RowKit Go.ChangeShapes Go.WideShapes Go.Deep

section
variable {H : Type} {enc : TypeId × Value → H} {W : World} {base : Nat} {spare : Nat → Bool} {held : Bool} {fuel : Nat} {cs : List Value} {y : DataW H × List MemPlace}

theorem cells_act : Tryd.prog.cellsOf 52 = 5 := by kernel_rfl

def Act5.list (x : Act5) : List Value := [.int .i64 x.kind, .int .i64 x.a, .int .i64 x.b, .int .i64 x.c, .int .i64 x.n]

theorem trod_act (h : DataW.trod enc Tryd.prog W base spare held fuel 52 cs = some y) : ∃ x : Act5, cs = x.list ∧ x.Ok ∧ I64 x.n := by
  have hl := trod_len Tryd.underlying52 h
  rw [cells_act] at hl
  obtain ⟨c0, c1, c2, c3, c4, rfl⟩ := list5 hl
  obtain ⟨n0, z0, h0⟩ := trod_field Tryd.underlying52 h 0 3 0 cells_int rfl
  obtain ⟨n1, z1, h1⟩ := trod_field Tryd.underlying52 h 1 3 1 cells_int rfl
  obtain ⟨n2, z2, h2⟩ := trod_field Tryd.underlying52 h 2 3 2 cells_int rfl
  obtain ⟨n3, z3, h3⟩ := trod_field Tryd.underlying52 h 3 3 3 cells_int rfl
  obtain ⟨n4, z4, h4⟩ := trod_field Tryd.underlying52 h 4 2 4 cells_int64 rfl
  simp only [List.drop_zero, List.drop_succ_cons, List.take_succ_cons, List.take_zero] at h0 h1 h2 h3 h4
  obtain ⟨a0, rfl, k0⟩ := trod_i64 Tryd.underlying3 h0
  obtain ⟨a1, rfl, k1⟩ := trod_i64 Tryd.underlying3 h1
  obtain ⟨a2, rfl, k2⟩ := trod_i64 Tryd.underlying3 h2
  obtain ⟨a3, rfl, k3⟩ := trod_i64 Tryd.underlying3 h3
  obtain ⟨a4, rfl, k4⟩ := trod_i64 Tryd.underlying2 h4
  exact ⟨⟨a0, a1, a2, a3, a4⟩, rfl, ⟨k0, k1, k2, k3⟩, k4⟩

set_option maxRecDepth 100000 in
theorem open_act {r : Reach} {b0 : Nat} {v : Value} {d : DataW H} {p : List MemPlace} (hv : Value.okWide Tryd.prog W r b0 52 v) (h : DataW.Trod enc Tryd.prog W base spare held 52 v d p) :
    ∃ x : Act5, v = x.val ∧ x.Ok := by
  obtain ⟨ca, rfl, hsz⟩ := okWide_struct Tryd.underlying52 hv
  obtain ⟨fuel, hf⟩ := h
  obtain ⟨x, hc, h1, -⟩ := trod_act hf
  refine ⟨x, ?_, h1⟩
  unfold Act5.val
  simp [Value.cells, Act5.list] at hc
  simp [hc, ← Array.toList_inj]

end

end Go.Proofs.YtegogmbcjjjjjaaDoor
