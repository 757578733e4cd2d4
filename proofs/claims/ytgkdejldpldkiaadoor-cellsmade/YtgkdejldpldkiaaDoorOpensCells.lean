/-
  How an operand, eight registers, and a slice of symbols lie in memory when they come in. Conditions: none.
-/
import Derived.Test.YtgkdejldpldkiaaDoorJi
import Derived.Test.YtgkdejldpldkiaaDoorCellsPlain
import Derived.OpenShut
import Derived.WideShapes
namespace Go.Proofs.YtgkdejldpldkiaaDoor
open Go.RowKit Go.ChangeShapes Go.WideShapes Go.Deep
set_option linter.unusedSimpArgs false

section
variable {H : Type} {enc : TypeId × Value → H} {W : World} {base : Nat} {spare : Nat → Bool} {held : Bool} {fuel : Nat} {cs : List Value} {y : DataW H × List MemPlace}

set_option maxRecDepth 100000 in
theorem open_opd {r : Reach} {b0 : Nat} {v : Value} {d : DataW H} {p : List MemPlace} (hv : Value.okWide Tryd.prog W r b0 41 v) (h : DataW.Trod enc Tryd.prog W base spare held 41 v d p) :
    ∃ o : Opd, v = o.val ∧ o.Ok := by
  obtain ⟨ca, rfl, hsz⟩ := okWide_struct Tryd.underlying41 hv
  obtain ⟨fuel, hf⟩ := h
  obtain ⟨x, hc, h1⟩ := trod_opd hf
  refine ⟨x, ?_, h1⟩
  unfold Opd.val
  simp [Value.cells, Opd.list] at hc
  simp [hc, ← Array.toList_inj]

theorem okWide_array {P : Program} {w : World} {r : Reach} {b0 : Nat} {t : TypeId} {v : Value} {n : Nat} {e : TypeId} (ht : P.underlying t = some (.array n e)) (h : Value.okWide P w r b0 t v) : ∃ cs, v = .agg cs ∧ cs.size = P.cellsOf t := by
  simp only [Value.okWide, ht] at h
  obtain ⟨cs, h1, h2, _⟩ := h
  exact ⟨cs, h1, h2⟩

theorem cells_regs : Tryd.prog.cellsOf 49 = 8 := by kernel_rfl

theorem list8 {l : List Value} (h : l.length = 8) : ∃ a b c d e f g i, l = [a, b, c, d, e, f, g, i] := by
  match l, h with
  | [a, b, c, d, e, f, g, i], _ => exact ⟨a, b, c, d, e, f, g, i, rfl⟩

theorem trod_regs (h : DataW.trod enc Tryd.prog W base spare held fuel 49 cs = some y) : ∃ r : Nat → Int, cs = [.int .i64 (r 0), .int .i64 (r 1), .int .i64 (r 2), .int .i64 (r 3), .int .i64 (r 4), .int .i64 (r 5), .int .i64 (r 6), .int .i64 (r 7)] ∧ ∀ j, I64 (r j) := by
  obtain ⟨xs, m, -, -, hl, hx, hall⟩ := DataW.trod_array Tryd.underlying49 h
  rw [cells_regs] at hl
  obtain ⟨c0, c1, c2, c3, c4, c5, c6, c7, rfl⟩ := list8 hl
  have hk : ∀ i, i < 8 → ∃ z, DataW.trod enc Tryd.prog W base spare held m 2 ((([c0, c1, c2, c3, c4, c5, c6, c7] : List Value).drop i).take 1) = some z := fun i hi => by
    have h1 := hall i hi
    rw [cells_int64, Nat.mul_one, List.getElem?_eq_getElem (by omega)] at h1
    exact ⟨_, h1⟩
  have get : ∀ c z, DataW.trod enc Tryd.prog W base spare held m 2 [c] = some z → ∃ a, c = .int .i64 a ∧ I64 a := fun c z hz => trod_i64 Tryd.underlying2 hz
  obtain ⟨z0, k0⟩ := hk 0 (by omega)
  obtain ⟨z1, k1⟩ := hk 1 (by omega)
  obtain ⟨z2, k2⟩ := hk 2 (by omega)
  obtain ⟨z3, k3⟩ := hk 3 (by omega)
  obtain ⟨z4, k4⟩ := hk 4 (by omega)
  obtain ⟨z5, k5⟩ := hk 5 (by omega)
  obtain ⟨z6, k6⟩ := hk 6 (by omega)
  obtain ⟨z7, k7⟩ := hk 7 (by omega)
  obtain ⟨a0, rfl, h0⟩ := get c0 z0 k0
  obtain ⟨a1, rfl, h1⟩ := get c1 z1 k1
  obtain ⟨a2, rfl, h2⟩ := get c2 z2 k2
  obtain ⟨a3, rfl, h3⟩ := get c3 z3 k3
  obtain ⟨a4, rfl, h4⟩ := get c4 z4 k4
  obtain ⟨a5, rfl, h5⟩ := get c5 z5 k5
  obtain ⟨a6, rfl, h6⟩ := get c6 z6 k6
  obtain ⟨a7, rfl, h7⟩ := get c7 z7 k7
  refine ⟨fun j => match j with | 0 => a0 | 1 => a1 | 2 => a2 | 3 => a3 | 4 => a4 | 5 => a5 | 6 => a6 | _ => a7, rfl, fun j => ?_⟩
  match j with
  | 0 => exact h0
  | 1 => exact h1
  | 2 => exact h2
  | 3 => exact h3
  | 4 => exact h4
  | 5 => exact h5
  | 6 => exact h6
  | j + 7 => exact h7

set_option maxRecDepth 100000 in
theorem open_regs {r : Reach} {b0 : Nat} {v : Value} {d : DataW H} {p : List MemPlace} (hv : Value.okWide Tryd.prog W r b0 49 v) (h : DataW.Trod enc Tryd.prog W base spare held 49 v d p) :
    ∃ r : Nat → Int, v = regsV r ∧ ∀ j, I64 (r j) := by
  obtain ⟨ca, rfl, hsz⟩ := okWide_array Tryd.underlying49 hv
  obtain ⟨fuel, hf⟩ := h
  obtain ⟨x, hc, h1⟩ := trod_regs hf
  refine ⟨x, ?_, h1⟩
  unfold regsV
  simp [Value.cells] at hc
  simp [hc, ← Array.toList_inj]

set_option maxRecDepth 100000 in
theorem open_syms {r : Reach} {b0 : Nat} {v : Value} {d : DataW H} {p : List MemPlace} (hv : Value.okWide Tryd.prog W r b0 24 v) (h : DataW.Trod enc Tryd.prog W base spare held 24 v d p) :
    ∃ S, SymRow W v S := by
  obtain ⟨a, len, cap, rfl⟩ := okWide_slice Tryd.underlying24 hv
  obtain ⟨fuel, hf⟩ := h
  obtain ⟨u, S, e0, k0⟩ := trod_row (E := SymE) Tryd.underlying24 cells_sym (by omega) (fun n cs z hz => trod_sym hz) hf
  simp [Value.cells] at e0
  subst e0
  exact ⟨S, k0⟩

end

end Go.Proofs.YtgkdejldpldkiaaDoor
