/-
  How entries and a ring's raw calls lie in memory when they come in. Conditions: none.
-/
import Derived.Test.YtmfifaonbbeebaaRingPlain
import Derived.OpenShut
namespace Go.Proofs.Ytmfifaonbbeebaa
open Go.RowKit Go.ChangeShapes Go.WideShapes Go.Deep
set_option linter.unusedSimpArgs false

/-- A raw call: what is done, an address, a number. -/
def ractC (x : Int × Int × Int) : List Value := [.int .i64 x.1, .int .i64 x.2.1, .int .i64 x.2.2]
def RactE (_ : World) (x : Int × Int × Int) (cs : List Value) : Prop := cs = ractC x ∧ I64 x.1
def RactRow (w : World) (v : Value) (A : List (Int × Int × Int)) : Prop := RowIn 3 RactE w v A
theorem RactRow.later {w w' : World} {v : Value} {A : List (Int × Int × Int)} (h : RactRow w v A) (hl : Later w w') : RactRow w' v A := RowIn.lift h (fun _ _ _ h => h) hl.kept
theorem RactRow.get {w : World} {p : Option Addr} {n cap : Nat} {A : List (Int × Int × Int)} (h : RactRow w (.slice p n cap) A) {i : Nat} {x : Int × Int × Int} (hi : A[i]? = some x) :
    ∃ g o, p = some ⟨g, o, none⟩ ∧ I64 x.1 ∧ w.cell? ⟨g, o + i * 3, none⟩ = some (.int .i64 x.1) ∧ w.cell? ⟨g, o + i * 3 + 1, none⟩ = some (.int .i64 x.2.1) ∧ w.cell? ⟨g, o + i * 3 + 2, none⟩ = some (.int .i64 x.2.2) := by
  obtain ⟨g, o, cs, rfl, ⟨rfl, h1⟩, h4⟩ := RowIn.get h hi
  exact ⟨g, o, rfl, h1, h4 0 _ rfl, h4 1 _ rfl, h4 2 _ rfl⟩

section
variable {H : Type} {enc : TypeId × Value → H} {W : World} {base : Nat} {spare : Nat → Bool} {held : Bool} {fuel : Nat} {cs : List Value} {y : DataW H × List MemPlace}

theorem trod_i64r {t : TypeId} {v : Value} (ht : Try.prog.underlying t = some (.int .i64)) (h : DataW.trod enc Try.prog W base spare held fuel t [v] = some y) : ∃ n, v = .int .i64 n ∧ I64 n := by
  obtain ⟨n, h1, -, h2⟩ := DataW.trod_int ht h
  simp at h1
  exact ⟨n, h1, int64_of_wf h2⟩

theorem cells_i64r : Try.prog.cellsOf 2 = 1 := by kernel_rfl
theorem cells_ent : Try.prog.cellsOf 31 = 2 := by kernel_rfl

theorem trod_ent (h : DataW.trod enc Try.prog W base spare held fuel 31 cs = some y) : ∃ x : Int × Int, cs = entC x := by
  have hl := trod_len Try.underlying31 h
  rw [cells_ent] at hl
  obtain ⟨c0, c1, rfl⟩ := list2 hl
  obtain ⟨n0, z0, h0⟩ := trod_field Try.underlying31 h 0 3 0 cells_int rfl
  obtain ⟨n1, z1, h1⟩ := trod_field Try.underlying31 h 1 2 1 cells_i64r rfl
  simp only [List.drop_zero, List.drop_succ_cons, List.take_succ_cons, List.take_zero] at h0 h1
  obtain ⟨a0, rfl, -⟩ := trod_i64r Try.underlying3 h0
  obtain ⟨a1, rfl, -⟩ := trod_i64r Try.underlying2 h1
  exact ⟨(a0, a1), rfl⟩

theorem open_ent {r : Reach} {b0 : Nat} {v : Value} {d : DataW H} {p : List MemPlace} (hv : Value.okWide Try.prog W r b0 31 v) (h : DataW.Trod enc Try.prog W base spare held 31 v d p) : ∃ x : Int × Int, v = entV x := by
  obtain ⟨ca, rfl, hsz⟩ := okWide_struct Try.underlying31 hv
  obtain ⟨fuel, hf⟩ := h
  obtain ⟨x, hc⟩ := trod_ent hf
  refine ⟨x, ?_⟩
  unfold entV
  simp [Value.cells, entC] at hc
  simp [hc, ← Array.toList_inj]

theorem open_ents {r : Reach} {b0 : Nat} {v : Value} {d : DataW H} {p : List MemPlace} (hv : Value.okWide Try.prog W r b0 26 v) (h : DataW.Trod enc Try.prog W base spare held 26 v d p) : ∃ L, EntRow W v L := by
  obtain ⟨a, len, cap, rfl⟩ := okWide_slice Try.underlying26 hv
  obtain ⟨fuel, hf⟩ := h
  obtain ⟨u, S, e0, k0⟩ := trod_row (E := EntE) Try.underlying26 cells_ent (by omega) (fun n cs z hz => trod_ent hz) hf
  simp [Value.cells] at e0
  subst e0
  exact ⟨S, k0⟩

theorem cells_ract : Try.prog.cellsOf 28 = 3 := by kernel_rfl

theorem trod_ract (h : DataW.trod enc Try.prog W base spare held fuel 28 cs = some y) : ∃ x : Int × Int × Int, cs = ractC x ∧ I64 x.1 := by
  have hl := trod_len Try.underlying28 h
  rw [cells_ract] at hl
  obtain ⟨c0, c1, c2, rfl⟩ := list3 hl
  obtain ⟨n0, z0, h0⟩ := trod_field Try.underlying28 h 0 3 0 cells_int rfl
  obtain ⟨n1, z1, h1⟩ := trod_field Try.underlying28 h 1 3 1 cells_int rfl
  obtain ⟨n2, z2, h2⟩ := trod_field Try.underlying28 h 2 2 2 cells_i64r rfl
  simp only [List.drop_zero, List.drop_succ_cons, List.take_succ_cons, List.take_zero] at h0 h1 h2
  obtain ⟨a0, rfl, k0⟩ := trod_i64r Try.underlying3 h0
  obtain ⟨a1, rfl, -⟩ := trod_i64r Try.underlying3 h1
  obtain ⟨a2, rfl, -⟩ := trod_i64r Try.underlying2 h2
  exact ⟨(a0, a1, a2), rfl, k0⟩

theorem open_racts {r : Reach} {b0 : Nat} {v : Value} {d : DataW H} {p : List MemPlace} (hv : Value.okWide Try.prog W r b0 22 v) (h : DataW.Trod enc Try.prog W base spare held 22 v d p) : ∃ A, RactRow W v A := by
  obtain ⟨a, len, cap, rfl⟩ := okWide_slice Try.underlying22 hv
  obtain ⟨fuel, hf⟩ := h
  obtain ⟨u, S, e0, k0⟩ := trod_row (E := RactE) Try.underlying22 cells_ract (by omega) (fun n cs z hz => trod_ract hz) hf
  simp [Value.cells] at e0
  subst e0
  exact ⟨S, k0⟩

end

end Go.Proofs.Ytmfifaonbbeebaa
