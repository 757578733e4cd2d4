/-
  How arguments lie in memory: an operand, an instruction with its labels, a slice of texts. What is read as such data has these cells. Conditions: none.
-/
import Derived.Test.YtginggelbfbcfaaDoorGreat
import Derived.Test.YtginggelbfbcfaaDoorBookOpd
import Derived.ProofKit
import Derived.Deep.Slices
import Derived.ChangeArms
import Derived.Carry
import Derived.WideShapes
namespace Go.Proofs.YtginggelbfbcfaaDoor
open Go.RowKit Go.ChangeShapes Go.WideShapes Go.Deep

theorem int64_of_wf {n : Int} (h : (Lit.int .i64 n).wf = true) : I64 n := by
  have e : IntKind.i64.min = -9223372036854775808 := by decide
  simpa [Lit.wf, I64, e] using h

section
variable {H : Type} {enc : TypeId × Value → H} {W : World} {base : Nat} {spare : Nat → Bool} {held : Bool} {fuel : Nat} {cs : List Value} {y : DataW H × List MemPlace}

theorem trod_field {t : TypeId} {fs : Array Field} (ht : Tryd.prog.underlying t = some (.struct fs)) (h : DataW.trod enc Tryd.prog W base spare held fuel t cs = some y) (i ty off : Nat) {k : Nat} (hk : Tryd.prog.cellsOf ty = k) (hf : (fs[i]?).map (fun f => (f.type, f.offset)) = some (ty, off)) :
    ∃ n z, DataW.trod enc Tryd.prog W base spare held n ty ((cs.drop off).take k) = some z := by
  obtain ⟨xs, n, -, -, -, hx, hall⟩ := DataW.trod_struct ht h
  obtain ⟨f, hf1, hf2⟩ := Option.map_eq_some_iff.1 hf
  simp only [Prod.mk.injEq] at hf2
  obtain ⟨rfl, rfl⟩ := hf2
  have hi : i < fs.size := by
    rcases Nat.lt_or_ge i fs.size with h' | h'
    · exact h'
    · rw [Array.getElem?_eq_none h'] at hf1; cases hf1
  have := hall i f hf1
  rw [List.getElem?_eq_getElem (by omega), hk] at this
  exact ⟨n, _, this⟩

theorem trod_len {t : TypeId} {fs : Array Field} (ht : Tryd.prog.underlying t = some (.struct fs)) (h : DataW.trod enc Tryd.prog W base spare held fuel t cs = some y) : cs.length = Tryd.prog.cellsOf t := by
  obtain ⟨xs, n, -, -, hl, -, -⟩ := DataW.trod_struct ht h
  exact hl

theorem cells_int : Tryd.prog.cellsOf 3 = 1 := by kernel_rfl

theorem cells_int64 : Tryd.prog.cellsOf 2 = 1 := by kernel_rfl

theorem cells_bool : Tryd.prog.cellsOf 4 = 1 := by kernel_rfl

theorem cells_string : Tryd.prog.cellsOf 9 = 1 := by kernel_rfl

theorem cells_texts : Tryd.prog.cellsOf 24 = 1 := by kernel_rfl

theorem cells_opd : Tryd.prog.cellsOf 23 = 4 := by kernel_rfl

theorem cells_ins : Tryd.prog.cellsOf 26 = 13 := by kernel_rfl

/-- An operand's numbers are of 64 bits. -/
def Opd.Ok (o : Opd) : Prop := I64 o.kind ∧ I64 o.reg ∧ I64 o.sym ∧ I64 o.n
def Opd.list (o : Opd) : List Value := [.int .i64 o.kind, .int .i64 o.reg, .int .i64 o.sym, .int .i64 o.n]

theorem trod_i64 {t : TypeId} {v : Value} (ht : Tryd.prog.underlying t = some (.int .i64)) (h : DataW.trod enc Tryd.prog W base spare held fuel t [v] = some y) : ∃ n, v = .int .i64 n ∧ I64 n := by
  obtain ⟨n, h1, -, h2⟩ := DataW.trod_int ht h
  simp at h1
  exact ⟨n, h1, int64_of_wf h2⟩

theorem list4 {l : List Value} (h : l.length = 4) : ∃ a b c d, l = [a, b, c, d] := by
  match l, h with
  | [a, b, c, d], _ => exact ⟨a, b, c, d, rfl⟩

theorem list5 {l : List Value} (h : l.length = 5) : ∃ a b c d e, l = [a, b, c, d, e] := by
  match l, h with
  | [a, b, c, d, e], _ => exact ⟨a, b, c, d, e, rfl⟩

theorem list13 {l : List Value} (h : l.length = 13) : ∃ a0 a1 a2 a3 a4 a5 a6 a7 a8 a9 a10 a11 a12, l = [a0, a1, a2, a3, a4, a5, a6, a7, a8, a9, a10, a11, a12] := by
  match l, h with
  | [a0, a1, a2, a3, a4, a5, a6, a7, a8, a9, a10, a11, a12], _ => exact ⟨a0, a1, a2, a3, a4, a5, a6, a7, a8, a9, a10, a11, a12, rfl⟩

theorem trod_opd (h : DataW.trod enc Tryd.prog W base spare held fuel 23 cs = some y) : ∃ o : Opd, cs = o.list ∧ o.Ok := by
  have hl := trod_len Tryd.underlying23 h
  rw [cells_opd] at hl
  obtain ⟨c0, c1, c2, c3, rfl⟩ := list4 hl
  obtain ⟨n0, z0, h0⟩ := trod_field Tryd.underlying23 h 0 3 0 cells_int rfl
  obtain ⟨n1, z1, h1⟩ := trod_field Tryd.underlying23 h 1 3 1 cells_int rfl
  obtain ⟨n2, z2, h2⟩ := trod_field Tryd.underlying23 h 2 3 2 cells_int rfl
  obtain ⟨n3, z3, h3⟩ := trod_field Tryd.underlying23 h 3 2 3 cells_int64 rfl
  simp only [List.drop_zero, List.drop_succ_cons, List.take_succ_cons, List.take_zero] at h0 h1 h2 h3
  obtain ⟨a0, rfl, k0⟩ := trod_i64 Tryd.underlying3 h0
  obtain ⟨a1, rfl, k1⟩ := trod_i64 Tryd.underlying3 h1
  obtain ⟨a2, rfl, k2⟩ := trod_i64 Tryd.underlying3 h2
  obtain ⟨a3, rfl, k3⟩ := trod_i64 Tryd.underlying2 h3
  exact ⟨⟨a0, a1, a2, a3⟩, rfl, k0, k1, k2, k3⟩

/-- A slice of texts, as it came in. -/
theorem trod_texts (h : DataW.trod enc Tryd.prog W base spare held fuel 24 cs = some y) : ∃ v L, cs = [v] ∧ TextsIn W v L := by
  rcases open_slice1 Tryd.underlying24 cells_string h with ⟨rfl, -⟩ | ⟨a, len, cap, m, n, V, D, Pl, rfl, -, hl, hm, hmm, -, hall⟩
  · exact ⟨_, [], rfl, none, 0, rfl, Nat.le_refl _, by simp, by simp, by simp⟩
  · have hle : len ≤ m := by rw [hmm]; split <;> omega
    have hs : ∀ i, i < len → ∃ s : ByteArray, V i = .string s ∧ s.size ≤ maxLen := fun i hi => by
      obtain ⟨s, h1, -, h2⟩ := DataW.trod_string Tryd.underlying9 (hall i (by omega)).2
      simp at h1
      exact ⟨s, h1, h2⟩
    obtain ⟨T, hT⟩ := choose_lt (α := ByteArray) (p := fun i s => V i = .string s ∧ s.size ≤ maxLen) (n := len) hs
    refine ⟨_, (List.range len).map T, rfl, some a, cap, by simp, by simpa using hl, hm, ?_, ?_⟩
    · intro t ht
      obtain ⟨i, hi, rfl⟩ := List.mem_map.1 ht
      exact (hT i (by simpa using hi)).2
    · intro hne
      have h0 : 0 < len := by
        rcases Nat.eq_zero_or_pos len with h' | h'
        · subst h'; simp at hne
        · exact h'
      have hsp := World.cell?_spot (hall 0 (by omega)).1
      obtain ⟨g, o, s⟩ := a
      have hs0 : s = none := by
        have := hsp
        unfold Addr.add at this
        split at this <;> simp_all
      subst hs0
      refine ⟨g, o, rfl, fun i t ht => ?_⟩
      simp only [List.getElem?_map, Option.map_eq_some_iff] at ht
      obtain ⟨j, hj, rfl⟩ := ht
      have hi : i < len := by
        rcases Nat.lt_or_ge i len with h' | h'
        · exact h'
        · rw [List.getElem?_eq_none (by simpa using h')] at hj; cases hj
      rw [List.getElem?_range hi] at hj
      cases hj
      have := (hall i (by omega)).1
      rw [add_plain, (hT i hi).1] at this
      exact this

/-- What came in as an instruction: its numbers are of 64 bits, its name is no greater than a machine can hold. -/
structure Ins.Ok (x : Ins) : Prop where
  op : I64 x.op
  cond : I64 x.cond
  a : x.a.Ok
  b : x.b.Ok
  dest : x.dest.size ≤ maxLen

theorem trod_ins (h : DataW.trod enc Tryd.prog W base spare held fuel 26 cs = some y) : ∃ (x : Ins) (L : List ByteArray), cs = x.cells.toList ∧ x.Ok ∧ TextsIn W x.labels L := by
  have hl := trod_len Tryd.underlying26 h
  rw [cells_ins] at hl
  obtain ⟨c0, c1, c2, c3, c4, c5, c6, c7, c8, c9, c10, c11, c12, rfl⟩ := list13 hl
  obtain ⟨n0, z0, h0⟩ := trod_field Tryd.underlying26 h 0 3 0 cells_int rfl
  obtain ⟨n1, z1, h1⟩ := trod_field Tryd.underlying26 h 1 4 1 cells_bool rfl
  obtain ⟨n2, z2, h2⟩ := trod_field Tryd.underlying26 h 2 3 2 cells_int rfl
  obtain ⟨n3, z3, h3⟩ := trod_field Tryd.underlying26 h 3 23 3 cells_opd rfl
  obtain ⟨n4, z4, h4⟩ := trod_field Tryd.underlying26 h 4 23 7 cells_opd rfl
  obtain ⟨n5, z5, h5⟩ := trod_field Tryd.underlying26 h 5 9 11 cells_string rfl
  obtain ⟨n6, z6, h6⟩ := trod_field Tryd.underlying26 h 6 24 12 cells_texts rfl
  simp only [List.drop_zero, List.drop_succ_cons, List.take_succ_cons, List.take_zero] at h0 h1 h2 h3 h4 h5 h6
  obtain ⟨a0, rfl, k0⟩ := trod_i64 Tryd.underlying3 h0
  obtain ⟨a1, e1, -⟩ := DataW.trod_bool Tryd.underlying4 h1
  obtain ⟨a2, rfl, k2⟩ := trod_i64 Tryd.underlying3 h2
  obtain ⟨oa, ea, ka⟩ := trod_opd h3
  obtain ⟨ob, eb, kb⟩ := trod_opd h4
  obtain ⟨s, e5, -, k5⟩ := DataW.trod_string Tryd.underlying9 h5
  obtain ⟨v, L, e6, k6⟩ := trod_texts h6
  simp [Opd.list] at e1 ea eb e5 e6
  obtain ⟨rfl, rfl, rfl, rfl⟩ := ea
  obtain ⟨rfl, rfl, rfl, rfl⟩ := eb
  subst e1 e5 e6
  exact ⟨⟨a0, a1, a2, oa, ob, s, _⟩, L, rfl, ⟨k0, k2, ka, kb, k5⟩, k6⟩

theorem open_ins {r : Reach} {b0 : Nat} {v : Value} {d : DataW H} {p : List MemPlace} (hv : Value.okWide Tryd.prog W r b0 26 v) (h : DataW.Trod enc Tryd.prog W base spare held 26 v d p) :
    ∃ (x : Ins) (L : List ByteArray), v = x.val ∧ x.Ok ∧ TextsIn W x.labels L := by
  obtain ⟨ca, rfl, hsz⟩ := okWide_struct Tryd.underlying26 hv
  obtain ⟨fuel, hf⟩ := h
  obtain ⟨x, L, hc, h1, h2⟩ := trod_ins hf
  refine ⟨x, L, ?_, h1, h2⟩
  unfold Ins.val
  simp [Value.cells] at hc
  rw [hc]

end

end Go.Proofs.YtginggelbfbcfaaDoor
