/-
  A row of runes in memory: its cells, one after another; what a reader finds there, and that it stays so. Conditions: as each theorem names them.
-/
import Derived.Test.YtginggelbfbcfaaDoorLater
import Derived.Test.YtginggelbfbcfaaDoorPlain
import Derived.Lib.OthersKept
import Derived.Deep.QuietTactic
set_option linter.unusedVariables false
namespace Go.Proofs.YtginggelbfbcfaaDoor
open Go.RowKit

theorem iterPos_of {w : World} {k : Nat} {s : ByteArray} {p : Nat} (h : w.heap[k]? = some (.stringIter s p)) : w.iterPos k = p := by simp [World.iterPos, h]

/-- The six cells of a rune. -/
def Sp.cells (x : Sp) : List Value := [.int .i32 (x.rune : Nat), .int .i64 (x.at_ : Nat), .int .i64 (x.size : Nat), .int .i64 (x.line : Nat), .int .i64 (x.col : Nat), .bool x.bad]

/-- The cells of a row of runes. -/
def flat (L : List Sp) : List Value := L.flatMap Sp.cells

theorem flat_append (A B : List Sp) : flat (A ++ B) = flat A ++ flat B := by simp [flat]
theorem flat_one (x : Sp) : flat [x] = x.cells := by simp [flat]
theorem flat_length : ∀ L : List Sp, (flat L).length = L.length * 6
  | [] => rfl
  | x :: L => by
    have : flat (x :: L) = x.cells ++ flat L := rfl
    rw [this, List.length_append, flat_length L, List.length_cons]
    simp [Sp.cells]; omega

theorem flat_get : ∀ (L : List Sp) (i : Nat) (x : Sp), L[i]? = some x → ∀ k, k < 6 → (flat L)[i * 6 + k]? = x.cells[k]?
  | [], i, x, h => by simp at h
  | y :: L, 0, x, h => fun k hk => by
    simp only [List.getElem?_cons_zero, Option.some.injEq] at h
    subst h
    show (y.cells ++ flat L)[0 * 6 + k]? = _
    rw [List.getElem?_append_left (by simp [Sp.cells]; omega)]
    simp
  | y :: L, i + 1, x, h => fun k hk => by
    simp only [List.getElem?_cons_succ] at h
    show (y.cells ++ flat L)[(i + 1) * 6 + k]? = _
    rw [List.getElem?_append_right (by simp [Sp.cells]; omega), ← flat_get L i x h k hk]
    congr 1
    simp [Sp.cells]; omega

/-- A row that stands in memory, for its readers. -/
def Row (w : World) (a : Option Addr) (L : List Sp) : Prop := ∀ j u, (flat L)[j]? = some u → ∃ g, a = some ⟨g, 0, none⟩ ∧ w.cell? ⟨g, j, none⟩ = some u

theorem Row.later {w w' : World} {a : Option Addr} {L : List Sp} (h : Row w a L) (hl : Later w w') : Row w' a L := fun j u hj =>
  let ⟨g, e, hc⟩ := h j u hj
  ⟨g, e, cell_later hc hl⟩

theorem ownsRow_later {w w' : World} {base : Nat} {e : TypeId} {size : Nat} {v : Value} {n : Nat} {xs : List Value} (h : w.ownsRow base e size v n xs) (hl : Later w w') : w'.ownsRow base e size v n xs := by
  obtain ⟨h1, h2⟩ := h
  refine ⟨h1, ?_⟩
  rcases h2 with h2 | ⟨g, cap, cur, a, b, c, d⟩
  · exact .inl h2
  · exact .inr ⟨g, cap, cur, a, b, (hl.block _ (lt_of_block c)).trans c, d⟩

/-- What the maker of a row leaves, its readers find. -/
theorem row_of_owns {w : World} {base : Nat} {e : TypeId} {v : Value} {L : List Sp} (h : w.ownsRow base e 6 v L.length (flat L)) : ∃ a cap, v = .slice a L.length cap ∧ Row w a L := by
  obtain ⟨h1, h2⟩ := h
  have hh : w.ownsRow base e 6 v L.length (flat L) := ⟨h1, h2⟩
  rcases h2 with ⟨rfl, h0⟩ | ⟨g, cap, cur, rfl, hb, hc, hn, hm, hs, ht⟩
  · obtain rfl : L = [] := List.length_eq_zero_iff.1 h0
    exact ⟨none, 0, rfl, fun j u hj => by simp [flat] at hj⟩
  · refine ⟨some ⟨g, 0, none⟩, cap, rfl, fun j u hj => ⟨g, rfl, ?_⟩⟩
    have hlt : j < L.length * 6 := by rw [← flat_length]; exact (List.getElem?_eq_some_iff.1 hj).1
    rw [hh.cellAt j hlt]
    exact hj

/-- The six cells of the i-th rune. -/
theorem Row.get {w : World} {a : Option Addr} {L : List Sp} (h : Row w a L) {i : Nat} {x : Sp} (hx : L[i]? = some x) : ∃ g, a = some ⟨g, 0, none⟩ ∧
    w.cell? ⟨g, i * 6, none⟩ = some (.int .i32 (x.rune : Nat)) ∧ w.cell? ⟨g, i * 6 + 1, none⟩ = some (.int .i64 (x.at_ : Nat)) ∧ w.cell? ⟨g, i * 6 + 2, none⟩ = some (.int .i64 (x.size : Nat)) ∧
    w.cell? ⟨g, i * 6 + 3, none⟩ = some (.int .i64 (x.line : Nat)) ∧ w.cell? ⟨g, i * 6 + 4, none⟩ = some (.int .i64 (x.col : Nat)) ∧ w.cell? ⟨g, i * 6 + 5, none⟩ = some (.bool x.bad) := by
  have f := flat_get L i x hx
  obtain ⟨g, e, c0⟩ := h (i * 6 + 0) _ (by rw [f 0 (by omega)]; rfl)
  subst e
  have c : ∀ k u, k < 6 → x.cells[k]? = some u → w.cell? ⟨g, i * 6 + k, none⟩ = some u := fun k u hk hu => by
    obtain ⟨g', e, c⟩ := h (i * 6 + k) u (by rw [f k hk]; exact hu)
    cases e
    exact c
  exact ⟨g, rfl, c0, c 1 _ (by omega) rfl, c 2 _ (by omega) rfl, c 3 _ (by omega) rfl, c 4 _ (by omega) rfl, c 5 _ (by omega) rfl⟩

theorem cell_six_new (w : World) (a b c d e f : Value) (t : TypeId) : ∀ j u, [a, b, c, d, e, f][j]? = some u → (w.alloc (.cells #[a, b, c, d, e, f] t)).cell? ((⟨w.heap.size, 0, none⟩ : Addr).add j) = some u := by
  intro j u hj
  match j, hj with
  | 0, hj => simp at hj; subst hj; simp [Addr.add]
  | 1, hj => simp at hj; subst hj; simp [Addr.add]
  | 2, hj => simp at hj; subst hj; simp [Addr.add]
  | 3, hj => simp at hj; subst hj; simp [Addr.add]
  | 4, hj => simp at hj; subst hj; simp [Addr.add]
  | 5, hj => simp at hj; subst hj; simp [Addr.add]
  | j + 6, hj => simp at hj

end Go.Proofs.YtginggelbfbcfaaDoor
