/-
  Rows of things of several cells in memory: what their makers leave and their readers find, and that it stays so. Conditions: as each theorem names them.
-/
import Derived.Test.YtpnbpjhoilibcaaDoorLater
namespace Go.Proofs.YtpnbpjhoilibcaaDoor
open Go.RowKit
set_option linter.unusedVariables false

/-- Cells that stand one after another in a block, for their readers. -/
def CRow (w : World) (a : Option Addr) (xs : List Value) : Prop := ∀ j u, xs[j]? = some u → ∃ g, a = some ⟨g, 0, none⟩ ∧ w.cell? ⟨g, j, none⟩ = some u

theorem CRow.later {w w' : World} {a : Option Addr} {xs : List Value} (h : CRow w a xs) (hl : Later w w') : CRow w' a xs := fun j u hj =>
  let ⟨g, e, hc⟩ := h j u hj
  ⟨g, e, cell_later hc hl⟩

theorem CRow.nil (w : World) (a : Option Addr) : CRow w a [] := fun j u hj => by simp at hj

theorem ownsC_later {w w' : World} {base : Nat} {e : TypeId} {size : Nat} {v : Value} {n : Nat} {xs : List Value} (h : w.ownsRow base e size v n xs) (hl : Later w w') : w'.ownsRow base e size v n xs := by
  obtain ⟨h1, h2⟩ := h
  refine ⟨h1, ?_⟩
  rcases h2 with h2 | ⟨g, cap, cur, a, b, c, d⟩
  · exact .inl h2
  · exact .inr ⟨g, cap, cur, a, b, (hl.block _ (lt_of_block c)).trans c, d⟩

/-- What the maker of a row leaves, its readers find. -/
theorem crow_of_owns {w : World} {base : Nat} {e : TypeId} {k : Nat} {v : Value} {n : Nat} {xs : List Value} (hx : xs.length = n * k) (h : w.ownsRow base e k v n xs) : ∃ a cap, v = .slice a n cap ∧ CRow w a xs := by
  obtain ⟨h1, h2⟩ := h
  have hh : w.ownsRow base e k v n xs := ⟨h1, h2⟩
  rcases h2 with ⟨rfl, h0⟩ | ⟨g, cap, cur, rfl, hb, hc, hn, hm, hs, ht⟩
  · subst h0
    obtain rfl : xs = [] := List.length_eq_zero_iff.1 (by omega)
    exact ⟨none, 0, rfl, CRow.nil _ _⟩
  · refine ⟨some ⟨g, 0, none⟩, cap, rfl, fun j u hj => ⟨g, rfl, ?_⟩⟩
    have hlt : j < n * k := by rw [← hx]; exact (List.getElem?_eq_some_iff.1 hj).1
    rw [hh.cellAt j hlt]
    exact hj

/-- Behind an append: the new row, and all that was there. -/
theorem after_app {w w2 w3 : World} {o : Obj} {v v' : Value} {base : Nat} {et : TypeId} {sz n m : Nat} {xs ys : List Value}
    (hlw : Later w w2) (hb : w.heap.size ≤ base) (hown : w2.ownsRow base et sz v n xs) (hg : (w2.alloc o).grownBy w3 v.ownBlock) (hown' : w3.ownsRow base et sz v' m ys) :
    Aside (w3.ownsRow base et sz v' m ys ∧ Later w w3 ∧ ∀ k ob, k < base → w2.heap[k]? = some ob → w3.heap[k]? = some ob) := by
  refine ⟨hown', ?_, fun k ob hk h => ?_⟩
  · exact Below.grown (Below.alloc hlw hlw.size _) hg (by have := hlw.size; simp; omega) (fun j hj => by have := (hown.lt _ hj).1; omega)
  · have hlt := lt_of_block h
    rw [hg.block k (by simp; omega) (fun h => by have := (hown.lt _ h.symm).1; omega), Below.heap_alloc _ _ _ hlt]; exact h

/-- The cells of things, one after another. -/
def flatC {α : Type} (f : α → List Value) (L : List α) : List Value := L.flatMap f

theorem flatC_append {α : Type} (f : α → List Value) (A B : List α) : flatC f (A ++ B) = flatC f A ++ flatC f B := by simp [flatC]
theorem flatC_one {α : Type} (f : α → List Value) (x : α) : flatC f [x] = f x := by simp [flatC]
theorem flatC_length {α : Type} (f : α → List Value) (k : Nat) (hk : ∀ x, (f x).length = k) : ∀ L : List α, (flatC f L).length = L.length * k
  | [] => by simp [flatC]
  | x :: L => by
    have : flatC f (x :: L) = f x ++ flatC f L := rfl
    rw [this, List.length_append, flatC_length f k hk L, List.length_cons, hk, Nat.succ_mul, Nat.add_comm]

theorem flatC_get {α : Type} (f : α → List Value) (n : Nat) (hn : ∀ x, (f x).length = n) : ∀ (L : List α) (i : Nat) (x : α), L[i]? = some x → ∀ k, k < n → (flatC f L)[i * n + k]? = (f x)[k]?
  | [], i, x, h => by simp at h
  | y :: L, 0, x, h => fun k hk => by
    simp only [List.getElem?_cons_zero, Option.some.injEq] at h
    subst h
    show (f y ++ flatC f L)[0 * n + k]? = _
    rw [List.getElem?_append_left (by rw [hn]; omega)]
    simp
  | y :: L, i + 1, x, h => fun k hk => by
    simp only [List.getElem?_cons_succ] at h
    show (f y ++ flatC f L)[(i + 1) * n + k]? = _
    rw [List.getElem?_append_right (by rw [hn, Nat.succ_mul]; omega), ← flatC_get f n hn L i x h k hk, hn]
    congr 1
    rw [Nat.succ_mul]; omega

/-- The k-th cell of the i-th thing. -/
theorem CRow.cell {α : Type} {f : α → List Value} {n : Nat} (hn : ∀ x, (f x).length = n) {w : World} {g : Nat} {L : List α} (h : CRow w (some ⟨g, 0, none⟩) (flatC f L)) {i : Nat} {x : α} (hx : L[i]? = some x) {k : Nat} {u : Value} (hk : k < n) (hu : (f x)[k]? = some u) :
    w.cell? ⟨g, i * n + k, none⟩ = some u := by
  obtain ⟨g', e, c⟩ := h (i * n + k) u (by rw [flatC_get f n hn L i x hx k hk]; exact hu)
  cases e
  exact c

theorem CRow.some {α : Type} {f : α → List Value} {n : Nat} (hn : ∀ x, (f x).length = n) (h0 : 0 < n) {w : World} {a : Option Addr} {L : List α} (h : CRow w a (flatC f L)) {i : Nat} {x : α} (hx : L[i]? = some x) : ∃ g, a = some ⟨g, 0, none⟩ := by
  obtain ⟨u, hu⟩ : ∃ u, (f x)[0]? = Option.some u := ⟨_, List.getElem?_eq_getElem (by rw [hn]; exact h0)⟩
  obtain ⟨g, e, _⟩ := h (i * n + 0) u (by rw [flatC_get f n hn L i x hx 0 h0]; exact hu)
  exact ⟨g, e⟩

end Go.Proofs.YtpnbpjhoilibcaaDoor
