/-
  Rows of the call's own while a cell is written. Conditions: as each theorem names them.
-/
import Derived.Test.YtpnbpjhoilibcaaDoorRowIn
namespace Go.Proofs.YtpnbpjhoilibcaaDoor
open Go.RowKit
set_option linter.unusedVariables false
set_option linter.unusedSimpArgs false

/-- A row stays while a cell of a block of another type is written. -/
theorem owns_set_other {w : World} {base : Nat} {e : TypeId} {k : Nat} {v : Value} {n : Nat} {xs : List Value} (h : w.ownsRow base e k v n xs) {B : Nat} {ob : Obj} (hB : w.heap[B]? = some ob) (hne : ∀ cs fz, ob ≠ .cells cs e fz) (j : Nat) (u : Value) : (w.setCell ⟨B, j, none⟩ u).ownsRow base e k v n xs := by
  obtain ⟨h1, h2⟩ := h
  refine ⟨h1, ?_⟩
  rcases h2 with h2 | ⟨g, cap, cur, h3, h4, h5, h6⟩
  · exact Or.inl h2
  · refine Or.inr ⟨g, cap, cur, h3, h4, set_kept h5 (fun e0 => ?_), h6⟩
    subst e0
    rw [hB] at h5
    exact hne _ _ (Option.some.inj h5)

/-- A cell of the row itself is written. -/
theorem owns_set_own {w : World} {base : Nat} {e : TypeId} {k g n cap : Nat} {xs : List Value} (h : w.ownsRow base e k (.slice (some ⟨g, 0, none⟩) n cap) n xs) {j : Nat} (u : Value) : (w.setCell ⟨g, j, none⟩ u).ownsRow base e k (.slice (some ⟨g, 0, none⟩) n cap) n (xs.set j u) := by
  obtain ⟨h1, h2⟩ := h
  refine ⟨by rw [List.length_set]; exact h1, ?_⟩
  rcases h2 with ⟨h2, -⟩ | ⟨g', cap', cur, h3, h4, h5, h6, h7, h8, h9⟩
  · cases h2
  · cases h3
    refine Or.inr ⟨g, cap, cur.setIfInBounds j u, rfl, h4, setCell_block h5 j u, h6, h7, by simpa using h8, ?_⟩
    rw [Array.toList_setIfInBounds, List.take_set, h9]

theorem flatC_set {α : Type} (f : α → List Value) (n : Nat) (hn : ∀ x, (f x).length = n) : ∀ (T : List α) (i j : Nat) (x y : α) (u : Value), T[i]? = some x → j < n → f y = (f x).set j u → flatC f (T.set i y) = (flatC f T).set (i * n + j) u
  | [], i, j, x, y, u, h, _, _ => by simp at h
  | a :: T, 0, j, x, y, u, h, hj, he => by
    simp at h
    subst h
    show f y ++ flatC f T = (f a ++ flatC f T).set (0 * n + j) u
    rw [List.set_append_left _ _ (by rw [hn]; omega), he]
    simp
  | a :: T, i + 1, j, x, y, u, h, hj, he => by
    simp at h
    show f a ++ flatC f (T.set i y) = (f a ++ flatC f T).set ((i + 1) * n + j) u
    rw [List.set_append_right _ _ (by rw [hn, Nat.succ_mul]; omega), flatC_set f n hn T i j x y u h hj he, hn]
    congr 2
    rw [Nat.succ_mul]; omega

end Go.Proofs.YtpnbpjhoilibcaaDoor
