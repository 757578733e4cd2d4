/-
  Threads that the call has made: a row of instructions of its own, each with labels of its own; what stays of it while other memory is made or written, and when one instruction's labels are set. Conditions: as each theorem names them.
-/
import Derived.Test.YtegogmbcjjjjjaaDoorManyPlain
import Derived.Test.YtegogmbcjjjjjaaDoorJh
namespace Go.Proofs.YtegogmbcjjjjjaaDoor
open Go.RowKit Go.WideShapes
set_option linter.unusedVariables false
set_option linter.unusedSimpArgs false

/-- A row stays while a cell of a block of another type is written. -/
theorem owns_set_other {w : World} {base : Nat} {e : TypeId} {k : Nat} {v : Value} {n : Nat} {xs : List Value} (h : w.ownsRow base e k v n xs) {B : Nat} {ob : Obj} (hB : w.heap[B]? = some ob) (hne : ∀ cs fz, ob ≠ .cells cs e fz) (j : Nat) (u : Value) : (w.setCell ⟨B, j, none⟩ u).ownsRow base e k v n xs := by
  obtain ⟨h1, h2⟩ := h
  refine ⟨h1, ?_⟩
  rcases h2 with h2 | ⟨g, cap, cur, h3, h4, h5, h6⟩
  · exact Or.inl h2
  · refine Or.inr ⟨g, cap, cur, h3, h4, set_kept h5 (fun e0 => ?_), h6⟩
    subst e0
    rw [hB] at h5
    exact hne _ _ (Option.some.inj h5)

/-- A cell of the row itself is written. -/
theorem owns_set_own {w : World} {base : Nat} {e : TypeId} {k g n cap : Nat} {xs : List Value} (h : w.ownsRow base e k (.slice (some ⟨g, 0, none⟩) n cap) n xs) {j : Nat} (u : Value) : (w.setCell ⟨g, j, none⟩ u).ownsRow base e k (.slice (some ⟨g, 0, none⟩) n cap) n (xs.set j u) := by
  obtain ⟨h1, h2⟩ := h
  refine ⟨by rw [List.length_set]; exact h1, ?_⟩
  rcases h2 with ⟨h2, -⟩ | ⟨g', cap', cur, h3, h4, h5, h6, h7, h8, h9⟩
  · cases h2
  · cases h3
    refine Or.inr ⟨g, cap, cur.setIfInBounds j u, rfl, h4, setCell_block h5 j u, h6, h7, by simpa using h8, ?_⟩
    rw [Array.toList_setIfInBounds, List.take_set, h9]

theorem flatC_set {α : Type} (f : α → List Value) (n : Nat) (hn : ∀ x, (f x).length = n) : ∀ (T : List α) (i j : Nat) (x y : α) (u : Value), T[i]? = some x → j < n → f y = (f x).set j u → flatC f (T.set i y) = (flatC f T).set (i * n + j) u
  | [], i, j, x, y, u, h, _, _ => by simp at h
  | a :: T, 0, j, x, y, u, h, hj, he => by
    simp at h
    subst h
    show f y ++ flatC f T = (f a ++ flatC f T).set (0 * n + j) u
    rw [List.set_append_left _ _ (by rw [hn]; omega), he]
    simp
  | a :: T, i + 1, j, x, y, u, h, hj, he => by
    simp at h
    show f a ++ flatC f (T.set i y) = (f a ++ flatC f T).set ((i + 1) * n + j) u
    rw [List.set_append_right _ _ (by rw [hn, Nat.succ_mul]; omega), flatC_set f n hn T i j x y u h hj he, hn]
    congr 2
    rw [Nat.succ_mul]; omega

/-- An instruction with other labels. -/
def withLabels (x : Ins) (v : Value) : Ins := ⟨x.op, x.lock, x.cond, x.a, x.b, x.dest, v⟩

theorem insC_labels (x : Ins) (v : Value) (L M : List ByteArray) : insC (withLabels x v, M) = (insC (x, L)).set 12 v := rfl

structure OwnThr (w : World) (N : Nat) (v : Value) (T : Thr) : Prop where
  row : w.ownsRow N 39 13 v T.length (flatC insC T)
  each : ∀ x ∈ T, x.1.Ok ∧ OwnTexts w N x.1.labels x.2 ∧ ∀ t ∈ x.2, t.size ≤ 1000

theorem OwnThr.later {w w' : World} {N : Nat} {v : Value} {T : Thr} (h : OwnThr w N v T) (hl : Later w w') : OwnThr w' N v T :=
  ⟨ownsC_later h.row hl, fun x hx => ⟨(h.each x hx).1, ownsC_later (h.each x hx).2.1 hl, (h.each x hx).2.2⟩⟩

theorem OwnThr.mono {w : World} {N N' : Nat} {v : Value} {T : Thr} (h : OwnThr w N v T) (hN : N' ≤ N) : OwnThr w N' v T :=
  ⟨owns_base h.row hN, fun x hx => ⟨(h.each x hx).1, owns_base (h.each x hx).2.1 hN, (h.each x hx).2.2⟩⟩

theorem OwnThr.grown {w w' : World} {N : Nat} {v : Value} {T : Thr} (h : OwnThr w N v T) {base : Nat} {e : TypeId} {k : Nat} {u : Value} {n : Nat} {xs : List Value} (ho : w.ownsRow base e k u n xs) (h1 : e ≠ 39) (h2 : e ≠ 9) (hg : w.grownBy w' u.ownBlock) : OwnThr w' N v T :=
  ⟨owns_kept h1 ho h.row hg, fun x hx => ⟨(h.each x hx).1, owns_kept h2 ho (h.each x hx).2.1 hg, (h.each x hx).2.2⟩⟩

theorem OwnThr.set_other {w : World} {N : Nat} {v : Value} {T : Thr} (h : OwnThr w N v T) {B : Nat} {ob : Obj} (hB : w.heap[B]? = some ob) (h1 : ∀ cs fz, ob ≠ .cells cs 39 fz) (h2 : ∀ cs fz, ob ≠ .cells cs 9 fz) (j : Nat) (u : Value) : OwnThr (w.setCell ⟨B, j, none⟩ u) N v T :=
  ⟨owns_set_other h.row hB h1 j u, fun x hx => ⟨(h.each x hx).1, owns_set_other (h.each x hx).2.1 hB h2 j u, (h.each x hx).2.2⟩⟩

theorem OwnThr.insRow {w : World} {N : Nat} {v : Value} {T : Thr} (h : OwnThr w N v T) : InsRow w v T :=
  RowIn.of_owns (f := insC) insC_len (by omega) rfl h.row (fun x hx => ⟨rfl, (h.each x hx).1, (h.each x hx).2.1.texts (fun t ht => by have := (h.each x hx).2.2 t ht; unfold maxLen; omega)⟩)

theorem OwnThr.block {w : World} {N : Nat} {v : Value} {T : Thr} (h : OwnThr w N v T) (hT : 0 < T.length) : ∃ g cap cur, v = .slice (some ⟨g, 0, none⟩) T.length cap ∧ N ≤ g ∧ w.heap[g]? = some (.cells cur 39) := by
  rcases h.row.2 with ⟨-, h0⟩ | ⟨g, cap, cur, h1, h2, h3, -⟩
  · omega
  · exact ⟨g, cap, cur, h1, h2, h3⟩

theorem OwnThr.get {w : World} {N g n cap : Nat} {T : Thr} (h : OwnThr w N (.slice (some ⟨g, 0, none⟩) n cap) T) {k : Nat} {x : Ins} {L : List ByteArray} (hk : T[k]? = some (x, L)) :
    w.cell? ⟨g, k * 13 + 11, none⟩ = some (.string x.dest) ∧ w.cell? ⟨g, k * 13 + 12, none⟩ = some x.labels ∧ TextsIn w x.labels L ∧ w.frozen? ⟨g, k * 13 + 12, none⟩ = false := by
  obtain ⟨g1, o1, hgo, -, ht, -, -, -, -, -, -, -, -, -, -, -, b11, b12⟩ := h.insRow.get hk
  simp only [Option.some.injEq, Addr.mk.injEq] at hgo
  obtain ⟨rfl, rfl, -⟩ := hgo
  rw [Nat.zero_add] at b11 b12
  refine ⟨b11, b12, ht, ?_⟩
  rcases h.row.2 with ⟨h0, -⟩ | ⟨g', cap', cur, h0, -, hc, -⟩
  · cases h0
  · simp only [Value.slice.injEq, Option.some.injEq, Addr.mk.injEq] at h0
    obtain ⟨⟨rfl, -, -⟩, -, -⟩ := h0
    simp [World.frozen?, hc]

theorem mem_set {α : Type} {l : List α} {i : Nat} {a x : α} (h : x ∈ l.set i a) : x ∈ l ∨ x = a := List.mem_or_eq_of_mem_set h

/-- One instruction's labels are set. -/
theorem OwnThr.label {w : World} {N g cap : Nat} {T : Thr} (h : OwnThr w N (.slice (some ⟨g, 0, none⟩) T.length cap) T) {cur : Array Value} (hg : w.heap[g]? = some (.cells cur 39)) {k : Nat} {x : Ins} {L M : List ByteArray} (hk : T[k]? = some (x, L)) {u : Value} (hu : OwnTexts w N u M) (hM : ∀ t ∈ M, t.size ≤ 1000) :
    OwnThr (w.setCell ⟨g, k * 13 + 12, none⟩ u) N (.slice (some ⟨g, 0, none⟩) T.length cap) (T.set k (withLabels x u, M)) := by
  refine ⟨?_, fun y hy => ?_⟩
  · rw [List.length_set, flatC_set insC 13 insC_len T k 12 (x, L) (withLabels x u, M) u hk (by omega) (insC_labels x u L M)]
    exact owns_set_own h.row u
  · rcases mem_set hy with hy | rfl
    · exact ⟨(h.each y hy).1, owns_set_other (h.each y hy).2.1 hg (fun cs fz e0 => by cases e0) _ _, (h.each y hy).2.2⟩
    · have hx := (h.each _ (List.mem_of_getElem? hk)).1
      exact ⟨⟨hx.op, hx.cond, hx.a, hx.b, hx.dest⟩, owns_set_other hu hg (fun cs fz e0 => by cases e0) _ _, hM⟩

theorem OwnThr.at {w : World} {N g n cap : Nat} {T : Thr} (h : OwnThr w N (.slice (some ⟨g, 0, none⟩) n cap) T) : n = T.length ∧ N ≤ g ∧ ∃ cur, w.heap[g]? = some (.cells cur 39) := by
  rcases h.row.2 with ⟨h0, -⟩ | ⟨g', cap', cur, h0, h1, hc, -⟩
  · cases h0
  · simp only [Value.slice.injEq, Option.some.injEq, Addr.mk.injEq] at h0
    obtain ⟨⟨rfl, -, -⟩, rfl, -⟩ := h0
    exact ⟨rfl, h1, cur, hc⟩

theorem OwnThr.label2 {w : World} {N g n cap : Nat} {T : Thr} (h : OwnThr w N (.slice (some ⟨g, 0, none⟩) n cap) T) {k : Nat} {x : Ins} {L M : List ByteArray} (hk : T[k]? = some (x, L)) {u : Value} (hu : OwnTexts w N u M) (hM : ∀ t ∈ M, t.size ≤ 1000) :
    OwnThr (w.setCell ⟨g, k * 13 + 12, none⟩ u) N (.slice (some ⟨g, 0, none⟩) n cap) (T.set k (withLabels x u, M)) := by
  obtain ⟨rfl, -, cur, hc⟩ := h.at
  exact h.label hc hk hu hM

/-- What a made thread has: the instructions, each with its own label where it is marked. -/
structure IsThr (R : List Ins) (m : Nat → Bool) (T : Thr) : Prop where
  len : T.length = R.length
  is : ∀ (k : Nat) x L r, T[k]? = some (x, L) → R[k]? = some r → withLabels x (.slice none 0 0) = withLabels r (.slice none 0 0) ∧ L = if m k = true then [labelT k] else []

theorem IsThr.start {R : List Ins} : IsThr R (fun _ => false) (R.map fun r => (r, [])) := by
  refine ⟨by simp, fun k x L r h1 h2 => ?_⟩
  rw [List.getElem?_map, h2] at h1
  simp at h1
  obtain ⟨rfl, rfl⟩ := h1
  exact ⟨rfl, rfl⟩

theorem IsThr.same {R : List Ins} {m m' : Nat → Bool} {T : Thr} (h : IsThr R m T) (hm : ∀ k, k < R.length → m k = m' k) : IsThr R m' T := by
  refine ⟨h.len, fun k x L r h1 h2 => ?_⟩
  have := h.is k x L r h1 h2
  rw [← hm k (List.getElem?_eq_some_iff.1 h2).1]
  exact this

theorem IsThr.mark {R : List Ins} {m m' : Nat → Bool} {T : Thr} (h : IsThr R m T) {k : Nat} {x : Ins} {L : List ByteArray} (hk : T[k]? = some (x, L)) (u : Value) (hm : ∀ j, j ≠ k → m j = m' j) (hm' : m' k = true) : IsThr R m' (T.set k (withLabels x u, [labelT k])) := by
  refine ⟨by rw [List.length_set]; exact h.len, fun j y M r h1 h2 => ?_⟩
  by_cases hj : j = k
  · subst hj
    have hlt := (List.getElem?_eq_some_iff.1 hk).1
    rw [List.getElem?_set_self hlt] at h1
    simp at h1
    obtain ⟨rfl, rfl⟩ := h1
    rw [hm']
    exact ⟨(h.is j x L r hk h2).1, rfl⟩
  · rw [List.getElem?_set_ne (fun e => hj e.symm)] at h1
    rw [← hm j hj]
    exact h.is j y M r h1 h2

end Go.Proofs.YtegogmbcjjjjjaaDoor
