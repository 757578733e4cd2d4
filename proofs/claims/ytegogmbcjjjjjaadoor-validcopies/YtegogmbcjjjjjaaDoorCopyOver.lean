/-
  A copy that is written over: its threads' labels and operations, its symbols' sizes and numbers; what stays of it and of all that was before it. Conditions: as each theorem names them.
-/
import Derived.Test.YtegogmbcjjjjjaaDoorCopyLaw
namespace Go.Proofs.YtegogmbcjjjjjaaDoor
open Go.RowKit Go.WideShapes
set_option linter.unusedVariables false
set_option linter.unusedSimpArgs false

theorem flatV_one : ∀ xs : List Value, flatC oneV xs = xs
  | [] => rfl
  | x :: xs => by
    show oneV x ++ flatC oneV xs = _
    rw [flatV_one xs]
    rfl

theorem boxC_off {w w' : World} {g : Nat} (h : OffB g w w') {cur : Array Value} {t : TypeId} (hg : w.heap[g]? = some (.cells cur t)) (ht : 25 ≠ t) {B : Nat} {cs : Array Value} (hB : w.heap[B]? = some (.cells cs 25)) : w'.heap[B]? = some (.cells cs 25) := by
  rw [h B (fun e => by rw [e, hg] at hB; cases hB; exact ht rfl)]
  exact hB

theorem own_cell {w : World} {N : Nat} {e : TypeId} {p : Option Addr} {n cap : Nat} {xs : List Value} (hn : xs.length = n) (h : w.ownsRow N e 1 (.slice p n cap) n xs) {j : Nat} {u : Value} (hj : xs[j]? = some u) : ∃ g cur, p = some ⟨g, 0, none⟩ ∧ N ≤ g ∧ w.heap[g]? = some (.cells cur e) ∧ w.cell? ⟨g, j, none⟩ = some u := by
  obtain ⟨g, cur, h1, h2, h3, h4⟩ := owns_cellF oneV_len hn (by rw [flatV_one]; exact h) hj (by omega)
  obtain ⟨h5, -⟩ := h4 0 u rfl
  rw [Nat.mul_one, Nat.add_zero] at h5
  exact ⟨g, cur, h1, h2, h3, h5⟩

theorem Bend.offT {w w' : World} {N K n g : Nat} {tv : Value} {vs : List Value} (h : Bend w N K tv n vs) (ho : OffB g w w') {cur : Array Value} {t : TypeId} (hg : w.heap[g]? = some (.cells cur t)) (h1 : 34 ≠ t) (h2 : 39 ≠ t) (h3 : 9 ≠ t) : Bend w' N K tv n vs :=
  ⟨ho.owns h.row (owns_neB h.row hg h1), h.len, h.few, fun i v hv => by
    obtain ⟨T, k1, k2⟩ := h.each i v hv
    exact ⟨T, ⟨ho.owns k1.row (owns_neB k1.row hg h2), fun x hx => ⟨(k1.each x hx).1, ho.owns (k1.each x hx).2.1 (owns_neB (k1.each x hx).2.1 hg h3), (k1.each x hx).2.2⟩⟩, k2⟩⟩

/-- The j-th thread. -/
theorem Bend.find {w : World} {N K n cap : Nat} {p : Option Addr} {vs : List Value} (h : Bend w N K (.slice p n cap) n vs) {j : Nat} (hj : j < n) : ∃ g gt m ct cur, p = some ⟨g, 0, none⟩ ∧ N ≤ g ∧ w.heap[g]? = some (.cells cur 34) ∧ vs[j]? = some (.slice (some ⟨gt, 0, none⟩) m ct) ∧ m ≤ 7 ∧ N ≤ gt := by
  obtain ⟨u, hu⟩ : ∃ u, vs[j]? = some u := ⟨_, List.getElem?_eq_getElem (by rw [h.len]; exact hj)⟩
  obtain ⟨T, h1, h2, h3, -⟩ := h.each j u hu
  obtain ⟨gt, ct, cur, rfl, k1, -⟩ := h1.block h2
  obtain ⟨g, cur, e1, e2, e3, -⟩ := owns_cellF oneV_len h.len h.row hu (by omega)
  exact ⟨g, gt, _, ct, cur, e1, e2, e3, hu, h3, k1⟩

theorem Bend.cells {w : World} {N K n cap g : Nat} {vs : List Value} (h : Bend w N K (.slice (some ⟨g, 0, none⟩) n cap) n vs) {j gt m ct : Nat} (hv : vs[j]? = some (.slice (some ⟨gt, 0, none⟩) m ct)) : w.cell? ⟨g, j, none⟩ = some (.slice (some ⟨gt, 0, none⟩) m ct) ∧ ∃ cur, w.heap[gt]? = some (.cells cur 39) := by
  obtain ⟨T, h1, h2, h3, -⟩ := h.each j _ hv
  obtain ⟨g', cur, e1, e2, e3, e4⟩ := owns_cellF oneV_len h.len h.row hv (by omega)
  cases e1
  obtain ⟨h5, -⟩ := e4 0 _ rfl
  rw [Nat.mul_one, Nat.add_zero] at h5
  exact ⟨h5, h1.at.2.2⟩

/-- The labels of its i-th instruction. -/
theorem Bend.labels? {w : World} {N K n : Nat} {tv : Value} {vs : List Value} (h : Bend w N K tv n vs) {j gt m ct : Nat} (hv : vs[j]? = some (.slice (some ⟨gt, 0, none⟩) m ct)) {i : Nat} (hi : i < m) : ∃ pl k cl, w.cell? ⟨gt, i * 13 + 12, none⟩ = some (.slice pl k cl) ∧ k ≤ K := by
  obtain ⟨T, h1, h2, h3, h4⟩ := h.each j _ hv
  obtain ⟨rfl, -, -⟩ := h1.at
  obtain ⟨⟨x, L⟩, hx⟩ : ∃ x, T[i]? = some x := ⟨_, List.getElem?_eq_getElem hi⟩
  obtain ⟨-, k2, -, -⟩ := h1.get hx
  have hm := List.mem_of_getElem? hx
  obtain ⟨pl, cl, e⟩ := owns_slice (h1.each _ hm).2.1
  dsimp only at e
  rw [e] at k2
  exact ⟨pl, L.length, cl, k2, (h4 _ hm).2⟩

theorem Bend.op? {w : World} {N K n : Nat} {tv : Value} {vs : List Value} (h : Bend w N K tv n vs) {j gt m ct : Nat} (hv : vs[j]? = some (.slice (some ⟨gt, 0, none⟩) m ct)) {i : Nat} (hi : i < m) : ∃ z, w.cell? ⟨gt, i * 13, none⟩ = some (.int .i64 z) := by
  obtain ⟨T, h1, h2, h3, h4⟩ := h.each j _ hv
  obtain ⟨rfl, -, -⟩ := h1.at
  obtain ⟨⟨x, L⟩, hx⟩ : ∃ x, T[i]? = some x := ⟨_, List.getElem?_eq_getElem hi⟩
  obtain ⟨g', cur, e1, e2, e3, e4⟩ := owns_cellF insC_len rfl h1.row hx (by omega)
  cases e1
  obtain ⟨h5, -⟩ := e4 0 (.int .i64 x.op) rfl
  exact ⟨x.op, h5⟩

/-- One of these labels. -/
theorem Bend.label? {w : World} {N K n : Nat} {tv : Value} {vs : List Value} (h : Bend w N K tv n vs) {j gt m ct : Nat} (hv : vs[j]? = some (.slice (some ⟨gt, 0, none⟩) m ct)) {i : Nat} (hi : i < m) {pl : Option Addr} {k cl : Nat} (hc : w.cell? ⟨gt, i * 13 + 12, none⟩ = some (.slice pl k cl)) {q : Nat} (hq : q < k) : ∃ gs cur, pl = some ⟨gs, 0, none⟩ ∧ N ≤ gs ∧ w.heap[gs]? = some (.cells cur 9) ∧ ∃ s, w.cell? ⟨gs, q, none⟩ = some (.string s) := by
  obtain ⟨T, h1, h2, h3, h4⟩ := h.each j _ hv
  obtain ⟨rfl, -, -⟩ := h1.at
  obtain ⟨⟨x, L⟩, hx⟩ : ∃ x, T[i]? = some x := ⟨_, List.getElem?_eq_getElem hi⟩
  obtain ⟨-, k2, -, -⟩ := h1.get hx
  rw [hc] at k2
  have hm := List.mem_of_getElem? hx
  have ho := (h1.each _ hm).2.1
  obtain ⟨pl', cl', e⟩ := owns_slice ho
  dsimp only at e ho k2
  rw [e] at ho k2
  cases k2
  obtain ⟨gs, cur, a1, a2, a3, a4⟩ := own_cell (by simp) ho (j := q) (u := .string L[q]) (by simp [List.getElem?_eq_getElem hq])
  exact ⟨gs, cur, a1, a2, a3, _, a4⟩

/-- A copy that is being written over; W: what was before it. -/
structure Over (W w : World) (N C : Nat) (us ut : Value) (n : Nat) (vs : List Value) (i : Nat) : Prop where
  later : Later W w
  base : W.heap.size ≤ N
  box : w.heap[C]? = some (.cells #[us, ut] 25)
  syms : ∃ S, OverS w N us 3 i S
  thr : Bend w N 6 ut n vs

theorem Over.mono {W w w' : World} {N C n i : Nat} {us ut : Value} {vs : List Value} (h : Over W w N C us ut n vs i) (hl : Later w w') : Over W w' N C us ut n vs i := by
  obtain ⟨S, hS⟩ := h.syms
  exact ⟨h.later.trans hl, h.base, heap_later hl h.box, ⟨S, hS.later hl⟩, h.thr.later hl⟩

theorem cell_off {g : Nat} {w w' : World} (h : OffB g w w') {B j : Nat} (hne : B ≠ g) {u : Value} (hc : w.cell? ⟨B, j, none⟩ = some u) : w'.cell? ⟨B, j, none⟩ = some u := by
  rw [← hc]
  simp only [World.cell?, h B hne]

theorem block_ne {w : World} {B C : Nat} {a b : Array Value} {s t : TypeId} (h : w.heap[B]? = some (.cells a s)) (k : w.heap[C]? = some (.cells b t)) (hne : s ≠ t) : B ≠ C := fun e => by
  subst e
  rw [h] at k
  cases k
  exact hne rfl

theorem Over.text {W w : World} {N C n i : Nat} {us ut : Value} {vs : List Value} (h : Over W w N C us ut n vs i) {gs : Nat} {cur : Array Value} (hN : N ≤ gs) (hg : w.heap[gs]? = some (.cells cur 9)) (q : Nat) : Over W (w.setCell ⟨gs, q, none⟩ (.string ⟨#[111, 118, 101, 114]⟩)) N C us ut n vs i := by
  have ho := off_set w gs q (.string ⟨#[111, 118, 101, 114]⟩)
  obtain ⟨S, hS⟩ := h.syms
  exact ⟨Later.setCell h.later (Nat.le_trans h.base hN) _ _, h.base, boxC_off ho hg (by decide) h.box, ⟨S, hS.off ho hg (by decide) (by decide)⟩, h.thr.texts (m := q) hg ho ⟨#[111, 118, 101, 114]⟩ (by decide) (by rw [setCell_block hg, set_toList])⟩

theorem Over.op {W w : World} {N C n i : Nat} {us ut : Value} {vs : List Value} (h : Over W w N C us ut n vs i) {j gt m ct : Nat} (hv : vs[j]? = some (.slice (some ⟨gt, 0, none⟩) m ct)) (hN : N ≤ gt) {cur : Array Value} (hg : w.heap[gt]? = some (.cells cur 39)) (k : Nat) : Over W (w.setCell ⟨gt, k * 13, none⟩ (.int .i64 99)) N C us ut n vs i := by
  have ho := off_set w gt (k * 13) (.int .i64 99)
  obtain ⟨S, hS⟩ := h.syms
  exact ⟨Later.setCell h.later (Nat.le_trans h.base hN) _ _, h.base, boxC_off ho hg (by decide) h.box, ⟨S, hS.off ho hg (by decide) (by decide)⟩,
    h.thr.field hv k 0 (by omega) (.int .i64 99) (fun x => ⟨99, x.lock, x.cond, x.a, x.b, x.dest, x.labels⟩) (fun x L => rfl) (fun x h => ⟨by show I64 99; unfold I64; omega, h.cond, h.a, h.b, h.dest⟩) (fun x h => h) (fun x => rfl)⟩

/-- The numbers of the j-th symbol. -/
theorem Over.nums? {W w : World} {N C n i cap : Nat} {p : Option Addr} {ut : Value} {vs : List Value} (h : Over W w N C (.slice p 3 cap) ut n vs i) {j : Nat} (hj : j < 3) : ∃ g cur pi k ci, p = some ⟨g, 0, none⟩ ∧ N ≤ g ∧ w.heap[g]? = some (.cells cur 42) ∧ w.cell? ⟨g, j * 3 + 2, none⟩ = some (.slice pi k ci) ∧ k ≤ maxLen ∧ ∃ z, w.cell? ⟨g, j * 3 + 1, none⟩ = some (.int .i64 z) := by
  obtain ⟨S, hS⟩ := h.syms
  obtain ⟨⟨x, I⟩, hx⟩ : ∃ x, S[j]? = some x := ⟨_, List.getElem?_eq_getElem (by rw [hS.len]; exact hj)⟩
  obtain ⟨g, cur, e1, e2, e3, e4⟩ := owns_cellF symCells_len hS.len hS.row hx (by omega)
  obtain ⟨h5, -⟩ := e4 2 x.init rfl
  have ho := (hS.each _ (List.mem_of_getElem? hx)).2.2.1
  obtain ⟨pi, ci, e⟩ := owns_slice ho
  dsimp only at e ho
  rw [e] at h5 ho
  obtain ⟨o1, o2⟩ := owns_cap ho
  obtain ⟨h6, -⟩ := e4 1 (.int .i64 x.size) rfl
  exact ⟨g, cur, pi, _, ci, e1, e2, e3, h5, by omega, _, h6⟩

/-- One of these numbers. -/
theorem Over.num? {W w : World} {N C n i cap g : Nat} {ut : Value} {vs : List Value} (h : Over W w N C (.slice (some ⟨g, 0, none⟩) 3 cap) ut n vs i) {j : Nat} (hj : j < 3) {pi : Option Addr} {k ci : Nat} (hc : w.cell? ⟨g, j * 3 + 2, none⟩ = some (.slice pi k ci)) {q : Nat} (hq : q < k) : ∃ gn cur, pi = some ⟨gn, 0, none⟩ ∧ N ≤ gn ∧ w.heap[gn]? = some (.cells cur 2) ∧ ∃ z, w.cell? ⟨gn, q, none⟩ = some (.int .i64 z) := by
  obtain ⟨S, hS⟩ := h.syms
  obtain ⟨⟨x, I⟩, hx⟩ : ∃ x, S[j]? = some x := ⟨_, List.getElem?_eq_getElem (by rw [hS.len]; exact hj)⟩
  obtain ⟨g', cur, e1, e2, e3, e4⟩ := owns_cellF symCells_len hS.len hS.row hx (by omega)
  cases e1
  obtain ⟨h5, -⟩ := e4 2 x.init rfl
  rw [hc] at h5
  have ho := (hS.each _ (List.mem_of_getElem? hx)).2.2.1
  obtain ⟨pl', cl', e⟩ := owns_slice ho
  dsimp only at e ho h5
  rw [e] at ho h5
  cases h5
  obtain ⟨gs, cur, a1, a2, a3, a4⟩ := own_cell (by simp) ho (j := q) (u := .int .i64 I[q]) (by simp [List.getElem?_eq_getElem hq])
  exact ⟨gs, cur, a1, a2, a3, _, a4⟩

theorem Over.size {W w : World} {N C n i cap g : Nat} {ut : Value} {vs : List Value} (h : Over W w N C (.slice (some ⟨g, 0, none⟩) 3 cap) ut n vs i) (hi : i < 3) (hN : N ≤ g) {cur : Array Value} (hg : w.heap[g]? = some (.cells cur 42)) : Over W (w.setCell ⟨g, i * 3 + 1, none⟩ (.int .i64 99)) N C (.slice (some ⟨g, 0, none⟩) 3 cap) ut n vs (i + 1) := by
  have ho := off_set w g (i * 3 + 1) (.int .i64 99)
  obtain ⟨S, hS⟩ := h.syms
  obtain ⟨⟨x, I⟩, hx⟩ : ∃ x, S[i]? = some x := ⟨_, List.getElem?_eq_getElem (by rw [hS.len]; exact hi)⟩
  exact ⟨Later.setCell h.later (Nat.le_trans h.base hN) _ _, h.base, boxC_off ho hg (by decide) h.box, ⟨_, hS.size hx hg⟩, h.thr.offT ho hg (by decide) (by decide) (by decide)⟩

theorem Over.num {W w : World} {N C n i : Nat} {us ut : Value} {vs : List Value} (h : Over W w N C us ut n vs i) {gn : Nat} {cur : Array Value} (hN : N ≤ gn) (hg : w.heap[gn]? = some (.cells cur 2)) (q : Nat) : Over W (w.setCell ⟨gn, q, none⟩ (.int .i64 99)) N C us ut n vs i := by
  have ho := off_set w gn q (.int .i64 99)
  obtain ⟨S, hS⟩ := h.syms
  obtain ⟨S', hS', -⟩ := hS.nums (m := q) hg
  exact ⟨Later.setCell h.later (Nat.le_trans h.base hN) _ _, h.base, boxC_off ho hg (by decide) h.box, ⟨S', hS'⟩, h.thr.offT ho hg (by decide) (by decide) (by decide)⟩

/-- All is written over. -/
theorem Over.done {W w : World} {N C n : Nat} {us ut : Value} {vs : List Value} (h : Over W w N C us ut n vs 3) {S : Syms} {P : List Thr} (h1 : ∃ s, S[0]? = some s ∧ s.1.size = 1) : ∃ S' P', SymRow w us S' ∧ ThrRow w ut P' ∧ progEq S' P' S P = false := by
  obtain ⟨S', hS⟩ := h.syms
  obtain ⟨P', k1, -, -⟩ := h.thr.thrRow (by omega)
  obtain ⟨s, e1, e2⟩ := h1
  have hx : S'[0]? = some (S'[0]'(by rw [hS.len]; omega)) := List.getElem?_eq_getElem _
  have h99 := hS.over 0 _ (by omega) hx
  refine ⟨S', P', hS.rows, k1, ?_⟩
  unfold progEq
  rw [listEq_not hx e1 (by simp [symEq, h99, e2])]
  rfl

/-- The parts of a copy. -/
theorem Copied.parts {w : World} {N : Nat} {u v : Value} {S : Syms} {P : List Thr} (h : Copied w N u v S P) (hg : GoodS S) {m n : Nat} (hm : S.length = m) (hn : P.length = n) : ∃ p c q d S' P', u = .slice p m c ∧ v = .slice q n d ∧ SymRow w (.slice p m c) S' ∧ ThrRow w (.slice q n d) P' ∧ progEq S' P' S P = true ∧ progEq S P S' P' = true := by
  obtain ⟨S', P', h1, h2, h3, h4⟩ := h.rows hg
  obtain ⟨⟨S1, k1⟩, W, vs, k2⟩ := h
  obtain ⟨p, c, rfl⟩ := owns_slice k1.row
  obtain ⟨q, d, rfl⟩ := owns_slice k2.row
  subst hm
  subst hn
  exact ⟨p, c, q, d, S', P', rfl, rfl, h1, h2, h3, h4⟩

/-- A copy may be written over. -/
theorem Copied.over {W w : World} {N : Nat} {u v : Value} {S : Syms} {P : List Thr} (h : Copied w N u v S P) (hg : GoodS S) (hs : SmallP S P) (hf : ∀ T ∈ P, 0 < T.length ∧ T.length ≤ 7) {n : Nat} (hm : S.length = 3) (hn : P.length = n) (h3 : n ≤ 3) (hN : W.heap.size ≤ N) {w' : World} (hl : Later w w') (hL : Later W w') {C : Nat} (hC : w'.heap[C]? = some (.cells #[u, v] 25)) : ∃ vs, Over W w' N C u v n vs 0 := by
  subst hn
  obtain ⟨⟨S1, k1⟩, W0, vs, k2⟩ := h
  exact ⟨vs, hL, hN, hC, ⟨S1, by have := (k1.overS hg).later hl; rwa [hm] at this⟩, (k2.bend h3 hf (fun T hT x hx => ⟨hs.dest T hT x hx, hs.labs T hT x hx⟩)).later hl⟩

end Go.Proofs.YtegogmbcjjjjjaaDoor
