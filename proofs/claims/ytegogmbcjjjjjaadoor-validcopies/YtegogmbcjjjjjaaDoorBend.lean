/-
  A made program that is bent: what stays of its threads and symbols when a cell of them is written, a text is laid behind labels, memory is made. Conditions: as each theorem names them.
-/
import Derived.Test.YtegogmbcjjjjjaaDoorMadeValid
import Derived.Test.YtegogmbcjjjjjaaDoorOwnThr
import Derived.Laws.AppendOwn
namespace Go.Proofs.YtegogmbcjjjjjaaDoor
open Go.RowKit
set_option linter.unusedVariables false
set_option linter.unusedSimpArgs false

/-- Nothing else is written than one block. -/
def OffB (g : Nat) (w w' : World) : Prop := ∀ B, B ≠ g → w'.heap[B]? = w.heap[B]?

theorem OffB.owns {g : Nat} {w w' : World} (h : OffB g w w') {base : Nat} {e : TypeId} {k : Nat} {v : Value} {n : Nat} {xs : List Value} (ho : w.ownsRow base e k v n xs) (hne : v.ownBlock ≠ some g) : w'.ownsRow base e k v n xs := by
  obtain ⟨h1, h2 | ⟨g', cap, cur, rfl, h4, h5, h6⟩⟩ := ho
  · exact ⟨h1, Or.inl h2⟩
  · exact ⟨h1, Or.inr ⟨g', cap, cur, rfl, h4, (h g' (fun e => hne (by rw [e]; rfl))).trans h5, h6⟩⟩

theorem owns_neB {w : World} {base : Nat} {e t : TypeId} {k : Nat} {v : Value} {n : Nat} {xs : List Value} (ho : w.ownsRow base e k v n xs) {g : Nat} {cur : Array Value} (hg : w.heap[g]? = some (.cells cur t)) (het : e ≠ t) : v.ownBlock ≠ some g := by
  obtain ⟨h1, ⟨rfl, -⟩ | ⟨g', cap, cur', rfl, h4, h5, h6⟩⟩ := ho
  · intro h; cases h
  · intro h
    simp only [Value.ownBlock, Option.some.injEq] at h
    subst h
    rw [hg] at h5
    cases h5
    exact het rfl

theorem off_set (w : World) (g j : Nat) (u : Value) : OffB g w (w.setCell ⟨g, j, none⟩ u) := fun B hB => setCell_other hB j u

/-- Threads that may be bent. -/
structure Bend (w : World) (N K : Nat) (tv : Value) (n : Nat) (vs : List Value) : Prop where
  row : w.ownsRow N 34 1 tv n (flatC oneV vs)
  len : vs.length = n
  few : n ≤ 3
  each : ∀ (i : Nat) v, vs[i]? = some v → ∃ T, OwnThr w N v T ∧ 0 < T.length ∧ T.length ≤ 7 ∧ ∀ x ∈ T, x.1.dest.size ≤ 1000 ∧ x.2.length ≤ K

/-- Symbols that may be bent. -/
structure BendS (w : World) (N : Nat) (b : Nat) (S : Syms) : Prop where
  row : w.ownsRow N 42 3 (.slice (some ⟨b, 0, none⟩) 3 3) 3 (flatC symCells S)
  len : S.length = 3
  each : ∀ s ∈ S, s.1.name.size ≤ 1000 ∧ I64 s.1.size ∧ w.ownsRow N 2 1 s.1.init s.2.length (s.2.map (Value.int .i64)) ∧ ∀ n ∈ s.2, I64 n

theorem Bend.later {w w' : World} {N K n : Nat} {tv : Value} {vs : List Value} (h : Bend w N K tv n vs) (hl : Later w w') : Bend w' N K tv n vs :=
  ⟨ownsC_later h.row hl, h.len, h.few, fun i v hv => by
    obtain ⟨T, h1, h2⟩ := h.each i v hv
    exact ⟨T, h1.later hl, h2⟩⟩

theorem BendS.later {w w' : World} {N b : Nat} {S : Syms} (h : BendS w N b S) (hl : Later w w') : BendS w' N b S :=
  ⟨ownsC_later h.row hl, h.len, fun s hs => by
    obtain ⟨h1, h2, h3, h4⟩ := h.each s hs
    exact ⟨h1, h2, ownsC_later h3 hl, h4⟩⟩

theorem Bend.more {w : World} {N K K' n : Nat} {tv : Value} {vs : List Value} (h : Bend w N K tv n vs) (hK : K ≤ K') : Bend w N K' tv n vs :=
  ⟨h.row, h.len, h.few, fun i v hv => by
    obtain ⟨T, h1, h2, h3, h4⟩ := h.each i v hv
    exact ⟨T, h1, h2, h3, fun x hx => ⟨(h4 x hx).1, Nat.le_trans (h4 x hx).2 hK⟩⟩⟩

theorem own_eq {w : World} {N : Nat} {v : Value} {T : Thr} (h : OwnThr w N v T) {g : Nat} (hg : v.ownBlock = some g) : ∃ cap, v = .slice (some ⟨g, 0, none⟩) T.length cap := by
  obtain ⟨h1, ⟨rfl, -⟩ | ⟨g', cap, cur, rfl, h4, h5, h6⟩⟩ := h.row
  · cases hg
  · cases hg
    exact ⟨cap, rfl⟩

theorem offThr {g : Nat} {w w' : World} (h : OffB g w w') {cur : Array Value} (hg : w.heap[g]? = some (.cells cur 39)) {N : Nat} {u : Value} {U : Thr} (ho : OwnThr w N u U) (hne : u.ownBlock ≠ some g) : OwnThr w' N u U :=
  ⟨h.owns ho.row hne, fun x hx => ⟨(ho.each x hx).1, h.owns (ho.each x hx).2.1 (owns_neB (ho.each x hx).2.1 hg (by decide)), (ho.each x hx).2.2⟩⟩

/-- One cell of an instruction is written, and what its labels are said to be. -/
theorem OwnThr.cellB {w : World} {N g n cap : Nat} {T : Thr} (h : OwnThr w N (.slice (some ⟨g, 0, none⟩) n cap) T) {k : Nat} {x : Ins} {L M : List ByteArray} (hk : T[k]? = some (x, L)) (j : Nat) (hj : j < 13) (y : Ins) (u : Value) (he : insC (y, M) = (insC (x, L)).set j u) (hy : y.Ok) (hM : OwnTexts w N y.labels M) (hs : ∀ t ∈ M, t.size ≤ 1000) :
    OwnThr (w.setCell ⟨g, k * 13 + j, none⟩ u) N (.slice (some ⟨g, 0, none⟩) n cap) (T.set k (y, M)) := by
  obtain ⟨rfl, -, cur, hg⟩ := h.at
  refine ⟨?_, fun z hz => ?_⟩
  · rw [List.length_set, flatC_set insC 13 insC_len T k j (x, L) (y, M) u hk hj he]
    exact owns_set_own h.row u
  · rcases mem_set hz with hz | rfl
    · exact ⟨(h.each z hz).1, owns_set_other (h.each z hz).2.1 hg (fun cs fz e0 => by cases e0) _ _, (h.each z hz).2.2⟩
    · exact ⟨hy, owns_set_other hM hg (fun cs fz e0 => by cases e0) _ _, hs⟩

/-- A cell behind the row is written. -/
theorem OwnThr.cellFar {w : World} {N g n cap : Nat} {T : Thr} (h : OwnThr w N (.slice (some ⟨g, 0, none⟩) n cap) T) (j : Nat) (hj : T.length * 13 ≤ j) (u : Value) : OwnThr (w.setCell ⟨g, j, none⟩ u) N (.slice (some ⟨g, 0, none⟩) n cap) T := by
  obtain ⟨rfl, -, cur, hg⟩ := h.at
  refine ⟨?_, fun z hz => ⟨(h.each z hz).1, owns_set_other (h.each z hz).2.1 hg (fun cs fz e0 => by cases e0) _ _, (h.each z hz).2.2⟩⟩
  have := owns_set_own h.row (j := j) u
  rwa [List.set_eq_of_length_le (by rw [flatC_length insC 13 insC_len]; exact hj)] at this

/-- One field of one instruction of a thread is another one: its labels stay as they are, or are a row of few texts. -/
theorem Bend.cell {w : World} {N K K' n : Nat} {tv : Value} {vs : List Value} (h : Bend w N K tv n vs) (hK : K ≤ K') {k g m cap : Nat} (hv : vs[k]? = some (.slice (some ⟨g, 0, none⟩) m cap)) (i j : Nat) (hj : j < 13) (u : Value) (f : Ins → Ins) (M : List ByteArray → List ByteArray)
    (hf : ∀ x L, insC (f x, M L) = (insC (x, L)).set j u) (hok : ∀ x, x.Ok → (f x).Ok) (hdest : ∀ x, x.dest.size ≤ 1000 → (f x).dest.size ≤ 1000)
    (hM : ∀ x L, OwnTexts w N x.labels L → (∀ t ∈ L, t.size ≤ 1000) → L.length ≤ K → OwnTexts w N (f x).labels (M L) ∧ (∀ t ∈ M L, t.size ≤ 1000) ∧ (M L).length ≤ K') :
    Bend (w.setCell ⟨g, i * 13 + j, none⟩ u) N K' tv n vs := by
  have hg : ∃ cur, w.heap[g]? = some (.cells cur 39) := by
    obtain ⟨T, hT, -⟩ := h.each k _ hv
    exact hT.at.2.2
  obtain ⟨cur, hg⟩ := hg
  have hoff := off_set w g (i * 13 + j) u
  refine ⟨hoff.owns h.row (owns_neB h.row hg (by decide)), h.len, h.few, fun q v hq => ?_⟩
  obtain ⟨T, h1, h2, h3, h4⟩ := h.each q v hq
  by_cases hb : v.ownBlock = some g
  · obtain ⟨cap', rfl⟩ := own_eq h1 hb
    by_cases hi : i < T.length
    · obtain ⟨⟨x, L⟩, hx⟩ : ∃ x, T[i]? = some x := ⟨_, List.getElem?_eq_getElem hi⟩
      have hm := List.mem_of_getElem? hx
      have e1 := h1.each _ hm
      have e2 := h4 _ hm
      obtain ⟨m1, m2, m3⟩ := hM x L e1.2.1 e1.2.2 e2.2
      refine ⟨T.set i (f x, M L), h1.cellB hx j hj (f x) u (hf x L) (hok x e1.1) m1 m2, by rw [List.length_set]; exact h2, by rw [List.length_set]; exact h3, fun z hz => ?_⟩
      rcases mem_set hz with hz | rfl
      · exact ⟨(h4 z hz).1, Nat.le_trans (h4 z hz).2 hK⟩
      · exact ⟨hdest x e2.1, m3⟩
    · exact ⟨T, h1.cellFar _ (by omega) u, h2, h3, fun x hx => ⟨(h4 x hx).1, Nat.le_trans (h4 x hx).2 hK⟩⟩
  · exact ⟨T, offThr hoff hg h1 hb, h2, h3, fun x hx => ⟨(h4 x hx).1, Nat.le_trans (h4 x hx).2 hK⟩⟩

/-- A field that is not the labels. -/
theorem Bend.field {w : World} {N K n : Nat} {tv : Value} {vs : List Value} (h : Bend w N K tv n vs) {k g m cap : Nat} (hv : vs[k]? = some (.slice (some ⟨g, 0, none⟩) m cap)) (i j : Nat) (hj : j < 13) (u : Value) (f : Ins → Ins)
    (hf : ∀ x L, insC (f x, L) = (insC (x, L)).set j u) (hok : ∀ x, x.Ok → (f x).Ok) (hdest : ∀ x, x.dest.size ≤ 1000 → (f x).dest.size ≤ 1000) (hl : ∀ x, (f x).labels = x.labels) :
    Bend (w.setCell ⟨g, i * 13 + j, none⟩ u) N K tv n vs :=
  h.cell (Nat.le_refl K) hv i j hj u f id hf hok hdest fun x L h1 h2 h3 => ⟨by rw [hl]; exact h1, h2, h3⟩

theorem Bend.labels {w : World} {N K n : Nat} {tv : Value} {vs : List Value} (h : Bend w N K tv n vs) {k g m cap : Nat} (hv : vs[k]? = some (.slice (some ⟨g, 0, none⟩) m cap)) (i : Nat) (u : Value) (M : List ByteArray) (hM : OwnTexts w N u M) (hs : ∀ t ∈ M, t.size ≤ 1000) (hK : M.length ≤ K + 1) :
    Bend (w.setCell ⟨g, i * 13 + 12, none⟩ u) N (K + 1) tv n vs :=
  h.cell (Nat.le_succ K) hv i 12 (by omega) u (fun x => withLabels x u) (fun _ => M) (fun x L => insC_labels x u L M) (fun x hx => ⟨hx.op, hx.cond, hx.a, hx.b, hx.dest⟩) (fun x hx => hx) fun x L _ _ _ => ⟨hM, hs, hK⟩

/-- The symbols stay while instructions are written. -/
theorem BendS.off {w w' : World} {N b g : Nat} {S : Syms} (h : BendS w N b S) (ho : OffB g w w') {cur : Array Value} {t : TypeId} (hg : w.heap[g]? = some (.cells cur t)) (h1 : 42 ≠ t) (h2 : 2 ≠ t) : BendS w' N b S :=
  ⟨ho.owns h.row (owns_neB h.row hg h1), h.len, fun s hs => by
    obtain ⟨e1, e2, e3, e4⟩ := h.each s hs
    exact ⟨e1, e2, ho.owns e3 (owns_neB e3 hg h2), e4⟩⟩

/-- The threads stay while symbols are written. -/
theorem Bend.off {w w' : World} {N K n g : Nat} {tv : Value} {vs : List Value} (h : Bend w N K tv n vs) (ho : OffB g w w') {cur : Array Value} (hg : w.heap[g]? = some (.cells cur 42)) : Bend w' N K tv n vs :=
  ⟨ho.owns h.row (owns_neB h.row hg (by decide)), h.len, h.few, fun i v hv => by
    obtain ⟨T, h1, h2⟩ := h.each i v hv
    exact ⟨T, ⟨ho.owns h1.row (owns_neB h1.row hg (by decide)), fun x hx => ⟨(h1.each x hx).1, ho.owns (h1.each x hx).2.1 (owns_neB (h1.each x hx).2.1 hg (by decide)), (h1.each x hx).2.2⟩⟩, h2⟩⟩

theorem BendS.block {w : World} {N b : Nat} {S : Syms} (h : BendS w N b S) : N ≤ b ∧ ∃ cur, w.heap[b]? = some (.cells cur 42) := by
  obtain ⟨h1, ⟨h2, -⟩ | ⟨g', cap, cur, h3, h4, h5, h6⟩⟩ := h.row
  · cases h2
  · cases h3
    exact ⟨h4, cur, h5⟩

/-- One field of a symbol. -/
theorem BendS.field {w : World} {N b : Nat} {S : Syms} (h : BendS w N b S) {y : Nat} {x : Sym} {I : List Int} (hy : S[y]? = some (x, I)) (j : Nat) (hj : j < 3) (u : Value) (x' : Sym) (I' : List Int) (he : symCells (x', I') = (symCells (x, I)).set j u)
    (h1 : x'.name.size ≤ 1000) (h2 : I64 x'.size) (h3 : w.ownsRow N 2 1 x'.init I'.length (I'.map (Value.int .i64))) (h4 : ∀ n ∈ I', I64 n) : BendS (w.setCell ⟨b, y * 3 + j, none⟩ u) N b (S.set y (x', I')) := by
  obtain ⟨-, cur, hg⟩ := h.block
  have hoff := off_set w b (y * 3 + j) u
  refine ⟨?_, by rw [List.length_set]; exact h.len, fun s hs => ?_⟩
  · rw [flatC_set symCells 3 symCells_len S y j (x, I) (x', I') u hy hj he]
    exact owns_set_own h.row u
  · rcases mem_set hs with hs | rfl
    · obtain ⟨e1, e2, e3, e4⟩ := h.each s hs
      exact ⟨e1, e2, hoff.owns e3 (owns_neB e3 hg (by decide)), e4⟩
    · exact ⟨h1, h2, hoff.owns h3 (owns_neB h3 hg (by decide)), h4⟩

theorem BendS.get {w : World} {N b : Nat} {S : Syms} (h : BendS w N b S) {y : Nat} (hy : y < 3) : ∃ x I, S[y]? = some (x, I) ∧ x.name.size ≤ 1000 ∧ I64 x.size ∧ w.ownsRow N 2 1 x.init I.length (I.map (Value.int .i64)) ∧ ∀ n ∈ I, I64 n := by
  have hy' : y < S.length := by rw [h.len]; exact hy
  refine ⟨(S[y]).1, (S[y]).2, List.getElem?_eq_getElem hy', ?_⟩
  exact h.each _ (List.getElem_mem hy')

theorem BendS.cells {w : World} {N b : Nat} {S : Syms} (h : BendS w N b S) {y : Nat} {x : Sym} {I : List Int} (hy : S[y]? = some (x, I)) : w.cell? ⟨b, y * 3, none⟩ = some (.string x.name) ∧ w.cell? ⟨b, y * 3 + 1, none⟩ = some (.int .i64 x.size) ∧ w.cell? ⟨b, y * 3 + 2, none⟩ = some x.init := by
  obtain ⟨a, cap, hv, hrow⟩ := crow_of_owns (by rw [flatC_length symCells 3 symCells_len, h.len]) h.row
  cases hv
  exact ⟨CRow.cell symCells_len hrow hy (k := 0) (u := .string x.name) (by omega) rfl, CRow.cell symCells_len hrow hy (k := 1) (u := .int .i64 x.size) (by omega) rfl, CRow.cell symCells_len hrow hy (k := 2) (u := x.init) (by omega) rfl⟩

theorem ints_of_owns {w : World} {N : Nat} {v : Value} {I : List Int} (h : w.ownsRow N 2 1 v I.length (I.map (Value.int .i64))) (hI : ∀ n ∈ I, I64 n) : IntsIn w v I :=
  RowIn.of_owns (k := 1) (f := fun n : Int => [Value.int .i64 n]) (fun _ => rfl) (by omega) rfl (by
    have : ∀ J : List Int, flatC (fun n : Int => [Value.int .i64 n]) J = J.map (Value.int .i64) := fun J => by
      unfold flatC
      induction J with
      | nil => rfl
      | cons a r ih => rw [List.flatMap_cons, ih]; rfl
    rw [this]; exact h) (fun n hn => ⟨rfl, hI n hn⟩)

/-- What the symbols' readers find. -/
theorem BendS.symRow {w : World} {N b : Nat} {S : Syms} (h : BendS w N b S) {m : Nat} (hm : m ≤ 3) : SymRow w (.slice (some ⟨b, 0, none⟩) m 3) (S.take m) ∧ FineS (S.take m) := by
  have hr : SymRow w (.slice (some ⟨b, 0, none⟩) 3 3) S := RowIn.of_owns (f := symCells) symCells_len (by omega) h.len h.row (fun s hs => by
    obtain ⟨e1, e2, e3, e4⟩ := h.each s hs
    exact ⟨rfl, by unfold maxLen; omega, e2, ints_of_owns e3 e4⟩)
  refine ⟨RowIn.take hr m (by rw [h.len]; exact hm), fun s hs => (h.each s (List.mem_of_mem_take hs)).1⟩

theorem labelsN_few {K : Nat} : ∀ {T : Thr}, (∀ x ∈ T, x.2.length ≤ K) → (labelsOf T).length ≤ T.length * K
  | [], _ => by simp [labelsOf]
  | x :: r, h => by
    have h1 := h x (List.mem_cons_self ..)
    have h2 := labelsN_few (T := r) (fun y hy => h y (List.mem_cons_of_mem _ hy))
    unfold labelsOf at *
    rw [List.flatMap_cons, List.length_append, List.length_cons, Nat.add_mul]
    omega

/-- What the threads' readers find. -/
theorem Bend.thrRow {w : World} {N K n : Nat} {tv : Value} {vs : List Value} (h : Bend w N K tv n vs) (hK : K ≤ 1000) : ∃ P : List Thr, ThrRow w tv P ∧ P.length = n ∧ ∀ T ∈ P, FineT T := by
  have ex : ∀ (l : List Value), (∀ v ∈ l, ∃ T, OwnThr w N v T ∧ FineT T) → ∃ P : List Thr, P.length = l.length ∧ (∀ T ∈ P, FineT T) ∧ ∀ (i : Nat) v T, l[i]? = some v → P[i]? = some T → OwnThr w N v T := by
    intro l
    induction l with
    | nil => intro _; exact ⟨[], rfl, by simp, by simp⟩
    | cons a r ih =>
      intro hl
      obtain ⟨T, hT, hF⟩ := hl a (List.mem_cons_self ..)
      obtain ⟨P, p1, p2, p3⟩ := ih (fun v hv => hl v (List.mem_cons_of_mem _ hv))
      refine ⟨T :: P, by simp [p1], fun U hU => ?_, fun i v U h1 h2 => ?_⟩
      · rcases List.mem_cons.1 hU with rfl | hU
        · exact hF
        · exact p2 U hU
      · cases i with
        | zero =>
          simp only [List.getElem?_cons_zero, Option.some.injEq] at h1 h2
          subst h1; subst h2
          exact hT
        | succ i => exact p3 i v U (by simpa using h1) (by simpa using h2)
  obtain ⟨P, p1, p2, p3⟩ := ex vs (fun v hv => by
    obtain ⟨i, hi⟩ := List.getElem?_of_mem hv
    obtain ⟨T, h1, h2, h3, h4⟩ := h.each i v hi
    refine ⟨T, h1, ⟨fun x hx => (h4 x hx).1, fun x hx => (h1.each x hx).2.2, ?_⟩⟩
    have := labelsN_few (T := T) (fun x hx => (h4 x hx).2)
    have : T.length * K ≤ 7 * 1000 := Nat.mul_le_mul h3 hK
    omega)
  obtain ⟨a, cap, rfl, hrow⟩ := crow_of_owns (by rw [flatC_length oneV 1 oneV_len, h.len]) h.row
  obtain ⟨h1, h2⟩ := owns_cap h.row
  have hpn : P.length = n := by rw [p1, h.len]
  refine ⟨P, ⟨a, cap, by rw [hpn], by rw [hpn]; exact h1, h2, fun hne => ?_⟩, hpn, p2⟩
  have hpos : 0 < P.length := by
    rcases Nat.eq_zero_or_pos P.length with h' | h'
    · exact absurd (List.length_eq_zero_iff.1 h') hne
    · exact h'
  have hv0 : 0 < vs.length := by omega
  obtain ⟨g, rfl⟩ := CRow.some oneV_len (by omega) hrow (i := 0) (x := vs[0]) (List.getElem?_eq_getElem hv0)
  refine ⟨g, 0, rfl, fun i T hT => ?_⟩
  have hi : i < P.length := (List.getElem?_eq_some_iff.1 hT).1
  have hiv : i < vs.length := by omega
  refine ⟨[vs[i]], ⟨vs[i], rfl, (p3 i vs[i] T (List.getElem?_eq_getElem hiv) hT).insRow⟩, fun j c hj => ?_⟩
  have hj1 : j < 1 := (List.getElem?_eq_some_iff.1 hj).1
  have := CRow.cell oneV_len hrow (List.getElem?_eq_getElem hiv) hj1 hj
  rwa [Nat.zero_add]

/-! ### A text laid behind labels -/

theorem take_set_drop {l : List Value} {n : Nat} (h : n < l.length) (u : Value) : l.take n ++ [u] ++ l.drop (n + 1) = l.set n u := by
  rw [List.set_eq_take_append_cons_drop, if_pos h]
  simp

/-- A row of texts, where a block of texts has one text another one. -/
theorem texts_set {w w' : World} {N g m : Nat} {cur : Array Value} (hg : w.heap[g]? = some (.cells cur 9)) (hoff : OffB g w w') (s : ByteArray) (hs : s.size ≤ 1000) (hg' : w'.heap[g]? = some (.cells (cur.toList.set m (.string s)).toArray 9))
    {v : Value} {L : List ByteArray} (h : OwnTexts w N v L) (hL : ∀ t ∈ L, t.size ≤ 1000) : ∃ L', OwnTexts w' N v L' ∧ (∀ t ∈ L', t.size ≤ 1000) ∧ L'.length = L.length := by
  by_cases hb : v.ownBlock = some g
  · obtain ⟨h1, ⟨rfl, -⟩ | ⟨g', cap, cur', rfl, h4, h5, h6, h7, h8, h9⟩⟩ := h
    · cases hb
    · cases hb
      rw [hg] at h5
      cases h5
      refine ⟨L.set m s, ⟨by simp, Or.inr ⟨g', cap, (cur.toList.set m (.string s)).toArray, by rw [List.length_set], h4, hg', by rw [List.length_set]; exact h6, h7, by simpa using h8, ?_⟩⟩, fun t ht => ?_, by rw [List.length_set]⟩
      · rw [Nat.mul_one] at h9
        rw [List.length_set, Nat.mul_one, List.toList_toArray, List.take_set, h9, List.map_set]
      · rcases mem_set ht with ht | rfl
        · exact hL t ht
        · exact hs
  · exact ⟨L, hoff.owns h hb, hL, rfl⟩

theorem OwnThr.texts {w w' : World} {N g m K : Nat} {cur : Array Value} (hg : w.heap[g]? = some (.cells cur 9)) (hoff : OffB g w w') (s : ByteArray) (hs : s.size ≤ 1000) (hg' : w'.heap[g]? = some (.cells (cur.toList.set m (.string s)).toArray 9))
    {v : Value} {T : Thr} (h : OwnThr w N v T) (hK : ∀ x ∈ T, x.1.dest.size ≤ 1000 ∧ x.2.length ≤ K) : ∃ T', OwnThr w' N v T' ∧ T'.length = T.length ∧ ∀ x ∈ T', x.1.dest.size ≤ 1000 ∧ x.2.length ≤ K := by
  have ex : ∀ U : Thr, (∀ x ∈ U, x ∈ T) → ∃ U' : Thr, flatC insC U' = flatC insC U ∧ U'.length = U.length ∧ ∀ x ∈ U', (x.1.Ok ∧ OwnTexts w' N x.1.labels x.2 ∧ ∀ t ∈ x.2, t.size ≤ 1000) ∧ x.1.dest.size ≤ 1000 ∧ x.2.length ≤ K := by
    intro U
    induction U with
    | nil => intro _; exact ⟨[], rfl, rfl, by simp⟩
    | cons a r ih =>
      intro hU
      obtain ⟨U', u1, u2, u3⟩ := ih (fun x hx => hU x (List.mem_cons_of_mem _ hx))
      have ha := hU a (List.mem_cons_self ..)
      obtain ⟨e1, e2, e3⟩ := h.each a ha
      obtain ⟨L', l1, l2, l3⟩ := texts_set hg hoff s hs hg' e2 e3
      refine ⟨(a.1, L') :: U', ?_, by simp [u2], fun x hx => ?_⟩
      · unfold flatC at *
        rw [List.flatMap_cons, List.flatMap_cons, u1]
        rfl
      · rcases List.mem_cons.1 hx with rfl | hx
        · exact ⟨⟨e1, l1, l2⟩, (hK a ha).1, by rw [l3]; exact (hK a ha).2⟩
        · exact u3 x hx
  obtain ⟨U', u1, u2, u3⟩ := ex T (fun x hx => hx)
  refine ⟨U', ⟨?_, fun x hx => (u3 x hx).1⟩, u2, fun x hx => (u3 x hx).2⟩
  rw [u1, u2]
  exact hoff.owns h.row (owns_neB h.row hg (by decide))

theorem Bend.texts {w w' : World} {N g m K n : Nat} {tv : Value} {vs : List Value} {cur : Array Value} (h : Bend w N K tv n vs) (hg : w.heap[g]? = some (.cells cur 9)) (hoff : OffB g w w') (s : ByteArray) (hs : s.size ≤ 1000) (hg' : w'.heap[g]? = some (.cells (cur.toList.set m (.string s)).toArray 9)) : Bend w' N K tv n vs :=
  ⟨hoff.owns h.row (owns_neB h.row hg (by decide)), h.len, h.few, fun i v hv => by
    obtain ⟨T, h1, h2, h3, h4⟩ := h.each i v hv
    obtain ⟨T', t1, t2, t3⟩ := h1.texts hg hoff s hs hg' h4
    exact ⟨T', t1, by omega, by omega, t3⟩⟩

theorem infoTextB : (Tryd.prog.info? 9).map (fun i => (i.zero, i.size, i.bytes)) = some (some (.string ⟨#[]⟩), 1, 16) := by kernel_rfl

/-- A text is laid behind a row of labels: in its block, or in a new one. -/
theorem run_append_text {w : World} {N K n : Nat} {tv : Value} {vs : List Value} {b : Nat} {S : Syms} (hB : Bend w N K tv n vs) (hS : BendS w N b S) {v : Value} {L : List ByteArray} (hv : OwnTexts w N v L) (hL : ∀ t ∈ L, t.size ≤ 1000) (hfew : L.length ≤ 1000) (a : Addr) (c : Nat) (s : ByteArray) (hs : s.size ≤ 1000) (ha : w.cell? a = some (.string s)) (hN : N ≤ w.heap.size) (ty : TypeId) :
    ∃ v' w', (Builtin.append_ #[37, 37] ty #[v, .slice (some a) 1 c]).run Tryd.prog w = .ok v' w' ∧ OwnTexts w' N v' (L ++ [s]) ∧ Bend w' N K tv n vs ∧ BendS w' N b S ∧ (∀ w0, Later w0 w → w0.heap.size ≤ N → Later w0 w') ∧ (∀ (B : Nat) cs t fz, t ≠ 9 → w.heap[B]? = some (Obj.cells cs t fz) → w'.heap[B]? = some (Obj.cells cs t fz)) ∧ w.heap.size ≤ w'.heap.size := by
  have hinfo := infoTextB
  obtain ⟨i, hi, hi'⟩ := Option.map_eq_some_iff.1 hinfo
  simp only [Prod.mk.injEq] at hi'
  obtain ⟨hz, hsz, hby⟩ := hi'
  have hnews : ∀ j u, ([Value.string s])[j]? = some u → w.cell? (a.add j) = some u := fun j u hj => by
    have hj0 : j = 0 := by
      have := (List.getElem?_eq_some_iff.1 hj).1
      simp at this
      exact this
    subst hj0
    simp only [List.getElem?_cons_zero, Option.some.injEq] at hj
    subst hj
    rw [show a.add 0 = a by simp [Addr.add]]
    exact ha
  have h1 : ∀ u ∈ [Value.string s], u.oneCell' = true := fun u hu => by
    simp only [List.mem_singleton] at hu
    subst hu
    rfl
  obtain ⟨v', w', hr, ho, hgr, -⟩ := run_append_own (P := Tryd.prog) w N 37 ty 9 i (.string ⟨#[]⟩) 1 16 Tryd.underlying37 hi hz hsz hby rfl (by omega) v L.length (L.map Value.string) hv a 1 c [Value.string s] rfl hnews h1 (by unfold maxLen; omega) (by omega) hN
  refine ⟨v', w', hr, by simpa [OwnTexts] using ho, ?_⟩
  have hsize : w.heap.size ≤ w'.heap.size := hgr.size
  have hl0 : ∀ w0, Later w0 w → w0.heap.size ≤ N → Later w0 w' := fun w0 h0 h0' => by
    refine Below.trans h0 ⟨hgr.os, hgr.tape, hgr.output, hgr.size, fun k hk => ?_⟩
    refine hgr.block k ?_ ?_
    · have := h0.size
      omega
    · intro e
      have := (World.ownsRow.lt hv k e.symm).1
      omega
  have hother : ∀ (B : Nat) cs t fz, t ≠ 9 → w.heap[B]? = some (Obj.cells cs t fz) → w'.heap[B]? = some (Obj.cells cs t fz) := fun B cs t fz ht hB => by
    rw [hgr.block B (lt_block hB) ?_]
    · exact hB
    · intro e
      obtain ⟨-, ⟨rfl, -⟩ | ⟨g', cap, cur, rfl, h4, h5, h6⟩⟩ := hv
      · cases e
      · cases e
        rw [hB] at h5
        cases h5
        exact ht rfl
  obtain ⟨q1, ⟨rfl, q2⟩ | ⟨g, cap, cur, rfl, q4, q5, q6, q7, q8, q9⟩⟩ := hv
  · have hl : Later w w' := ⟨hgr.os, hgr.tape, hgr.output, hgr.size, fun k hk => hgr.block k hk (by simp [Value.ownBlock])⟩
    exact ⟨hB.later hl, hS.later hl, hl0, hother, hsize⟩
  · by_cases hroom : L.length + 1 ≤ cap
    · have hr2 := run_append_room (P := Tryd.prog) w 37 ty 9 i Tryd.underlying37 hi g L.length cap cur q5 a 1 c [Value.string s] (by rw [hsz]; rfl) hnews h1 hroom (by rw [hsz]; simp; omega)
      rw [hr] at hr2
      simp only [Result.ok.injEq] at hr2
      obtain ⟨-, rfl⟩ := hr2
      have hcl : L.length < cur.toList.length := by
        have e1 : cur.toList.length = cur.size := Array.length_toList
        omega
      rw [hsz, Nat.mul_one, show ([Value.string s]).length = 1 from rfl, take_set_drop hcl] at hl0 hother hsize ⊢
      have hoff : OffB g w (w.setRow g (cur.toList.set L.length (.string s)).toArray) := fun B hB => setRow_other w g B _ hB
      have hg' := setRow_heap w g cur (cur.toList.set L.length (.string s)).toArray 9 _ q5
      exact ⟨hB.texts q5 hoff s hs hg', hS.off hoff q5 (by decide) (by decide), hl0, hother, hsize⟩
    · have holds : ∀ j u, (L.map Value.string)[j]? = some u → w.cell? ((⟨g, 0, none⟩ : Addr).add j) = some u := World.ownsRow.cells (w := w) (base := N) (e := 9) (size := 1) (v := .slice (some ⟨g, 0, none⟩) L.length cap) (n := L.length) ⟨q1, Or.inr ⟨g, cap, cur, rfl, q4, q5, q6, q7, q8, q9⟩⟩ (g := g) rfl
      have hr2 := run_append_grow (P := Tryd.prog) w 37 ty 9 i (.string ⟨#[]⟩) Tryd.underlying37 hi hz ⟨g, 0, none⟩ L.length cap (L.map Value.string) (by rw [hsz]; simp) holds a 1 c [Value.string s] (by rw [hsz]; rfl) hnews (by omega) (by omega) (growslice_fits (by omega) (by rw [hby]; omega))
      rw [hr] at hr2
      simp only [Result.ok.injEq] at hr2
      obtain ⟨-, rfl⟩ := hr2
      have hl := Later.alloc (Later.drew (Later.refl w)) (.cells ((L.map Value.string).toArray ++ [Value.string s].toArray ++ Builtin.zeroCells (Value.string ⟨#[]⟩).cells (grownCap w (L.length + 1) cap 9 - (L.length + 1))) 9)
      exact ⟨hB.later hl, hS.later hl, hl0, hother, hsize⟩

end Go.Proofs.YtegogmbcjjjjjaaDoor
