/-
  What is known of a copy: it is the same program; and what stays of it while it is written over: it is some program still, with threads, instructions and labels as many, and symbols as many. Conditions: as each theorem names them.
-/
import Derived.Test.YtegogmbcjjjjjaaDoorCopyCall
import Derived.Test.YtegogmbcjjjjjaaDoorBend
import Derived.Test.YtegogmbcjjjjjaaDoorMadeRow
namespace Go.Proofs.YtegogmbcjjjjjaaDoor
open Go.RowKit Go.WideShapes
set_option linter.unusedVariables false
set_option linter.unusedSimpArgs false

theorem opdEq_self (a : Opd) : opdEq a a = true := by
  obtain ⟨k, r, s, n⟩ := a
  simp [opdEq]

theorem insEq_copy (x : Ins) (L : List ByteArray) (lv : Value) : insEq (withLabels x lv, L) (x, L) = true ∧ insEq (x, L) (withLabels x lv, L) = true := by
  simp [insEq, sameF, withLabels, opdEq_self]

theorem thrEq_copy {T T' : Thr} (h : CopyT T T') : thrEq T' T = true ∧ thrEq T T' = true := by
  obtain ⟨h1, h2⟩ := h
  constructor
  · refine listEq_all h1 (fun k a b ha hb => ?_)
    obtain ⟨lv, e⟩ := h2 k b.1 b.2 hb
    rw [ha] at e
    cases e
    exact (insEq_copy _ _ _).1
  · refine listEq_all h1.symm (fun k a b ha hb => ?_)
    obtain ⟨lv, e⟩ := h2 k a.1 a.2 ha
    rw [hb] at e
    cases e
    exact (insEq_copy _ _ _).2

/-- The threads of a copy, for their readers. -/
theorem HalfP.rows {W w : World} {N : Nat} {v : Value} {P : List Thr} {vs : List Value} (h : HalfP W w N v P vs P.length) : ∃ P' : List Thr, ThrRow w v P' ∧ P'.length = P.length ∧ ∀ (j : Nat) T T', P[j]? = some T → P'[j]? = some T' → CopyT T T' := by
  have ex : ∀ (n : Nat), n ≤ P.length → ∃ P' : List Thr, P'.length = n ∧ ∀ (j : Nat) T T' u, P[j]? = some T → P'[j]? = some T' → vs[j]? = some u → OwnThr w N u T' ∧ CopyT T T' := by
    intro n
    induction n with
    | zero => intro _; exact ⟨[], rfl, by simp⟩
    | succ n ih =>
      intro hn
      obtain ⟨Q, q1, q2⟩ := ih (by omega)
      have hT : P[n]? = some (P[n]'(by omega)) := List.getElem?_eq_getElem (by omega)
      obtain ⟨u, hu, h2, -⟩ := h.each n _ hT
      obtain ⟨T', o1, o2⟩ := h2 (by omega)
      refine ⟨Q ++ [T'], by simp [q1], fun j T U z hj hU hz => ?_⟩
      rcases Nat.lt_or_ge j n with hjn | hjn
      · rw [List.getElem?_append_left (by omega)] at hU
        exact q2 j T U z hj hU hz
      · have hil := (List.getElem?_eq_some_iff.1 hU).1
        simp at hil
        obtain rfl : j = n := by omega
        rw [List.getElem?_append_right (by omega), q1, Nat.sub_self] at hU
        cases hU
        rw [hT] at hj
        cases hj
        rw [hu] at hz
        cases hz
        exact ⟨o1, o2⟩
  obtain ⟨P', p1, p2⟩ := ex P.length (Nat.le_refl _)
  have hvl := h.len
  obtain ⟨a, cap, rfl, hrow⟩ := crow_of_owns (by rw [flatC_length oneV 1 oneV_len, h.len]) h.row
  obtain ⟨h1, h2⟩ := owns_cap h.row
  have key : ∀ (j : Nat) T', P'[j]? = some T' → ∃ T u, P[j]? = some T ∧ vs[j]? = some u ∧ OwnThr w N u T' ∧ CopyT T T' := fun j T' hj => by
    have hjl := (List.getElem?_eq_some_iff.1 hj).1
    have hT : P[j]? = some (P[j]'(by omega)) := List.getElem?_eq_getElem (by omega)
    have hu : vs[j]? = some (vs[j]'(by omega)) := List.getElem?_eq_getElem (by omega)
    obtain ⟨o1, o2⟩ := p2 j _ T' _ hT hj hu
    exact ⟨_, _, hT, hu, o1, o2⟩
  refine ⟨P', ⟨a, cap, by rw [p1], by rw [p1]; exact h1, h2, fun hne => ?_⟩, p1, fun j T T' hj hj' => ?_⟩
  · have hpos : 0 < P'.length := List.length_pos_iff.2 hne
    have hv0 : 0 < vs.length := by omega
    obtain ⟨g, rfl⟩ := CRow.some oneV_len (by omega) hrow (i := 0) (x := vs[0]) (List.getElem?_eq_getElem hv0)
    refine ⟨g, 0, rfl, fun i T' hT => ?_⟩
    obtain ⟨T, u, k1, k2, k3, k4⟩ := key i T' hT
    refine ⟨[u], ⟨u, rfl, k3.insRow⟩, fun j c hj => ?_⟩
    have hj1 : j < 1 := (List.getElem?_eq_some_iff.1 hj).1
    have := CRow.cell oneV_len hrow k2 hj1 hj
    rwa [Nat.zero_add]
  · obtain ⟨U, u, k1, k2, k3, k4⟩ := key j T' hj'
    rw [hj] at k1
    cases k1
    exact k4

/-- What is asked of symbols that are copied. -/
def GoodS (S : Syms) : Prop := ∀ s ∈ S, s.1.name.size ≤ 1000 ∧ I64 s.1.size ∧ ∀ n ∈ s.2, I64 n

theorem HalfS.get {w : World} {N : Nat} {v : Value} {S S' : Syms} (h : HalfS w N v S S' S.length) {j : Nat} {s : Sym × List Int} (hj : S'[j]? = some s) : ∃ x, S[j]? = some (x, s.2) ∧ s.1.name = x.name ∧ s.1.size = x.size ∧ OwnNums w N s.1.init s.2 := by
  have hjl := (List.getElem?_eq_some_iff.1 hj).1
  rw [h.len] at hjl
  obtain ⟨iv, e1, e2, -⟩ := h.each j (S[j]).1 (S[j]).2 (List.getElem?_eq_getElem hjl)
  rw [hj] at e1
  cases e1
  exact ⟨(S[j]).1, List.getElem?_eq_getElem hjl, rfl, rfl, e2 hjl⟩

theorem HalfS.rows {w : World} {N : Nat} {v : Value} {S S' : Syms} (h : HalfS w N v S S' S.length) (hg : GoodS S) : SymRow w v S' ∧ listEq symEq S' S = true ∧ listEq symEq S S' = true := by
  refine ⟨RowIn.of_owns (f := symCells) symCells_len (by omega) h.len h.row (fun s hs => ?_), listEq_all h.len (fun k a b ha hb => ?_), listEq_all h.len.symm (fun k a b ha hb => ?_)⟩
  · obtain ⟨j, hj⟩ := List.getElem?_of_mem hs
    obtain ⟨x, k1, k2, k3, k4⟩ := h.get hj
    obtain ⟨g1, g2, g3⟩ := hg _ (List.mem_of_getElem? k1)
    exact ⟨rfl, by rw [k2]; unfold maxLen; dsimp only at g1; omega, by rw [k3]; exact g2, nums_row k4 g3⟩
  · obtain ⟨x, k1, k2, k3, -⟩ := h.get ha
    rw [hb] at k1
    cases k1
    simp [symEq, k2, k3]
  · obtain ⟨x, k1, k2, k3, -⟩ := h.get hb
    rw [ha] at k1
    cases k1
    simp [symEq, k2, k3]

/-- A copy, for its readers. -/
theorem Copied.rows {w : World} {N : Nat} {u v : Value} {S : Syms} {P : List Thr} (h : Copied w N u v S P) (hg : GoodS S) : ∃ S' P', SymRow w u S' ∧ ThrRow w v P' ∧ progEq S' P' S P = true ∧ progEq S P S' P' = true := by
  obtain ⟨⟨S', h1⟩, W, vs, h2⟩ := h
  obtain ⟨a1, a2, a3⟩ := h1.rows hg
  obtain ⟨P', b1, b2, b3⟩ := h2.rows
  refine ⟨S', P', a1, b1, ?_, ?_⟩
  · unfold progEq
    rw [a2, listEq_all b2 (fun k a b ha hb => (thrEq_copy (b3 k b a hb ha)).1)]
    rfl
  · unfold progEq
    rw [a3, listEq_all b2.symm (fun k a b ha hb => (thrEq_copy (b3 k a b ha hb)).2)]
    rfl

theorem made_few {w : World} {N mn t : Nat} {l : List (List Act5)} {vs : List Value} {P : List Thr} (hmn : mn ≤ 6) (htl : t ≤ l.length) (h : MadeThrs w N mn l t vs P) : ∀ T ∈ P, 0 < T.length ∧ T.length ≤ 7 := by
  intro T hT
  obtain ⟨i, hi⟩ := List.getElem?_of_mem hT
  have hil := (List.getElem?_eq_some_iff.1 hi).1
  have hv' := h.vlen
  have hp' := h.plen
  have hmk := h.each i (vs[i]'(by omega)) T (l[i]'(by omega)) (List.getElem?_eq_getElem (by omega)) hi (List.getElem?_eq_getElem (by omega))
  have hlen := hmk.is.len
  rw [rawL_length (Nat.min_le_left _ _)] at hlen
  have hmin : min (l[i]'(by omega)).length mn ≤ mn := Nat.min_le_right _ _
  omega

/-- A copy's threads may be written over. -/
theorem HalfP.bend {W w : World} {N : Nat} {v : Value} {P : List Thr} {vs : List Value} (h : HalfP W w N v P vs P.length) (hp : P.length ≤ 3) (hf : ∀ T ∈ P, 0 < T.length ∧ T.length ≤ 7) (hd : ∀ T ∈ P, ∀ x ∈ T, x.1.dest.size ≤ 60 ∧ x.2.length ≤ 6) : Bend w N 6 v P.length vs :=
  ⟨h.row, h.len, hp, fun i u hu => by
    have hil := (List.getElem?_eq_some_iff.1 hu).1
    rw [h.len] at hil
    have hT : P[i]? = some P[i] := List.getElem?_eq_getElem hil
    obtain ⟨z, h1, h2, -⟩ := h.each i _ hT
    rw [hu] at h1
    cases h1
    obtain ⟨T', o1, o2, o3⟩ := h2 hil
    have hm := List.mem_of_getElem? hT
    obtain ⟨f1, f2⟩ := hf _ hm
    refine ⟨T', o1, by omega, by omega, fun y hy => ?_⟩
    obtain ⟨j, hj⟩ := List.getElem?_of_mem hy
    have hjl := (List.getElem?_eq_some_iff.1 hj).1
    rw [o2] at hjl
    obtain ⟨lv, e⟩ := o3 j (P[i][j]).1 (P[i][j]).2 (List.getElem?_eq_getElem hjl)
    rw [hj] at e
    cases e
    obtain ⟨d1, d2⟩ := hd _ hm _ (List.getElem_mem hjl)
    exact ⟨by show (P[i][j]).1.dest.size ≤ 1000; omega, d2⟩⟩

/-- Symbols that may be written over, of which the first i have another size. -/
structure OverS (w : World) (N : Nat) (u : Value) (n i : Nat) (S : Syms) : Prop where
  row : w.ownsRow N 42 3 u n (flatC symCells S)
  len : S.length = n
  each : ∀ s ∈ S, s.1.name.size ≤ 1000 ∧ I64 s.1.size ∧ OwnNums w N s.1.init s.2 ∧ ∀ n ∈ s.2, I64 n
  over : ∀ (j : Nat) s, j < i → S[j]? = some s → s.1.size = 99

theorem HalfS.overS {w : World} {N : Nat} {v : Value} {S S' : Syms} (h : HalfS w N v S S' S.length) (hg : GoodS S) : OverS w N v S.length 0 S' :=
  ⟨h.row, h.len, fun s hs => by
    obtain ⟨j, hj⟩ := List.getElem?_of_mem hs
    obtain ⟨x, k1, k2, k3, k4⟩ := h.get hj
    obtain ⟨g1, g2, g3⟩ := hg _ (List.mem_of_getElem? k1)
    exact ⟨by rw [k2]; exact g1, by rw [k3]; exact g2, k4, g3⟩, fun j s hj => absurd hj (Nat.not_lt_zero _)⟩

theorem OverS.later {w w' : World} {N n i : Nat} {u : Value} {S : Syms} (h : OverS w N u n i S) (hl : Later w w') : OverS w' N u n i S :=
  ⟨ownsC_later h.row hl, h.len, fun s hs => by
    obtain ⟨e1, e2, e3, e4⟩ := h.each s hs
    exact ⟨e1, e2, ownsC_later e3 hl, e4⟩, h.over⟩

/-- While another block is written. -/
theorem OverS.off {w w' : World} {N n i g : Nat} {u : Value} {S : Syms} (h : OverS w N u n i S) (ho : OffB g w w') {cur : Array Value} {t : TypeId} (hg : w.heap[g]? = some (.cells cur t)) (h1 : 42 ≠ t) (h2 : 2 ≠ t) : OverS w' N u n i S :=
  ⟨ho.owns h.row (owns_neB h.row hg h1), h.len, fun s hs => by
    obtain ⟨e1, e2, e3, e4⟩ := h.each s hs
    exact ⟨e1, e2, ho.owns e3 (owns_neB e3 hg h2), e4⟩, h.over⟩

theorem OverS.rows {w : World} {N n i : Nat} {u : Value} {S : Syms} (h : OverS w N u n i S) : SymRow w u S :=
  RowIn.of_owns (f := symCells) symCells_len (by omega) h.len h.row (fun s hs => by
    obtain ⟨e1, e2, e3, e4⟩ := h.each s hs
    exact ⟨rfl, by unfold maxLen; omega, e2, nums_row e3 e4⟩)

/-- The i-th one's size is written. -/
theorem OverS.size {w : World} {N n i g cap : Nat} {S : Syms} (h : OverS w N (.slice (some ⟨g, 0, none⟩) n cap) n i S) {x : Sym} {I : List Int} (hi : S[i]? = some (x, I)) {cur : Array Value} (hg : w.heap[g]? = some (.cells cur 42)) :
    OverS (w.setCell ⟨g, i * 3 + 1, none⟩ (.int .i64 99)) N (.slice (some ⟨g, 0, none⟩) n cap) n (i + 1) (S.set i (⟨x.name, 99, x.init⟩, I)) := by
  have hil := (List.getElem?_eq_some_iff.1 hi).1
  have hoff := off_set w g (i * 3 + 1) (.int .i64 99)
  refine ⟨?_, by rw [List.length_set]; exact h.len, fun s hs => ?_, fun j s hj hs => ?_⟩
  · rw [flatC_set symCells 3 symCells_len S i 1 (x, I) (⟨x.name, 99, x.init⟩, I) (.int .i64 99) hi (by omega) rfl]
    exact owns_set_own h.row _
  · rcases mem_set hs with hs | rfl
    · obtain ⟨e1, e2, e3, e4⟩ := h.each s hs
      exact ⟨e1, e2, hoff.owns e3 (owns_neB e3 hg (by decide)), e4⟩
    · obtain ⟨e1, e2, e3, e4⟩ := h.each _ (List.mem_of_getElem? hi)
      exact ⟨e1, by show I64 99; unfold I64; omega, hoff.owns e3 (owns_neB e3 hg (by decide)), e4⟩
  · by_cases hji : j = i
    · subst hji
      rw [List.getElem?_set_self hil] at hs
      cases hs
      rfl
    · rw [List.getElem?_set_ne (Ne.symm hji)] at hs
      exact h.over j s (by omega) hs

/-- A row of numbers, where a block of numbers has one number another one. -/
theorem nums_set {w : World} {N g m : Nat} {cur : Array Value} (hg : w.heap[g]? = some (.cells cur 2)) {v : Value} {I : List Int} (h : OwnNums w N v I) (hI : ∀ n ∈ I, I64 n) : ∃ I' : List Int, OwnNums (w.setCell ⟨g, m, none⟩ (.int .i64 99)) N v I' ∧ (∀ n ∈ I', I64 n) ∧ I'.length = I.length := by
  by_cases hb : v.ownBlock = some g
  · obtain ⟨h1, ⟨rfl, -⟩ | ⟨g', cap, cur', rfl, h4, h5, h6, h7, h8, h9⟩⟩ := h
    · cases hb
    · cases hb
      have hh : w.ownsRow N 2 1 (.slice (some ⟨g', 0, none⟩) I.length cap) I.length (I.map (Value.int .i64)) := ⟨h1, Or.inr ⟨g', cap, cur', rfl, h4, h5, h6, h7, h8, h9⟩⟩
      have := owns_set_own hh (j := m) (Value.int .i64 99)
      refine ⟨I.set m 99, ?_, fun n hn => ?_, by rw [List.length_set]⟩
      · rw [OwnNums, List.length_set, List.map_set]
        exact this
      · rcases mem_set hn with hn | rfl
        · exact hI n hn
        · unfold I64; omega
  · exact ⟨I, (off_set w g m _).owns h hb, hI, rfl⟩

/-- A number of a symbol is written. -/
theorem OverS.nums {w : World} {N n i g m : Nat} {u : Value} {S : Syms} (h : OverS w N u n i S) {cur : Array Value} (hg : w.heap[g]? = some (.cells cur 2)) : ∃ S', OverS (w.setCell ⟨g, m, none⟩ (.int .i64 99)) N u n i S' ∧ flatC symCells S' = flatC symCells S := by
  have hoff := off_set w g m (.int .i64 99)
  have ex : ∀ U : Syms, (∀ s ∈ U, s ∈ S) → ∃ U' : Syms, flatC symCells U' = flatC symCells U ∧ U'.length = U.length ∧ (∀ (j : Nat) s', U'[j]? = some s' → ∃ s, U[j]? = some s ∧ s'.1 = s.1) ∧ ∀ s ∈ U', OwnNums (w.setCell ⟨g, m, none⟩ (.int .i64 99)) N s.1.init s.2 ∧ (∀ n ∈ s.2, I64 n) ∧ s.1.name.size ≤ 1000 ∧ I64 s.1.size := by
    intro U
    induction U with
    | nil => intro _; exact ⟨[], rfl, rfl, by simp, by simp⟩
    | cons a r ih =>
      intro hU
      obtain ⟨U', u1, u2, u3, u4⟩ := ih (fun x hx => hU x (List.mem_cons_of_mem _ hx))
      obtain ⟨e1, e2, e3, e4⟩ := h.each a (hU a (List.mem_cons_self ..))
      obtain ⟨I', i1, i2, i3⟩ := nums_set (m := m) hg e3 e4
      refine ⟨(a.1, I') :: U', ?_, by simp [u2], fun j s' hj => ?_, fun s hs => ?_⟩
      · unfold flatC at *
        rw [List.flatMap_cons, List.flatMap_cons, u1]
        rfl
      · cases j with
        | zero =>
          simp at hj
          subst hj
          exact ⟨a, rfl, rfl⟩
        | succ j => exact u3 j s' (by simpa using hj)
      · rcases List.mem_cons.1 hs with rfl | hs
        · exact ⟨i1, i2, e1, e2⟩
        · exact u4 s hs
  obtain ⟨S', u1, u2, u3, u4⟩ := ex S (fun x hx => hx)
  refine ⟨S', ⟨?_, by rw [u2]; exact h.len, fun s hs => ?_, fun j s' hj hs => ?_⟩, u1⟩
  · rw [u1]
    exact hoff.owns h.row (owns_neB h.row hg (by decide))
  · obtain ⟨a1, a2, a3, a4⟩ := u4 s hs
    exact ⟨a3, a4, a1, a2⟩
  · obtain ⟨s, b1, b2⟩ := u3 j s' hs
    rw [b2]
    exact h.over j s hj b1

theorem set_toList (cur : Array Value) (m : Nat) (v : Value) : cur.setIfInBounds m v = (cur.toList.set m v).toArray := by
  apply Array.toList_inj.1
  simp

end Go.Proofs.YtegogmbcjjjjjaaDoor
