/-
  What valid.Copy returns: a program in memory of the call's own, the same but for where its lists lie. Nothing that was in memory turns. Conditions: the texts are no longer than 1000, no list is longer than a million.
-/
import Derived.Test.YtegogmbcjjjjjaaDoorCopyRow
import Derived.Test.YtegogmbcjjjjjaaDoorSameProg
import Derived.Deep.CutRange
namespace Go.Proofs.YtegogmbcjjjjjaaDoor
open Go.RowKit Go.WideShapes
set_option linter.unusedVariables false
set_option linter.unusedSimpArgs false

/-- Numbers in a row of the call's own. -/
abbrev OwnNums (w : World) (N : Nat) (v : Value) (I : List Int) : Prop := w.ownsRow N 2 1 v I.length (I.map (Value.int .i64))

theorem nums_src {w : World} {v : Value} {I : List Int} (h : IntsIn w v I) : Src w v I.length 1 (I.map (Value.int .i64)) := by
  have h1 := src_row h (fun n => [Value.int .i64 n]) (by omega) (fun _ => rfl) (fun n _ u hu => by simp at hu; subst hu; rfl) (fun i a cs _ he => he.1)
  have e : ∀ J : List Int, flatC (fun n : Int => [Value.int .i64 n]) J = J.map (Value.int .i64) := fun J => by
    unfold flatC
    induction J with
    | nil => rfl
    | cons a r ih => rw [List.flatMap_cons, ih]; rfl
  rwa [e] at h1

theorem nums_row {w : World} {N : Nat} {v : Value} {I : List Int} (h : OwnNums w N v I) (hI : ∀ n ∈ I, I64 n) : IntsIn w v I :=
  RowIn.of_owns (k := 1) (f := fun n : Int => [Value.int .i64 n]) (fun _ => rfl) (by omega) rfl (by
    have e : ∀ J : List Int, flatC (fun n : Int => [Value.int .i64 n]) J = J.map (Value.int .i64) := fun J => by
      unfold flatC
      induction J with
      | nil => rfl
      | cons a r ih => rw [List.flatMap_cons, ih]; rfl
    rw [e]; exact h) (fun n hn => ⟨rfl, hI n hn⟩)

theorem sym_src {w : World} {u : Value} {S : Syms} (h : SymRow w u S) : Src w u S.length 3 (flatC symCells S) := by
  obtain ⟨p, cap, rfl, -, -⟩ := RowIn.slice h
  refine src_row h symCells (by omega) symCells_len (fun s hs u hu => ?_) (fun i a cs _ he => he.1)
  obtain ⟨i, hi⟩ := List.getElem?_of_mem hs
  obtain ⟨g, o, -, -, -, ⟨q, c, hq, -⟩, -⟩ := SymRow.get h (x := s.1) (L := s.2) hi
  obtain ⟨⟨nm, sz, iv⟩, I⟩ := s
  dsimp only at hq
  subst hq
  simp [symCells, Sym.cells] at hu
  rcases hu with rfl | rfl | rfl <;> rfl

/-- The threads' own slices, of a row of threads in memory. -/
theorem thr_src {w : World} {v : Value} {P : List Thr} (h : ThrRow w v P) : ∃ vs : List Value, vs.length = P.length ∧ (∀ (i : Nat) u T, vs[i]? = some u → P[i]? = some T → InsRow w u T) ∧ Src w v P.length 1 (flatC oneV vs) := by
  obtain ⟨p, cap, rfl, h1, h2, h3⟩ := h
  have ex : ∀ (n : Nat), n ≤ P.length → ∃ vs : List Value, vs.length = n ∧ (∀ (i : Nat) u T, vs[i]? = some u → P[i]? = some T → InsRow w u T ∧ ∀ g o, p = some ⟨g, o, none⟩ → w.cell? ⟨g, o + i, none⟩ = some u) := by
    intro n
    induction n with
    | zero => intro _; exact ⟨[], rfl, by simp⟩
    | succ n ih =>
      intro hn
      obtain ⟨vs, v1, v2⟩ := ih (by omega)
      have hT : P[n]? = some (P[n]'(by omega)) := List.getElem?_eq_getElem (by omega)
      obtain ⟨g, o, rfl, h4⟩ := h3 (by rintro rfl; simp at hn)
      obtain ⟨cs, ⟨u, rfl, hu⟩, h6⟩ := h4 n _ hT
      refine ⟨vs ++ [u], by simp [v1], fun i z T hz hi => ?_⟩
      rcases Nat.lt_or_ge i n with hin | hin
      · rw [List.getElem?_append_left (by omega)] at hz
        exact v2 i z T hz hi
      · have hil := (List.getElem?_eq_some_iff.1 hz).1
        simp at hil
        obtain rfl : i = n := by omega
        rw [List.getElem?_append_right (by omega), v1, Nat.sub_self] at hz
        cases hz
        rw [hT] at hi
        cases hi
        refine ⟨hu, fun g' o' e => ?_⟩
        cases e
        have := h6 0 u rfl
        rwa [Nat.mul_one] at this
  obtain ⟨vs, v1, v2⟩ := ex P.length (Nat.le_refl _)
  have hget : ∀ (i : Nat) u, vs[i]? = some u → ∃ T, P[i]? = some T := fun i u hu => ⟨_, List.getElem?_eq_getElem (by rw [← v1]; exact (List.getElem?_eq_some_iff.1 hu).1)⟩
  have hflat : flatC oneV vs = vs := by
    unfold flatC
    induction vs with
    | nil => rfl
    | cons a r ih => exact List.flatMap_singleton' _
  refine ⟨vs, v1, fun i u T hu hT => (v2 i u T hu hT).1, p, cap, rfl, by rw [hflat, v1]; omega, fun u hu => ?_, fun hp => ?_, fun a ha j u hj => ?_⟩
  · rw [hflat] at hu
    obtain ⟨i, hi⟩ := List.getElem?_of_mem hu
    obtain ⟨T, hT⟩ := hget i u hi
    obtain ⟨q, c, rfl, -⟩ := RowIn.slice (v2 i u T hi hT).1
    rfl
  · subst hp
    rcases P with _ | ⟨T, P⟩
    · rfl
    · obtain ⟨g, o, e, -⟩ := h3 (by simp)
      cases e
  · rw [hflat] at hj
    obtain ⟨T, hT⟩ := hget j u hj
    obtain ⟨g, o, rfl, -⟩ := h3 (by rintro rfl; simp at hT)
    cases ha
    rw [add_plain]
    exact (v2 j u T hj hT).2 g o rfl

/-- Symbols of which the first i have numbers of the call's own. -/
structure HalfS (w : World) (N : Nat) (v : Value) (S S' : Syms) (i : Nat) : Prop where
  row : w.ownsRow N 42 3 v S.length (flatC symCells S')
  len : S'.length = S.length
  each : ∀ (j : Nat) x I, S[j]? = some (x, I) → ∃ iv, S'[j]? = some (⟨x.name, x.size, iv⟩, I) ∧ (j < i → OwnNums w N iv I) ∧ (i ≤ j → iv = x.init)

theorem HalfS.start {w : World} {N : Nat} {v : Value} {S : Syms} (h : w.ownsRow N 42 3 v S.length (flatC symCells S)) : HalfS w N v S S 0 :=
  ⟨h, rfl, fun j x L hj => ⟨x.init, hj, fun h => absurd h (Nat.not_lt_zero _), fun _ => rfl⟩⟩

theorem HalfS.later {w w' : World} {N : Nat} {v : Value} {S S' : Syms} {i : Nat} (h : HalfS w N v S S' i) (hl : Later w w') : HalfS w' N v S S' i :=
  ⟨ownsC_later h.row hl, h.len, fun j x L hj => by
    obtain ⟨lv, h1, h2, h3⟩ := h.each j x L hj
    exact ⟨lv, h1, fun hi => ownsC_later (h2 hi) hl, h3⟩⟩

theorem HalfS.next {w : World} {N g n cap : Nat} {S S' : Syms} {i : Nat} (h : HalfS w N (.slice (some ⟨g, 0, none⟩) n cap) S S' i) {x : Sym} {I : List Int} (hi : S[i]? = some (x, I)) {iv : Value} (ho : OwnNums w N iv I) {cur : Array Value} (hg : w.heap[g]? = some (.cells cur 42)) (hn : S.length = n) :
    HalfS (w.setCell ⟨g, i * 3 + 2, none⟩ iv) N (.slice (some ⟨g, 0, none⟩) n cap) S (S'.set i (⟨x.name, x.size, iv⟩, I)) (i + 1) := by
  obtain ⟨l0, h1, -, h3⟩ := h.each i x I hi
  have hil := (List.getElem?_eq_some_iff.1 h1).1
  subst hn
  refine ⟨?_, by rw [List.length_set]; exact h.len, fun j y M hj => ?_⟩
  · rw [flatC_set symCells 3 symCells_len S' i 2 _ _ iv h1 (by omega) rfl]
    exact owns_set_own h.row iv
  · obtain ⟨l1, k1, k2, k3⟩ := h.each j y M hj
    by_cases hji : j = i
    · subst hji
      rw [hi] at hj
      cases hj
      exact ⟨iv, List.getElem?_set_self hil, fun _ => owns_set_other ho hg (fun cs fz e0 => by cases e0) _ _, fun h => absurd h (by omega)⟩
    · refine ⟨l1, by rw [List.getElem?_set_ne (Ne.symm hji)]; exact k1, fun h => owns_set_other (k2 (by omega)) hg (fun cs fz e0 => by cases e0) _ _, fun h => k3 (by omega)⟩

/-- Symbols stay while a block of another type is written. -/
theorem HalfS.off {w : World} {N : Nat} {v : Value} {S S' : Syms} {i : Nat} (h : HalfS w N v S S' i) {B : Nat} {ob : Obj} (hB : w.heap[B]? = some ob) (h1 : ∀ cs fz, ob ≠ .cells cs 42 fz) (h2 : ∀ cs fz, ob ≠ .cells cs 2 fz) (j : Nat) (u : Value) : HalfS (w.setCell ⟨B, j, none⟩ u) N v S S' i :=
  ⟨owns_set_other h.row hB h1 j u, h.len, fun k x L hk => by
    obtain ⟨lv, e1, e2, e3⟩ := h.each k x L hk
    exact ⟨lv, e1, fun hi => owns_set_other (e2 hi) hB h2 j u, e3⟩⟩

/-- Threads of which the first i have instructions of the call's own; W: where the others lie. -/
structure HalfP (W w : World) (N : Nat) (v : Value) (P : List Thr) (vs : List Value) (i : Nat) : Prop where
  row : w.ownsRow N 34 1 v P.length (flatC oneV vs)
  len : vs.length = P.length
  each : ∀ (j : Nat) T, P[j]? = some T → ∃ u, vs[j]? = some u ∧ (j < i → ∃ T', OwnThr w N u T' ∧ CopyT T T') ∧ (i ≤ j → InsRow W u T)

theorem HalfP.later {W w w' : World} {N : Nat} {v : Value} {P : List Thr} {vs : List Value} {i : Nat} (h : HalfP W w N v P vs i) (hl : Later w w') : HalfP W w' N v P vs i :=
  ⟨ownsC_later h.row hl, h.len, fun j T hj => by
    obtain ⟨u, h1, h2, h3⟩ := h.each j T hj
    refine ⟨u, h1, fun hi => ?_, h3⟩
    obtain ⟨T', k1, k2⟩ := h2 hi
    exact ⟨T', k1.later hl, k2⟩⟩

theorem HalfP.off {W w : World} {N : Nat} {v : Value} {P : List Thr} {vs : List Value} {i : Nat} (h : HalfP W w N v P vs i) {B : Nat} {ob : Obj} (hB : w.heap[B]? = some ob) (h0 : ∀ cs fz, ob ≠ .cells cs 34 fz) (h1 : ∀ cs fz, ob ≠ .cells cs 39 fz) (h2 : ∀ cs fz, ob ≠ .cells cs 9 fz) (j : Nat) (u : Value) : HalfP W (w.setCell ⟨B, j, none⟩ u) N v P vs i :=
  ⟨owns_set_other h.row hB h0 j u, h.len, fun k T hk => by
    obtain ⟨z, e1, e2, e3⟩ := h.each k T hk
    refine ⟨z, e1, fun hi => ?_, e3⟩
    obtain ⟨T', k1, k2⟩ := e2 hi
    exact ⟨T', k1.set_other hB h1 h2 j u, k2⟩⟩

theorem HalfP.next {W w : World} {N g n cap : Nat} {P : List Thr} {vs : List Value} {i : Nat} (h : HalfP W w N (.slice (some ⟨g, 0, none⟩) n cap) P vs i) {T T' : Thr} (hi : P[i]? = some T) {u : Value} (ho : OwnThr w N u T') (hc : CopyT T T') {cur : Array Value} (hg : w.heap[g]? = some (.cells cur 34)) (hn : P.length = n) :
    HalfP W (w.setCell ⟨g, i * 1 + 0, none⟩ u) N (.slice (some ⟨g, 0, none⟩) n cap) P (vs.set i u) (i + 1) := by
  obtain ⟨l0, h1, -, h3⟩ := h.each i T hi
  have hil := (List.getElem?_eq_some_iff.1 h1).1
  subst hn
  have hoff := ho.set_other hg (fun cs fz e0 => by cases e0) (fun cs fz e0 => by cases e0) (i * 1 + 0) u
  refine ⟨?_, by rw [List.length_set]; exact h.len, fun j U hj => ?_⟩
  · rw [flatC_set oneV 1 oneV_len vs i 0 _ _ u h1 (by omega) rfl]
    exact owns_set_own h.row u
  · obtain ⟨l1, k1, k2, k3⟩ := h.each j U hj
    by_cases hji : j = i
    · subst hji
      rw [hi] at hj
      cases hj
      exact ⟨u, List.getElem?_set_self hil, fun _ => ⟨T', hoff, hc⟩, fun h => absurd h (by omega)⟩
    · refine ⟨l1, by rw [List.getElem?_set_ne (Ne.symm hji)]; exact k1, fun h => ?_, fun h => k3 (by omega)⟩
      obtain ⟨U', m1, m2⟩ := k2 (by omega)
      exact ⟨U', m1.set_other hg (fun cs fz e0 => by cases e0) (fun cs fz e0 => by cases e0) _ _, m2⟩

end Go.Proofs.YtegogmbcjjjjjaaDoor
