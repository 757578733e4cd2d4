/-
  What the document's own CopyProg returns: a program in memory of the call's own, the same but for where its lists lie. Nothing that was in memory turns. Conditions: the texts are no longer than 1000, no list is longer than a million, no instruction has more than 1000 labels.
-/
import Derived.Test.YtegogmbcjjjjjaaDoorCopyCall
import Derived.Deep.RegionLaw
namespace Go.Proofs.YtegogmbcjjjjjaaDoor
open Go.RowKit Go.WideShapes
set_option linter.unusedVariables false
set_option linter.unusedSimpArgs false

/-- append of a slice to no slice. -/
theorem wpList_append_src {ops : Array Oper} {rest : List Oper} {o : Oper} {a : Act} {w : World} {Q : Exit → Act → World → Prop} (hgd : o.guard = none) (s x : Operand) (t : TypeId)
    (ho : o.op = .call { callee := .builtin .append, args := #[s, x], argTypes := #[t, t] })
    (base : Nat) (e : TypeId) (i : TypeInfo) (z : Value) (size bytes : Nat) (ht : Tryd.prog.underlying t = some (.slice e)) (hi : Tryd.prog.info? e = some i) (hz : i.zero = some z)
    (hsize : i.size = size) (hby : i.bytes = bytes) (hzs : z.cells.size = size) (hsz : 0 < size)
    (v : Value) (n : Nat) (C : List Value) (hs : a.eval s = .slice none 0 0) (hx : a.eval x = v) (hsrc : Src w v n size C) (h63 : n ≤ maxLen) (hbytes : n * bytes ≤ 140737488355328) (hbase : base ≤ w.heap.size)
    (h : ∀ v' w', w'.ownsRow base e size v' n C → w.grownBy w' none → wpList Tryd.prog ops Q rest (a.put o.dst v') w') : wpList Tryd.prog ops Q (o :: rest) a w := by
  obtain ⟨p, cap, rfl, hlen, hone, hp, hnews⟩ := hsrc
  cases p with
  | none =>
    obtain rfl := hp rfl
    obtain rfl : C = [] := List.length_eq_zero_iff.1 (by omega)
    refine wpList_plain hgd fun _ hK => ?_
    have hr : (Builtin.append_ #[t, t] o.type #[.slice none 0 0, .slice none 0 cap]).run Tryd.prog w = .ok (.slice none 0 0) w := by
      simp [Builtin.append_, run_underlying ht, sizeOf, typeInfo, hi, Builtin.lenOf, Builtin.firstCells, loadCells, loadCellsFrom]
    unfold Oper.wp execOp
    simp only [ho, resolve, invoke, builtin, Sem.run_bind, Sem.run_pure, Result.andThen_ok, List.map_toArray, List.map_cons, List.map_nil, hs, hx, hr]
    exact hK _ _ (h _ _ (World.ownsRow_nil _ _ _ _) ⟨rfl, rfl, rfl, Nat.le_refl _, fun _ _ _ => rfl⟩)
  | some ad =>
    exact wpList_append_own w hgd s x t ho base e i z size bytes ht hi hz hsize hby hzs hsz (.slice none 0 0) 0 [] hs (World.ownsRow_nil _ _ _ _) ad n cap C hx hlen (hnews ad rfl) hone (by omega) (by rw [Nat.zero_add]; exact hbytes) hbase (fun v' w' h1 h2 _ => h v' w' (by simpa using h1) h2)

theorem take_lens {α : Type} {l : List α} {i : Nat} {x : α} (h : l[i]? = some x) : (l.take i).length = i ∧ (l.take (i + 1)).length = i + 1 := by
  have := (List.getElem?_eq_some_iff.1 h).1
  constructor <;> rw [List.length_take] <;> omega

/-- One symbol more behind an append. -/
theorem HalfS.snoc {w w3 : World} {N i : Nat} {v v' : Value} {S S' : Syms} (h : HalfS w N v (S.take i) S' i) {x : Sym} {I : List Int} (hi : S[i]? = some (x, I)) {iv : Value} (ho : OwnNums w N iv I) {o : Obj} (hg : (w.alloc o).grownBy w3 v.ownBlock)
    (hown : w3.ownsRow N 42 3 v' (i + 1) (flatC symCells S' ++ [.string x.name, .int .i64 x.size, iv])) : HalfS w3 N v' (S.take (i + 1)) (S' ++ [(⟨x.name, x.size, iv⟩, I)]) (i + 1) := by
  obtain ⟨t1, t2⟩ := take_lens hi
  have hl : S'.length = i := by rw [h.len, t1]
  have LA := Later.alloc (Later.refl w) o
  have hrow := ownsC_later h.row LA
  refine ⟨?_, by rw [List.length_append, hl, t2]; rfl, fun j y M hj => ?_⟩
  · rw [t2, flatC_append, flatC_one]
    exact hown
  · rcases Nat.lt_or_ge j i with hji | hji
    · rw [List.getElem?_take, if_pos (by omega)] at hj
      obtain ⟨lv, e1, e2, e3⟩ := h.each j y M (by rw [List.getElem?_take, if_pos hji]; exact hj)
      refine ⟨lv, by rw [List.getElem?_append_left (by omega)]; exact e1, fun _ => owns_kept (by decide) hrow (ownsC_later (e2 hji) LA) hg, fun h => absurd h (by omega)⟩
    · have hjl := (List.getElem?_eq_some_iff.1 hj).1
      rw [t2] at hjl
      obtain rfl : j = i := by omega
      rw [List.getElem?_take, if_pos (by omega), hi] at hj
      cases hj
      refine ⟨iv, by rw [List.getElem?_append_right (by omega), hl, Nat.sub_self]; rfl, fun _ => owns_kept (by decide) hrow (ownsC_later ho LA) hg, fun h => absurd h (by omega)⟩

/-- One thread more behind an append. -/
theorem HalfP.snoc {W w w3 : World} {N i : Nat} {v v' u : Value} {P : List Thr} {vs : List Value} (h : HalfP W w N v (P.take i) vs i) {T T' : Thr} (hi : P[i]? = some T) (ho : OwnThr w N u T') (hc : CopyT T T') {o : Obj} (hg : (w.alloc o).grownBy w3 v.ownBlock)
    (hown : w3.ownsRow N 34 1 v' (i + 1) (flatC oneV vs ++ [u])) : HalfP W w3 N v' (P.take (i + 1)) (vs ++ [u]) (i + 1) := by
  obtain ⟨t1, t2⟩ := take_lens hi
  have hl : vs.length = i := by rw [h.len, t1]
  have LA := Later.alloc (Later.refl w) o
  have hrow := ownsC_later h.row LA
  refine ⟨?_, by rw [List.length_append, hl, t2]; rfl, fun j U hj => ?_⟩
  · rw [t2, flatC_append, flatC_one]
    exact hown
  · rcases Nat.lt_or_ge j i with hji | hji
    · rw [List.getElem?_take, if_pos (by omega)] at hj
      obtain ⟨z, e1, e2, e3⟩ := h.each j U (by rw [List.getElem?_take, if_pos hji]; exact hj)
      obtain ⟨U', m1, m2⟩ := e2 hji
      exact ⟨z, by rw [List.getElem?_append_left (by omega)]; exact e1, fun _ => ⟨U', (m1.later LA).grown hrow (by decide) (by decide) hg, m2⟩, fun h => absurd h (by omega)⟩
    · have hjl := (List.getElem?_eq_some_iff.1 hj).1
      rw [t2] at hjl
      obtain rfl : j = i := by omega
      rw [List.getElem?_take, if_pos (by omega), hi] at hj
      cases hj
      exact ⟨u, by rw [List.getElem?_append_right (by omega), hl, Nat.sub_self]; rfl, fun _ => ⟨T', (ho.later LA).grown hrow (by decide) (by decide) hg, hc⟩, fun h => absurd h (by omega)⟩

/-- The symbols stay while a row of another type grows. -/
theorem HalfS.grown {w w' : World} {N : Nat} {v : Value} {S S' : Syms} {i : Nat} (h : HalfS w N v S S' i) {base : Nat} {e : TypeId} {k : Nat} {u : Value} {n : Nat} {xs : List Value} (ho : w.ownsRow base e k u n xs) (h1 : e ≠ 42) (h2 : e ≠ 2) (hg : w.grownBy w' u.ownBlock) : HalfS w' N v S S' i :=
  ⟨owns_kept h1 ho h.row hg, h.len, fun j x L hj => by
    obtain ⟨lv, e1, e2, e3⟩ := h.each j x L hj
    exact ⟨lv, e1, fun hi => owns_kept h2 ho (e2 hi) hg, e3⟩⟩

/-- One instruction more behind an append. -/
theorem OwnThr.snocI {w w3 : World} {N i : Nat} {v v' : Value} {T' : Thr} (h : OwnThr w N v T') {x : Ins} {L : List ByteArray} (hx : x.Ok) (ho : OwnTexts w N x.labels L) (hs : ∀ t ∈ L, t.size ≤ 1000) {o : Obj} (hl : T'.length = i) (hg : (w.alloc o).grownBy w3 v.ownBlock)
    (hown : w3.ownsRow N 39 13 v' (i + 1) (flatC insC T' ++ insC (x, L))) : OwnThr w3 N v' (T' ++ [(x, L)]) := by
  have LA := Later.alloc (Later.refl w) o
  have hrow := ownsC_later h.row LA
  refine ⟨by rw [List.length_append, hl, flatC_append, flatC_one]; exact hown, fun y hy => ?_⟩
  rcases List.mem_append.1 hy with hy | hy
  · obtain ⟨e1, e2, e3⟩ := h.each y hy
    exact ⟨e1, owns_kept (by decide) hrow (ownsC_later e2 LA) hg, e3⟩
  · simp at hy
    subst hy
    exact ⟨hx, owns_kept (by decide) hrow (ownsC_later ho LA) hg, hs⟩

theorem copyT_snoc {T T' : Thr} {i : Nat} {x : Ins} {L : List ByteArray} {lv : Value} (h : CopyT (T.take i) T') (hi : T[i]? = some (x, L)) : CopyT (T.take (i + 1)) (T' ++ [(withLabels x lv, L)]) := by
  obtain ⟨t1, t2⟩ := take_lens hi
  obtain ⟨h1, h2⟩ := h
  rw [t1] at h1
  refine ⟨by rw [List.length_append, h1, t2]; rfl, fun j y M hj => ?_⟩
  rcases Nat.lt_or_ge j i with hji | hji
  · rw [List.getElem?_take, if_pos (by omega)] at hj
    obtain ⟨lv', e1⟩ := h2 j y M (by rw [List.getElem?_take, if_pos hji]; exact hj)
    exact ⟨lv', by rw [List.getElem?_append_left (by omega)]; exact e1⟩
  · have hjl := (List.getElem?_eq_some_iff.1 hj).1
    rw [t2] at hjl
    obtain rfl : j = i := by omega
    rw [List.getElem?_take, if_pos (by omega), hi] at hj
    cases hj
    exact ⟨lv, by rw [List.getElem?_append_right (by omega), h1, Nat.sub_self]; rfl⟩

end Go.Proofs.YtegogmbcjjjjjaaDoor
