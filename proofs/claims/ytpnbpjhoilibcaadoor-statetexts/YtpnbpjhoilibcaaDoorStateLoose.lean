/-
  A state's copy that is being bent: rows of the call's own, whatever is in them. Conditions: as each theorem names them.
-/
import Derived.Test.YtpnbpjhoilibcaaDoorStateOver
namespace Go.Proofs.YtpnbpjhoilibcaaDoor
open Go.RowKit Go.WideShapes
set_option linter.unusedVariables false
set_option linter.unusedSimpArgs false

/-- A buffer of the call's own: no more than so many entries. -/
def OwnBuf (w : World) (N : Nat) (u : Value) : Prop := ∃ l : List (Int × Int), l.length ≤ 20 ∧ (∀ x ∈ l, I64 x.1 ∧ I64 x.2) ∧ w.ownsRow N 41 2 u l.length (flatC entC l)

/-- No two slices have one block. -/
def Apart (H : List Value) : Prop := ∀ (i j : Nat) u v g, i ≠ j → H[i]? = some u → H[j]? = some v → u.ownBlock = some g → v.ownBlock ≠ some g

/-- Slices of few things. -/
def Few (H : List Value) : Prop := ∀ u ∈ H, ∃ p n c, u = .slice p n c ∧ n ≤ 12

/-- A copy in the box D: its rows lie from N on; ap: its buffers' blocks are apart. -/
structure Loose (W w : World) (N D : Nat) (m t b : Value) (nm nt nb : Nat) (k : Int) (ap : Bool) : Prop where
  later : Later W w
  box : w.heap[D]? = some (.cells #[m, t, b, .int .i64 k] 26)
  mem : ∃ L : List Int, L.length = nm ∧ (∀ n ∈ L, I64 n) ∧ w.ownsRow N 2 1 m nm (intsC L)
  thr : ∃ T : List TS, T.length = nt ∧ TsRow w t T
  thrW : OwnW w N 38 16 t nt
  bufs : ∃ H : List Value, H.length = nb ∧ w.ownsRow N 39 1 b nb H ∧ (∀ u ∈ H, OwnBuf w N u) ∧ (ap = true → Apart H ∧ Few H)
  lock : I64 k

theorem OwnBuf.later {w w' : World} {N : Nat} {u : Value} (h : OwnBuf w N u) (hl : Later w w') : OwnBuf w' N u := by
  obtain ⟨l, h1, h2, h3⟩ := h
  exact ⟨l, h1, h2, ownsC_later h3 hl⟩

theorem OwnW.later {w w' : World} {lo : Nat} {e : TypeId} {k : Nat} {v : Value} {n : Nat} (h : OwnW w lo e k v n) (hl : Later w w') : OwnW w' lo e k v n := by
  obtain ⟨p, cap, rfl, h1, h2⟩ := h
  refine ⟨p, cap, rfl, h1, ?_⟩
  rcases h2 with h2 | ⟨b, cur, rfl, h3, h4, h5⟩
  · exact .inl h2
  · exact .inr ⟨b, cur, rfl, h3, heap_later hl h4, h5⟩

theorem Loose.next {W w w' : World} {N D : Nat} {m t b : Value} {nm nt nb : Nat} {k : Int} {ap : Bool} (h : Loose W w N D m t b nm nt nb k ap) (hl : Later w w') : Loose W w' N D m t b nm nt nb k ap := by
  obtain ⟨L, l1, l2, l3⟩ := h.mem
  obtain ⟨T, t1, t2⟩ := h.thr
  obtain ⟨H, b1, b2, b3, b4⟩ := h.bufs
  exact ⟨h.later.trans hl, heap_later hl h.box, ⟨L, l1, l2, ownsC_later l3 hl⟩, ⟨T, t1, t2.later hl⟩, h.thrW.later hl, ⟨H, b1, ownsC_later b2 hl, fun u hu => (b3 u hu).later hl, b4⟩, h.lock⟩

theorem owns_one {w w' : World} {g : Nat} (ho : InOne g w w') {cur : Array Value} {t : TypeId} (hg : w.heap[g]? = some (.cells cur t)) {N : Nat} {e : TypeId} {k : Nat} {v : Value} {n : Nat} {xs : List Value} (h : w.ownsRow N e k v n xs) (hne : e ≠ t) : w'.ownsRow N e k v n xs := by
  refine ⟨h.1, ?_⟩
  rcases h.2 with h2 | ⟨b, cap, cc, rfl, k3, k4, k5⟩
  · exact .inl h2
  · exact .inr ⟨b, cap, cc, rfl, k3, (ho.off b (fun e0 => by subst e0; rw [hg] at k4; cases k4; exact hne rfl)).trans k4, k5⟩

theorem OwnBuf.one {w w' : World} {g N : Nat} {u : Value} (h : OwnBuf w N u) (ho : InOne g w w') {cur : Array Value} {t : TypeId} (hg : w.heap[g]? = some (.cells cur t)) (hne : 41 ≠ t) : OwnBuf w' N u := by
  obtain ⟨l, h1, h2, h3⟩ := h
  exact ⟨l, h1, h2, owns_one ho hg h3 hne⟩

/-- Made of a whole copy. -/
theorem Loose.of {W w : World} {lo hi D : Nat} {m t b : Value} {s : MSt} {H : List Value} (h : MsOwn lo hi w m t b s H) (hl : Later W w) (hD : w.heap[D]? = some (.cells #[m, t, b, .int .i64 s.lock] 26)) (hb : ∀ l ∈ s.bufs, l.length ≤ 12) (ha : Apart H) :
    Loose W w lo D m t b s.mem.length s.thr.length s.bufs.length s.lock true :=
  ⟨hl, hD, ⟨s.mem, rfl, h.ok.mem, h.mem.1⟩, ⟨s.thr, rfl, h.isIn.thr⟩, OwnW.of h.thr, ⟨H, h.len, h.bufs.1, fun u hu => by
    obtain ⟨i, hi, rfl⟩ := List.getElem_of_mem hu
    have hl : s.bufs[i]? = some (s.bufs[i]'(by rw [← h.len]; exact hi)) := List.getElem?_eq_getElem _
    have hm := List.mem_of_getElem? hl
    exact ⟨_, by have := hb _ hm; omega, h.ok.bufs _ hm, (h.each i _ _ (List.getElem?_eq_getElem hi) hl).1⟩, fun _ => ⟨ha, fun u hu => by
    obtain ⟨i, hi, rfl⟩ := List.getElem_of_mem hu
    have hl : s.bufs[i]? = some (s.bufs[i]'(by rw [← h.len]; exact hi)) := List.getElem?_eq_getElem _
    obtain ⟨p, c, e⟩ := owns_slice (h.each i _ _ (List.getElem?_eq_getElem hi) hl).1
    exact ⟨p, _, c, e, hb _ (List.mem_of_getElem? hl)⟩⟩⟩, h.ok.lock⟩

/-- Read as a state. -/
theorem Loose.isIn {W w : World} {N D : Nat} {m t b : Value} {nm nt nb : Nat} {k : Int} {ap : Bool} (h : Loose W w N D m t b nm nt nb k ap) : ∃ s : MSt, s.lock = k ∧ s.mem.length = nm ∧ s.thr.length = nt ∧ s.bufs.length = nb ∧ (∀ l ∈ s.bufs, l.length ≤ 20) ∧ MsIn w m t b s := by
  obtain ⟨L, l1, l2, l3⟩ := h.mem
  obtain ⟨T, t1, t2⟩ := h.thr
  obtain ⟨H, b1, b2, b3, b4⟩ := h.bufs
  have ex : ∀ H : List Value, (∀ u ∈ H, OwnBuf w N u) → ∃ B : List (List (Int × Int)), B.length = H.length ∧ (∀ l ∈ B, l.length ≤ 20 ∧ ∀ x ∈ l, I64 x.1 ∧ I64 x.2) ∧ ∀ (i : Nat) u l, H[i]? = some u → B[i]? = some l → EntRow w u l := by
    intro H
    induction H with
    | nil => intro _; exact ⟨[], rfl, (fun l hl => by cases hl), (fun i u l hu => by simp at hu)⟩
    | cons a H ih =>
      intro hH
      obtain ⟨B, c1, c2, c3⟩ := ih (fun u hu => hH u (List.mem_cons_of_mem _ hu))
      obtain ⟨l, d1, d2, d3⟩ := hH a (List.mem_cons_self ..)
      refine ⟨l :: B, by simp [c1], fun x hx => ?_, fun i u x hu hx => ?_⟩
      · rcases List.mem_cons.1 hx with rfl | hx
        · exact ⟨d1, d2⟩
        · exact c2 x hx
      · cases i with
        | zero =>
          simp at hu hx
          subst hu hx
          exact EntRow.of_owns rfl d3
        | succ i =>
          simp at hu hx
          exact c3 i u x hu hx
  obtain ⟨B, c1, c2, c3⟩ := ex H b3
  refine ⟨⟨L, T, B, k⟩, rfl, l1, t1, by rw [← b1]; exact c1, fun l hl => (c2 l hl).1, ints_own l1 (OwnIn.of l3) l2, t2, bufs_own (by rw [c1, b1]) b1 (OwnIn.of b2) c3 (fun l hl => (c2 l hl).2), h.lock⟩

/-- A thread's state is written over. -/
theorem Loose.putThr {W w : World} {N D : Nat} {m b : Value} {p : Option Addr} {cap nm nt nb : Nat} {k : Int} {ap : Bool} (h : Loose W w N D m (.slice p nt cap) b nm nt nb k ap) (hN : W.heap.size ≤ N) {i : Nat} (hi : i < nt) {g : Nat} (hp : p = some ⟨g, 0, none⟩) (y : TS) (hy : y.Ok) :
    Loose W (w.setCells g (i * 16) (tsC y)) N D m (.slice p nt cap) b nm nt nb k ap := by
  subst hp
  obtain ⟨L, l1, l2, l3⟩ := h.mem
  obtain ⟨T, t1, t2⟩ := h.thr
  obtain ⟨H, b1, b2, b3, b4⟩ := h.bufs
  obtain ⟨g', cur, hg', hNg, hgc, hth⟩ := h.thrW.there hi
  cases hg'
  have ho : InOne g w (w.setCells g (i * 16) (tsC y)) := InOne.sets _ _ (InOne.refl g w)
  have hbox : (w.setCells g (i * 16) (tsC y)).heap[D]? = some (.cells #[m, .slice (some ⟨g, 0, none⟩) nt cap, b, .int .i64 k] 26) := by
    rw [ho.off D (fun e0 => by subst e0; rw [h.box] at hgc; cases hgc)]
    exact h.box
  refine ⟨ho.later h.later (by omega), hbox, ⟨L, l1, l2, owns_one ho hgc l3 (by decide)⟩, ⟨T.set i y, by simp [t1], ?_⟩, h.thrW.one ho, ⟨H, b1, owns_one ho hgc b2 (by decide), fun u hu => (b3 u hu).one ho hgc (by decide), b4⟩, h.lock⟩
  obtain ⟨p', cap', hv, c1, c2, c3⟩ := t2
  simp only [Value.slice.injEq] at hv
  obtain ⟨rfl, hn, rfl⟩ := hv
  refine ⟨_, _, by rw [List.length_set, ← hn], by rw [List.length_set]; exact c1, c2, fun _ => ?_⟩
  obtain ⟨g2, o2, e2, c4⟩ := c3 (by intro e0; rw [e0] at t1; simp at t1; omega)
  cases e2
  refine ⟨g, 0, rfl, fun j x hj => ?_⟩
  by_cases hji : j = i
  · subst hji
    rw [List.getElem?_set_self (by omega)] at hj
    cases hj
    refine ⟨tsC y, ⟨rfl, hy⟩, fun q c hq => ?_⟩
    have := World.rangeAt_setCells_same w g (j * 16) (tsC y) (by rw [tsC_len]; exact hth) q c hq
    rwa [Nat.zero_add]
  · rw [List.getElem?_set_ne (Ne.symm hji)] at hj
    obtain ⟨cs, hcs, c5⟩ := c4 j x hj
    refine ⟨cs, ⟨hcs.1, hcs.2⟩, fun q c hq => ?_⟩
    have hr : w.rangeAt g (j * 16) cs := fun q c hq => by
      have := c5 q c hq
      rwa [Nat.zero_add] at this
    have hl : cs.length = 16 := by rw [hcs.1, tsC_len]
    have := World.rangeAt_setCells_apart hr g (i * 16) (tsC y) (.inr (by rw [hl, tsC_len]; omega)) q c hq
    rwa [Nat.zero_add]

end Go.Proofs.YtpnbpjhoilibcaaDoor
