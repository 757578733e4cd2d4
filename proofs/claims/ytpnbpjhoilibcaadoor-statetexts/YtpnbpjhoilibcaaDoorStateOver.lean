/-
  A state's copy that is written over, beside another copy that stays. Conditions: as each theorem names them.
-/
import Derived.Test.YtpnbpjhoilibcaaDoorStateCopyP
import Derived.Deep.MidRow
namespace Go.Proofs.YtpnbpjhoilibcaaDoor
open Go.RowKit Go.WideShapes
set_option linter.unusedVariables false
set_option linter.unusedSimpArgs false

/-- Nothing but cells of one block has turned. -/
structure InOne (g : Nat) (w w' : World) : Prop where
  os : w'.os = w.os
  tape : w'.tape = w.tape
  output : w'.output = w.output
  size : w'.heap.size = w.heap.size
  off : ∀ B, B ≠ g → w'.heap[B]? = w.heap[B]?
  own : ∀ cur e fz, w.heap[g]? = some (.cells cur e fz) → ∃ cur' : Array Value, w'.heap[g]? = some (.cells cur' e fz) ∧ cur'.size = cur.size

theorem InOne.refl (g : Nat) (w : World) : InOne g w w := ⟨rfl, rfl, rfl, rfl, fun _ _ => rfl, fun cur _ _ h => ⟨cur, h, rfl⟩⟩

theorem InOne.set {g : Nat} {w w' : World} (h : InOne g w w') (j : Nat) (u : Value) : InOne g w (w'.setCell ⟨g, j, none⟩ u) := by
  refine ⟨h.os, h.tape, h.output, ?_, fun B hB => ?_, fun cur e fz hc => ?_⟩
  · show (w'.heap.modify g _).size = _
    rw [Array.size_modify]; exact h.size
  · show (w'.heap.modify g _)[B]? = _
    rw [Array.getElem?_modify, if_neg (Ne.symm hB)]; exact h.off B hB
  · obtain ⟨cur', h1, h2⟩ := h.own cur e fz hc
    exact ⟨cur'.setIfInBounds j u, setCell_block h1 j u, by simpa using h2⟩

theorem InOne.drew {g : Nat} {w w' : World} (h : InOne g w w') : InOne g w w'.drew := ⟨h.os, h.tape, h.output, h.size, h.off, h.own⟩

theorem InOne.later {W w w' : World} {g : Nat} (h : InOne g w w') (hl : Later W w) (hg : W.heap.size ≤ g) : Later W w' :=
  ⟨h.os.trans hl.os, h.tape.trans hl.tape, h.output.trans hl.output, by rw [h.size]; exact hl.size, fun k hk => (h.off k (by omega)).trans (hl.block k hk)⟩

theorem InOne.keptIn {w w' : World} {g lo hi : Nat} (h : InOne g w w') (hg : g < lo ∨ hi ≤ g) : KeptIn lo hi w w' := fun k h1 h2 => h.off k (by omega)

/-- A row of the call's own, whatever is in it. -/
def OwnW (w : World) (lo : Nat) (e : TypeId) (k : Nat) (v : Value) (n : Nat) : Prop := ∃ p cap, v = .slice p n cap ∧ n ≤ maxLen ∧ (n = 0 ∨ ∃ g cur, p = some ⟨g, 0, none⟩ ∧ lo ≤ g ∧ w.heap[g]? = some (.cells cur e) ∧ n * k ≤ cur.size)

theorem OwnW.of {lo hi : Nat} {w : World} {e : TypeId} {k : Nat} {v : Value} {n : Nat} {xs : List Value} (h : OwnIn lo hi w e k v n xs) : OwnW w lo e k v n := by
  obtain ⟨h1, -⟩ := h
  obtain ⟨p, cap, rfl⟩ := owns_slice h1
  obtain ⟨c1, c2⟩ := owns_cap h1
  refine ⟨p, cap, rfl, by omega, ?_⟩
  rcases h1.2 with ⟨-, hz⟩ | ⟨g, cap', cur, hv, hb, hg, h4, h5, h6, h7⟩
  · exact .inl hz
  · cases hv
    refine .inr ⟨g, cur, rfl, hb, hg, ?_⟩
    rw [h6]
    exact Nat.mul_le_mul_right k h4

theorem OwnW.one {w w' : World} {lo : Nat} {e : TypeId} {k : Nat} {v : Value} {n g : Nat} (h : OwnW w lo e k v n) (ho : InOne g w w') : OwnW w' lo e k v n := by
  obtain ⟨p, cap, rfl, h1, h2⟩ := h
  refine ⟨p, cap, rfl, h1, ?_⟩
  rcases h2 with h2 | ⟨b, cur, rfl, h3, h4, h5⟩
  · exact .inl h2
  · by_cases hb : b = g
    · subst hb
      obtain ⟨cur', k1, k2⟩ := ho.own cur e (0, 0) h4
      exact .inr ⟨b, cur', rfl, h3, k1, by omega⟩
    · exact .inr ⟨b, cur, rfl, h3, (ho.off b hb).trans h4, h5⟩

/-- The cells of its i-th thing are there, and may be written. -/
theorem OwnW.at {w : World} {lo : Nat} {e : TypeId} {k : Nat} {p : Option Addr} {n cap : Nat} (h : OwnW w lo e k (.slice p n cap) n) {i : Nat} (hi : i < n) :
    ∃ g cur, p = some ⟨g, 0, none⟩ ∧ lo ≤ g ∧ w.heap[g]? = some (.cells cur e) ∧ ∀ j, j < k → (∃ u, w.cell? ⟨g, i * k + j, none⟩ = some u) ∧ w.frozen? ⟨g, i * k + j, none⟩ = false := by
  obtain ⟨p', cap', h0, h1, h2⟩ := h
  cases h0
  rcases h2 with h2 | ⟨g, cur, rfl, h3, h4, h5⟩
  · omega
  · refine ⟨g, cur, rfl, h3, h4, fun j hj => ⟨⟨cur[i * k + j]'?_, ?_⟩, by simp [World.frozen?, h4]⟩⟩
    · have := Nat.mul_le_mul_right k (show i + 1 ≤ n by omega)
      rw [Nat.succ_mul] at this
      omega
    · simp [World.cell?, h4]

theorem InOne.sets {g : Nat} {w : World} : ∀ (vs : List Value) (o : Nat) {w' : World}, InOne g w w' → InOne g w (w'.setCells g o vs)
  | [], o, w', h => h
  | v :: vs, o, w', h => InOne.sets vs (o + 1) (h.set o v)

theorem OwnW.there {w : World} {lo : Nat} {e : TypeId} {k : Nat} {p : Option Addr} {n cap : Nat} (h : OwnW w lo e k (.slice p n cap) n) {i : Nat} (hi : i < n) :
    ∃ g cur, p = some ⟨g, 0, none⟩ ∧ lo ≤ g ∧ w.heap[g]? = some (.cells cur e) ∧ w.there g (i * k) k := by
  obtain ⟨g, cur, h1, h2, h3, h4⟩ := h.at hi
  exact ⟨g, cur, h1, h2, h3, fun j hj => by
    obtain ⟨⟨u, h5⟩, h6⟩ := h4 j hj
    exact ⟨by rw [h5]; rfl, h6⟩⟩

/-- Two copies of a state: one that stays (its box C), one that is written over (its box D). -/
structure TwoCopies (W w : World) (C D : Nat) (x : MSt) (m1 t1 b1 : Value) (H1 : List Value) (lo1 hi1 : Nat) (m2 t2 b2 : Value) (H2 : List Value) (lo2 : Nat) : Prop where
  later : Later W w
  lo : W.heap.size ≤ lo1
  mid : hi1 ≤ lo2
  top : lo1 ≤ lo2
  boxC : w.heap[C]? = some (.cells #[m1, t1, b1, .int .i64 x.lock] 26)
  boxD : w.heap[D]? = some (.cells #[m2, t2, b2, .int .i64 x.lock] 26)
  stay : MsOwn lo1 hi1 w m1 t1 b1 x H1
  mem : OwnW w lo2 2 1 m2 x.mem.length
  thr : OwnW w lo2 38 16 t2 x.thr.length
  bufs : w.ownsRow lo2 39 1 b2 x.bufs.length H2
  len : H2.length = x.bufs.length
  each : ∀ (i : Nat) u l, H2[i]? = some u → x.bufs[i]? = some l → OwnW w lo2 41 2 u l.length

theorem TwoCopies.next {W w w' : World} {C D : Nat} {x : MSt} {m1 t1 b1 : Value} {H1 : List Value} {lo1 hi1 : Nat} {m2 t2 b2 : Value} {H2 : List Value} {lo2 : Nat} (h : TwoCopies W w C D x m1 t1 b1 H1 lo1 hi1 m2 t2 b2 H2 lo2)
    (hl : Later w w') (hh : hi1 ≤ w.heap.size) : TwoCopies W w' C D x m1 t1 b1 H1 lo1 hi1 m2 t2 b2 H2 lo2 := by
  have ow : ∀ {e : TypeId} {k : Nat} {v : Value} {n : Nat}, OwnW w lo2 e k v n → OwnW w' lo2 e k v n := fun h => by
    obtain ⟨p, cap, rfl, h1, h2⟩ := h
    refine ⟨p, cap, rfl, h1, ?_⟩
    rcases h2 with h2 | ⟨b, cur, rfl, h3, h4, h5⟩
    · exact .inl h2
    · exact .inr ⟨b, cur, rfl, h3, heap_later hl h4, h5⟩
  exact ⟨h.later.trans hl, h.lo, h.mid, h.top, heap_later hl h.boxC, heap_later hl h.boxD, h.stay.kept (KeptIn.later hl hh), ow h.mem, ow h.thr, ownsC_later h.bufs hl, h.len, fun i u l hu hx => ow (h.each i u l hu hx)⟩

/-- A row of the second copy is written. -/
theorem TwoCopies.write {W w w' : World} {C D : Nat} {x : MSt} {m1 t1 b1 : Value} {H1 : List Value} {lo1 hi1 : Nat} {m2 t2 b2 : Value} {H2 : List Value} {lo2 : Nat} (h : TwoCopies W w C D x m1 t1 b1 H1 lo1 hi1 m2 t2 b2 H2 lo2)
    {g : Nat} (hg : lo2 ≤ g) {cur : Array Value} {e : TypeId} (hc : w.heap[g]? = some (.cells cur e)) (h1 : e ≠ 26) (h2 : e ≠ 39) (ho : InOne g w w') : TwoCopies W w' C D x m1 t1 b1 H1 lo1 hi1 m2 t2 b2 H2 lo2 := by
  have ne : ∀ {B : Nat} {cs : Array Value} {t : TypeId}, w.heap[B]? = some (.cells cs t) → e ≠ t → B ≠ g := fun hB hne e0 => by
    subst e0
    rw [hB] at hc
    cases hc
    exact hne rfl
  have row : w'.ownsRow lo2 39 1 b2 x.bufs.length H2 := by
    obtain ⟨k1, k2⟩ := h.bufs
    refine ⟨k1, ?_⟩
    rcases k2 with k2 | ⟨b, cap, cc, rfl, k3, k4, k5⟩
    · exact .inl k2
    · exact .inr ⟨b, cap, cc, rfl, k3, (ho.off b (ne k4 h2)).trans k4, k5⟩
  exact ⟨ho.later h.later (Nat.le_trans h.lo (Nat.le_trans h.top hg)), h.lo, h.mid, h.top, (ho.off C (ne h.boxC h1)).trans h.boxC, (ho.off D (ne h.boxD h1)).trans h.boxD, h.stay.kept (ho.keptIn (.inr (Nat.le_trans h.mid hg))), h.mem.one ho, h.thr.one ho, row, h.len, fun i u l hu hx => (h.each i u l hu hx).one ho⟩

/-- Four cells of a box are written. -/
def put4 (w : World) (C : Nat) (a b c d : Value) : World := (((w.setCell ⟨C, 0, none⟩ a).setCell ⟨C, 1, none⟩ b).setCell ⟨C, 2, none⟩ c).setCell ⟨C, 3, none⟩ d
theorem put4_box {w : World} {C : Nat} {p q r s : Value} {t : TypeId} (h : w.heap[C]? = some (.cells #[p, q, r, s] t)) (a b c d : Value) : (put4 w C a b c d).heap[C]? = some (.cells #[a, b, c, d] t) := box4_stored h a b c d
theorem put4_kept {w : World} {C X : Nat} {ob : Obj} (h : w.heap[X]? = some ob) (hne : C ≠ X) (a b c d : Value) : (put4 w C a b c d).heap[X]? = some ob := set_kept (set_kept (set_kept (set_kept h hne) hne) hne) hne
theorem put4_in {w : World} {C lo hi : Nat} (h : C < lo ∨ hi ≤ C) (a b c d : Value) : KeptIn lo hi w (put4 w C a b c d) := (((KeptIn.set h 0 a).trans (KeptIn.set h 1 b)).trans (KeptIn.set h 2 c)).trans (KeptIn.set h 3 d)
theorem put4_later {W w : World} {C : Nat} (h : Later W w) (hC : W.heap.size ≤ C) (a b c d : Value) : Later W (put4 w C a b c d) := Later.setCell (Later.setCell (Later.setCell (Later.setCell h hC 0 a) hC 1 b) hC 2 c) hC 3 d
theorem put4_size (w : World) (C : Nat) (a b c d : Value) : (put4 w C a b c d).heap.size = w.heap.size := by
  simp only [put4, World.setCell, Array.size_modify]

end Go.Proofs.YtpnbpjhoilibcaaDoor
