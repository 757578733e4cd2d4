/-
  Entries and rings in memory: a row of entries, a ring's own row, what its calls leave as it was. Conditions: none.
-/
import Derived.Test.YtmfifaonbbeebaaRowIn
import Derived.Test.YtmfifaonbbeebaaPick
import Derived.Deep.AppendLies
import Derived.Deep.CutRange
namespace Go.Proofs.Ytmfifaonbbeebaa
open Go.RowKit
set_option linter.unusedVariables false
set_option linter.unusedSimpArgs false

/-- An entry, its cells, its value. -/
def entC (x : Int × Int) : List Value := [.int .i64 x.1, .int .i64 x.2]
theorem entC_len (x : Int × Int) : (entC x).length = 2 := rfl
def entV (x : Int × Int) : Value := .agg #[.int .i64 x.1, .int .i64 x.2]
def EntE (_ : World) (x : Int × Int) (cs : List Value) : Prop := cs = entC x
def EntRow (w : World) (v : Value) (L : List (Int × Int)) : Prop := RowIn 2 EntE w v L

theorem infoEnt : (Try.prog.info? 31).map (fun i => (i.zero, i.size, i.bytes)) = some (some (.agg #[.int .i64 0, .int .i64 0]), 2, 16) := by kernel_rfl

theorem EntRow.kept {w w' : World} {v : Value} {L : List (Int × Int)} (h : EntRow w v L) (hl : CellsKept w w') : EntRow w' v L := RowIn.lift h (fun _ _ _ h => h) hl
theorem EntRow.later {w w' : World} {v : Value} {L : List (Int × Int)} (h : EntRow w v L) (hl : Later w w') : EntRow w' v L := h.kept hl.kept

theorem EntRow.nil (w : World) : EntRow w (.slice none 0 0) [] := ⟨none, 0, rfl, Nat.le_refl _, by unfold maxLen; omega, fun h => absurd rfl h⟩

theorem EntRow.get {w : World} {p : Option Addr} {n cap : Nat} {L : List (Int × Int)} (h : EntRow w (.slice p n cap) L) {i : Nat} {x : Int × Int} (hi : L[i]? = some x) :
    ∃ g o, p = some ⟨g, o, none⟩ ∧ w.cell? ⟨g, o + i * 2, none⟩ = some (.int .i64 x.1) ∧ w.cell? ⟨g, o + i * 2 + 1, none⟩ = some (.int .i64 x.2) := by
  obtain ⟨g, o, cs, rfl, rfl, h4⟩ := RowIn.get h hi
  exact ⟨g, o, rfl, h4 0 _ rfl, h4 1 _ rfl⟩

/-- All entries of a row at once. -/
theorem EntRow.all {w : World} {v : Value} {L : List (Int × Int)} (h : EntRow w v L) : ∃ (p : Option Addr) (cap : Nat), v = .slice p L.length cap ∧ L.length ≤ cap ∧ cap ≤ maxLen ∧
    (L ≠ [] → ∃ g o, p = some ⟨g, o, none⟩ ∧ ∀ j u, (flatC entC L)[j]? = some u → w.cell? ⟨g, o + j, none⟩ = some u) := by
  obtain ⟨p, cap, h0, h1, h2, h3⟩ := h
  refine ⟨p, cap, h0, h1, h2, fun hn => ?_⟩
  obtain ⟨g, o, rfl, h4⟩ := h3 hn
  refine ⟨g, o, rfl, fun j u hj => ?_⟩
  have hlt := (List.getElem?_eq_some_iff.1 hj).1
  rw [flatC_length entC 2 entC_len] at hlt
  have hi : L[j / 2]? = some (L[j / 2]'(by omega)) := List.getElem?_eq_getElem (by omega)
  obtain ⟨cs, rfl, h6⟩ := h4 (j / 2) _ hi
  have hm : j / 2 * 2 + j % 2 = j := by omega
  have h7 := flatC_get entC 2 entC_len L (j / 2) _ hi (j % 2) (by omega)
  rw [hm] at h7
  have h8 := h6 (j % 2) u (by rw [← h7]; exact hj)
  rwa [show o + j / 2 * 2 + j % 2 = o + j by omega] at h8

theorem entC_one (L : List (Int × Int)) : ∀ u ∈ flatC entC L, u.oneCell' = true := by
  intro u hu
  obtain ⟨x, -, hx⟩ := List.mem_flatMap.1 hu
  simp [entC] at hx
  rcases hx with rfl | rfl <;> rfl

theorem EntRow.of_owns {w : World} {base : Nat} {v : Value} {n : Nat} {L : List (Int × Int)} (hn : L.length = n) (h : w.ownsRow base 31 2 v n (flatC entC L)) : EntRow w v L :=
  RowIn.of_owns entC_len (by omega) hn h (fun _ _ => rfl)

/-- What is left of a row behind its first ones. -/
theorem EntRow.drop {w : World} {a : Option Addr} {n cap l : Nat} {pre L : List (Int × Int)} (hl : pre.length = l) (h : EntRow w (.slice a n cap) (pre ++ L)) :
    EntRow w (.slice (if cap = l then a else a.map (·.add (l * 2))) (n - l) (cap - l)) L := by
  subst hl
  obtain ⟨p', cap', h0, h1, h2, h3⟩ := h
  simp only [Value.slice.injEq] at h0
  obtain ⟨rfl, rfl, rfl⟩ := h0
  rw [List.length_append] at h1 ⊢
  refine ⟨_, _, by rw [Nat.add_sub_cancel_left], by omega, by omega, fun hL => ?_⟩
  have hpos : 0 < L.length := List.length_pos_iff.2 hL
  obtain ⟨g, o, rfl, h4⟩ := h3 (by simp [hL])
  rw [if_neg (by omega)]
  refine ⟨g, o + pre.length * 2, by simp [WideShapes.add_plain], fun i x hx => ?_⟩
  obtain ⟨cs, rfl, h6⟩ := h4 (pre.length + i) x (by rw [List.getElem?_append_right (by omega), Nat.add_sub_cancel_left]; exact hx)
  refine ⟨_, rfl, fun j u hj => ?_⟩
  have := h6 j u hj
  rwa [show o + (pre.length + i) * 2 + j = o + pre.length * 2 + i * 2 + j by omega] at this

/-- What turned: two blocks at the most, and new ones. -/
structure Touch (p : Nat) (b : Option Nat) (w w' : World) : Prop where
  os : w'.os = w.os
  tape : w'.tape = w.tape
  output : w'.output = w.output
  size : w.heap.size ≤ w'.heap.size
  block : ∀ k, k < w.heap.size → k ≠ p → some k ≠ b → w'.heap[k]? = w.heap[k]?

theorem Touch.of_later {p : Nat} {b : Option Nat} {w w' : World} (h : Later w w') : Touch p b w w' := ⟨h.os, h.tape, h.output, h.size, fun k hk _ _ => h.block k hk⟩

/-- One of the two at the start, or none, or a new block. -/
def Same (w : World) (b b' : Option Nat) : Prop := b' = b ∨ b' = none ∨ ∃ k, b' = some k ∧ w.heap.size ≤ k

theorem Touch.trans {p : Nat} {b b' : Option Nat} {w1 w2 w3 : World} (h : Touch p b w1 w2) (h' : Touch p b' w2 w3) (hb : Same w1 b b') : Touch p b w1 w3 := by
  refine ⟨h'.os.trans h.os, h'.tape.trans h.tape, h'.output.trans h.output, Nat.le_trans h.size h'.size, fun k hk hp hkb => ?_⟩
  rw [h'.block k (Nat.lt_of_lt_of_le hk h.size) hp ?_, h.block k hk hp hkb]
  rcases hb with rfl | rfl | ⟨j, rfl, hj⟩
  · exact hkb
  · simp
  · intro e
    simp only [Option.some.injEq] at e
    omega

theorem Same.trans {w1 w2 : World} {a b c : Option Nat} (h : Same w1 a b) (h' : Same w2 b c) (hs : w1.heap.size ≤ w2.heap.size) : Same w1 a c := by
  rcases h' with rfl | rfl | ⟨k, rfl, hk⟩
  · exact h
  · exact .inr (.inl rfl)
  · exact .inr (.inr ⟨k, rfl, by omega⟩)

theorem Touch.below {n0 p : Nat} {b : Option Nat} {w w' : World} (h : Touch p b w w') (hn : n0 ≤ w.heap.size) (hp : n0 ≤ p) (hb : ∀ k, b = some k → n0 ≤ k) : Below n0 w w' :=
  ⟨h.os, h.tape, h.output, h.size, fun k hk => h.block k (by omega) (by omega) (fun e => by have := hb k e.symm; omega)⟩

theorem Touch.cell {p : Nat} {b : Option Nat} {w w' : World} (h : Touch p b w w') {a : Addr} {v : Value} (hc : w.cell? a = some v) (hp : a.block ≠ p) (hb : some a.block ≠ b) : w'.cell? a = some v := by
  have hlt := block_of_cell hc
  unfold World.cell? at hc ⊢
  rw [h.block a.block hlt hp hb]
  exact hc

theorem Touch.heap {p : Nat} {b : Option Nat} {w w' : World} (h : Touch p b w w') {k : Nat} {o : Obj} (hc : w.heap[k]? = some o) (hp : k ≠ p) (hb : some k ≠ b) : w'.heap[k]? = some o := by
  rw [h.block k (lt_block hc) hp hb]; exact hc

theorem Touch.owns {p : Nat} {b : Option Nat} {w w' : World} (h : Touch p b w w') {base : Nat} {e : TypeId} {size : Nat} {v : Value} {n : Nat} {xs : List Value} (ho : w.ownsRow base e size v n xs) (hp : v.ownBlock ≠ some p) (hb : v.ownBlock = none ∨ v.ownBlock ≠ b) : w'.ownsRow base e size v n xs := by
  refine ⟨ho.1, ?_⟩
  rcases ho.2 with hn | ⟨g, cap, cur, rfl, hbg, hg, rest⟩
  · exact .inl hn
  · refine .inr ⟨g, cap, cur, rfl, hbg, h.heap hg (fun e => hp (by rw [← e]; rfl)) ?_, rest⟩
    rcases hb with hb | hb
    · cases hb
    · exact hb

/-- A ring at a block of its own, with a row of its own: what is gone of it, and what waits. -/
def RingAt (n0 : Nat) (w : World) (p : Nat) (b : Option Nat) (L : List (Int × Int)) (N : Nat) : Prop :=
  ∃ (v : Value) (pre : List (Int × Int)), n0 ≤ p ∧ w.heap[p]? = some (.cells #[v, .int .i64 (pre.length : Nat)] 47) ∧ v.ownBlock = b ∧ (pre ++ L).length ≤ N ∧
    w.ownsRow n0 31 2 v (pre ++ L).length (flatC entC (pre ++ L))

theorem owns_not {w : World} {base p : Nat} {e : TypeId} {size : Nat} {v : Value} {n : Nat} {xs : List Value} {cs : Array Value} {t : TypeId} (h : w.ownsRow base e size v n xs) (hp : w.heap[p]? = some (.cells cs t)) (ht : t ≠ e) : v.ownBlock ≠ some p := by
  rcases h.2 with ⟨rfl, -⟩ | ⟨g, cap, cur, rfl, -, hg, -⟩
  · simp [Value.ownBlock]
  · simp only [Value.ownBlock]
    intro e1
    cases e1
    rw [hp] at hg
    simp at hg
    exact ht hg.2

theorem RingAt.not_own {n0 : Nat} {w : World} {p : Nat} {b : Option Nat} {L : List (Int × Int)} {N : Nat} (h : RingAt n0 w p b L N) : b ≠ some p := by
  obtain ⟨v, pre, h1, h2, rfl, h4, h5⟩ := h
  exact owns_not h5 h2 (by decide)

theorem RingAt.ge {n0 : Nat} {w : World} {p : Nat} {b : Option Nat} {L : List (Int × Int)} {N : Nat} (h : RingAt n0 w p b L N) : n0 ≤ p ∧ (∀ k, b = some k → n0 ≤ k) ∧ p < w.heap.size ∧ ∀ k, b = some k → k < w.heap.size := by
  obtain ⟨v, pre, h1, h2, rfl, h4, h5⟩ := h
  exact ⟨h1, fun k hk => (h5.lt k hk).1, lt_block h2, fun k hk => (h5.lt k hk).2⟩

theorem RingAt.len {n0 : Nat} {w : World} {p : Nat} {b : Option Nat} {L : List (Int × Int)} {N : Nat} (h : RingAt n0 w p b L N) : L.length ≤ N := by
  obtain ⟨v, pre, h1, h2, rfl, h4, h5⟩ := h
  rw [List.length_append] at h4
  omega

theorem RingAt.more {n0 : Nat} {w : World} {p : Nat} {b : Option Nat} {L : List (Int × Int)} {N M : Nat} (h : RingAt n0 w p b L N) (hNM : N ≤ M) : RingAt n0 w p b L M := by
  obtain ⟨v, pre, h1, h2, h3, h4, h5⟩ := h
  exact ⟨v, pre, h1, h2, h3, by omega, h5⟩

theorem RingAt.later {n0 : Nat} {w w' : World} {p : Nat} {b : Option Nat} {L : List (Int × Int)} {N : Nat} (h : RingAt n0 w p b L N) (hl : Later w w') : RingAt n0 w' p b L N := by
  obtain ⟨v, pre, h1, h2, h3, h4, h5⟩ := h
  exact ⟨v, pre, h1, heap_later hl h2, h3, h4, ownsC_later h5 hl⟩

theorem owns_set {w : World} {base : Nat} {e : TypeId} {size : Nat} {v : Value} {n : Nat} {xs : List Value} (h : w.ownsRow base e size v n xs) {B : Nat} (hB : v.ownBlock ≠ some B) (j : Nat) (u : Value) : (w.setCell ⟨B, j, none⟩ u).ownsRow base e size v n xs := by
  refine ⟨h.1, ?_⟩
  rcases h.2 with hn | ⟨g, cap, cur, rfl, hb, hg, rest⟩
  · exact .inl hn
  · refine .inr ⟨g, cap, cur, rfl, hb, set_kept hg (fun e => hB (by rw [e]; rfl)), rest⟩

/-- A store into a block that is neither the ring's nor its row's. -/
theorem RingAt.set {n0 : Nat} {w : World} {p : Nat} {b : Option Nat} {L : List (Int × Int)} {N : Nat} (h : RingAt n0 w p b L N) {B : Nat} (hp : B ≠ p) (hb : b ≠ some B) (j : Nat) (u : Value) : RingAt n0 (w.setCell ⟨B, j, none⟩ u) p b L N := by
  obtain ⟨v, pre, h1, h2, rfl, h4, h5⟩ := h
  exact ⟨v, pre, h1, set_kept h2 hp, rfl, h4, owns_set h5 hb j u⟩

theorem Touch.set {p : Nat} {b : Option Nat} {w w' : World} (h : Touch p b w w') {B : Nat} (hB : B = p ∨ w.heap.size ≤ B) (j : Nat) (u : Value) : Touch p b w (w'.setCell ⟨B, j, none⟩ u) := by
  refine ⟨h.os, h.tape, h.output, ?_, fun k hk hp hkb => ?_⟩
  · show _ ≤ (w'.heap.modify B _).size
    rw [Array.size_modify]; exact h.size
  · show (w'.heap.modify B _)[k]? = _
    rw [Array.getElem?_modify, if_neg (by omega)]
    exact h.block k hk hp hkb

theorem Touch.later {p : Nat} {b : Option Nat} {w w1 w2 : World} (h : Touch p b w w1) (hl : Later w1 w2) : Touch p b w w2 := h.trans (Touch.of_later (b := b) hl) (.inl rfl)

theorem Touch.grown {p : Nat} {b : Option Nat} {w w1 w2 : World} {r : Option Nat} (h : Touch p b w w1) (hg : w1.grownBy w2 r) (hr : r = b ∨ r = none ∨ ∃ k, r = some k ∧ w.heap.size ≤ k) : Touch p b w w2 := by
  refine ⟨hg.os.trans h.os, hg.tape.trans h.tape, hg.output.trans h.output, Nat.le_trans h.size hg.size, fun k hk hp hkb => ?_⟩
  rw [hg.block k (Nat.lt_of_lt_of_le hk h.size) ?_, h.block k hk hp hkb]
  rcases hr with rfl | rfl | ⟨j, rfl, hj⟩
  · exact hkb
  · simp
  · intro e
    simp only [Option.some.injEq] at e
    omega

/-- Another ring's call leaves this one as it was. -/
theorem RingAt.touch {n0 : Nat} {w w' : World} {p q : Nat} {b c : Option Nat} {L : List (Int × Int)} {N : Nat} (h : RingAt n0 w p b L N) (ht : Touch q c w w') (hpq : p ≠ q) (hpc : some p ≠ c) (hbq : b ≠ some q) (hbc : b = none ∨ b ≠ c) : RingAt n0 w' p b L N := by
  obtain ⟨v, pre, h1, h2, rfl, h4, h5⟩ := h
  exact ⟨v, pre, h1, ht.heap h2 hpq hpc, rfl, h4, ht.owns h5 hbq hbc⟩

theorem RingAt.base {n0 m0 : Nat} {w : World} {p : Nat} {b : Option Nat} {L : List (Int × Int)} {N : Nat} (h : RingAt n0 w p b L N) (hm : m0 ≤ n0) : RingAt m0 w p b L N := by
  obtain ⟨v, pre, h1, h2, h3, h4, h5⟩ := h
  refine ⟨v, pre, by omega, h2, h3, h4, h5.1, ?_⟩
  rcases h5.2 with hn | ⟨g, cap, cur, hv, hb, rest⟩
  · exact .inl hn
  · exact .inr ⟨g, cap, cur, hv, by omega, rest⟩

/-- The newest of an address, of entries, the eldest first. -/
def lastF (L : List (Int × Int)) (a : Int) : Option Int := (L.reverse.find? (fun x => x.1 == a)).map (·.2)
def lastV : Option Int → Value
  | some v => .tuple #[.int .i64 v, .bool true]
  | none => .tuple #[.int .i64 0, .bool false]

theorem lastF_snoc (L : List (Int × Int)) (x : Int × Int) (a : Int) : lastF (L ++ [x]) a = if x.1 = a then some x.2 else lastF L a := by
  unfold lastF
  rw [List.reverse_append]
  show (List.find? _ (x :: L.reverse)).map (·.2) = _
  rw [List.find?_cons]
  by_cases h : x.1 = a
  · have hx : (x.1 == a) = true := by simp [h]
    rw [if_pos h, hx]; rfl
  · have hx : (x.1 == a) = false := by simp [h]
    rw [if_neg h, hx]

theorem lastF_take {L : List (Int × Int)} {i : Nat} {x : Int × Int} (h : L[i]? = some x) (a : Int) : lastF (L.take (i + 1)) a = if x.1 = a then some x.2 else lastF (L.take i) a := by
  have : L.take (i + 1) = L.take i ++ [x] := by rw [List.take_add_one, h]; rfl
  rw [this, lastF_snoc]

end Go.Proofs.Ytmfifaonbbeebaa
