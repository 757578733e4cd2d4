/-
  Rows of things of several cells in memory, by whatever things: what is read as such data has these cells; what an append leaves; what stays. Conditions: as each theorem names them.
-/
import Derived.Test.YtpnbpjhoilibcaaDoorCRow
import Derived.Test.YtpnbpjhoilibcaaDoorBoxes
import Derived.ProofKit
import Derived.Deep.Slices
import Derived.ChangeArms
import Derived.Carry
import Derived.WideShapes
import Derived.Laws.AppendOwn
import Derived.OwnWalk
import Derived.Deep.RegionLaw
namespace Go.Proofs.YtpnbpjhoilibcaaDoor
open Go.RowKit Go.ChangeShapes Go.WideShapes Go.Deep
set_option linter.unusedVariables false
set_option linter.unusedSimpArgs false

/-- A number of 64 bits. -/
def I64 (n : Int) : Prop := -9223372036854775808 ≤ n ∧ n ≤ 9223372036854775807

theorem int64_of_wf {n : Int} (h : (Lit.int .i64 n).wf = true) : I64 n := by
  have e : IntKind.i64.min = -9223372036854775808 := by decide
  simpa [Lit.wf, I64, e] using h

theorem cells_int : Tryd.prog.cellsOf 3 = 1 := by kernel_rfl

/-- A slice of things of k cells in memory. -/
def RowIn {α : Type} (k : Nat) (E : World → α → List Value → Prop) (w : World) (v : Value) (l : List α) : Prop :=
  ∃ (p : Option Addr) (cap : Nat), v = .slice p l.length cap ∧ l.length ≤ cap ∧ cap ≤ maxLen ∧
    (l ≠ [] → ∃ g o, p = some ⟨g, o, none⟩ ∧ ∀ i a, l[i]? = some a → ∃ cs : List Value, E w a cs ∧ ∀ j c, cs[j]? = some c → w.cell? ⟨g, o + i * k + j, none⟩ = some c)

theorem RowIn.lift {α : Type} {k : Nat} {E : World → α → List Value → Prop} {w w' : World} {v : Value} {l : List α} (h : RowIn k E w v l) (hE : ∀ a cs, a ∈ l → E w a cs → E w' a cs)
    (hc : ∀ (a : Addr) c, w.cell? a = some c → w'.cell? a = some c) : RowIn k E w' v l := by
  obtain ⟨p, cap, h0, h1, h2, h3⟩ := h
  refine ⟨p, cap, h0, h1, h2, fun hn => ?_⟩
  obtain ⟨g, o, rfl, h4⟩ := h3 hn
  refine ⟨g, o, rfl, fun i a hi => ?_⟩
  obtain ⟨cs, h5, h6⟩ := h4 i a hi
  exact ⟨cs, hE a cs (List.mem_of_getElem? hi) h5, fun j c hj => hc _ _ (h6 j c hj)⟩

theorem RowIn.take {α : Type} {k : Nat} {E : World → α → List Value → Prop} {w : World} {p : Option Addr} {n cap : Nat} {l : List α} (h : RowIn k E w (.slice p n cap) l) (m : Nat) (hm : m ≤ l.length) : RowIn k E w (.slice p m cap) (l.take m) := by
  obtain ⟨p', cap', h0, h1, h2, h3⟩ := h
  cases h0
  have hl : (l.take m).length = m := by rw [List.length_take]; omega
  refine ⟨p, cap, by rw [hl], by omega, h2, fun hn => ?_⟩
  obtain ⟨g, o, rfl, h4⟩ := h3 (by rintro rfl; simp at hn)
  refine ⟨g, o, rfl, fun i a hi => h4 i a ?_⟩
  rw [List.getElem?_take] at hi
  split at hi
  · exact hi
  · cases hi

/-- A thing of the row, and its cells. -/
theorem RowIn.get {α : Type} {k : Nat} {E : World → α → List Value → Prop} {w : World} {p : Option Addr} {n cap : Nat} {l : List α} (h : RowIn k E w (.slice p n cap) l) {i : Nat} {a : α} (hi : l[i]? = some a) :
    ∃ g o cs, p = some ⟨g, o, none⟩ ∧ E w a cs ∧ ∀ j c, cs[j]? = some c → w.cell? ⟨g, o + i * k + j, none⟩ = some c := by
  obtain ⟨p', cap', h0, h1, h2, h3⟩ := h
  cases h0
  obtain ⟨g, o, rfl, h4⟩ := h3 (by rintro rfl; simp at hi)
  obtain ⟨cs, h5, h6⟩ := h4 i a hi
  exact ⟨g, o, cs, rfl, h5, h6⟩

theorem RowIn.slice {α : Type} {k : Nat} {E : World → α → List Value → Prop} {w : World} {v : Value} {l : List α} (h : RowIn k E w v l) : ∃ (p : Option Addr) (cap : Nat), v = .slice p l.length cap ∧ l.length ≤ cap ∧ cap ≤ maxLen := by
  obtain ⟨p, cap, h0, h1, h2, -⟩ := h
  exact ⟨p, cap, h0, h1, h2⟩

/-- All cells that were there are there. -/
def CellsKept (w w' : World) : Prop := ∀ (a : Addr) c, w.cell? a = some c → w'.cell? a = some c

theorem Later.kept {w w' : World} (h : Later w w') : CellsKept w w' := fun _ _ hc => cell_later hc h

theorem CellsKept.trans {a b c : World} (h : CellsKept a b) (k : CellsKept b c) : CellsKept a c := fun x v hx => k x v (h x v hx)

theorem list1 {l : List Value} (h : l.length = 1) : ∃ a, l = [a] := by
  match l, h with
  | [a], _ => exact ⟨a, rfl⟩

theorem list2 {l : List Value} (h : l.length = 2) : ∃ a b, l = [a, b] := by
  match l, h with
  | [a, b], _ => exact ⟨a, b, rfl⟩

theorem list3 {l : List Value} (h : l.length = 3) : ∃ a b c, l = [a, b, c] := by
  match l, h with
  | [a, b, c], _ => exact ⟨a, b, c, rfl⟩

theorem owns_base {w : World} {base base' : Nat} {e : TypeId} {size : Nat} {v : Value} {n : Nat} {xs : List Value} (h : w.ownsRow base e size v n xs) (hb : base' ≤ base) : w.ownsRow base' e size v n xs := by
  refine ⟨h.1, ?_⟩
  rcases h.2 with hn | ⟨g, cap, cur, hv, hg, rest⟩
  · exact .inl hn
  · exact .inr ⟨g, cap, cur, hv, by omega, rest⟩

theorem owns_cap {w : World} {base : Nat} {e : TypeId} {k : Nat} {a : Option Addr} {n cap : Nat} {xs : List Value} (h : w.ownsRow base e k (.slice a n cap) n xs) : n ≤ cap ∧ cap ≤ maxLen := by
  rcases h.2 with ⟨h3, h4⟩ | ⟨g, cap', cur, hv, -, -, hn, hm, -, -⟩
  · simp only [Value.slice.injEq] at h3
    obtain ⟨-, h5, h6⟩ := h3
    rw [h5, h6]
    exact ⟨Nat.le_refl _, by unfold maxLen; omega⟩
  · simp only [Value.slice.injEq] at hv
    obtain ⟨-, -, h6⟩ := hv
    rw [h6]
    exact ⟨hn, hm⟩

theorem owns_slice {w : World} {base : Nat} {e : TypeId} {k : Nat} {v : Value} {n : Nat} {xs : List Value} (h : w.ownsRow base e k v n xs) : ∃ p cap, v = .slice p n cap := by
  rcases h.2 with ⟨rfl, rfl⟩ | ⟨g, cap', cur, rfl, -⟩
  · exact ⟨none, 0, rfl⟩
  · exact ⟨_, _, rfl⟩

/-- What the maker of a row leaves, its readers find. -/
theorem RowIn.of_owns {α : Type} {k : Nat} {E : World → α → List Value → Prop} {f : α → List Value} (hk : ∀ x, (f x).length = k) (h0 : 0 < k) {w : World} {base : Nat} {e : TypeId} {v : Value} {l : List α} {n : Nat} (hn : l.length = n)
    (h : w.ownsRow base e k v n (flatC f l)) (hE : ∀ a ∈ l, E w a (f a)) : RowIn k E w v l := by
  subst hn
  obtain ⟨a, cap, rfl, hrow⟩ := crow_of_owns (flatC_length f k hk l) h
  obtain ⟨h1, h2⟩ := owns_cap h
  refine ⟨a, cap, rfl, h1, h2, fun hne => ?_⟩
  obtain ⟨x, l', rfl⟩ := List.exists_cons_of_ne_nil hne
  obtain ⟨g, rfl⟩ := CRow.some hk h0 hrow (i := 0) (x := x) rfl
  refine ⟨g, 0, rfl, fun i b hi => ⟨f b, hE b (List.mem_of_getElem? hi), fun j c hj => ?_⟩⟩
  have hjk : j < k := by
    rw [← hk b]
    exact (List.getElem?_eq_some_iff.1 hj).1
  have := CRow.cell hk hrow hi hjk hj
  rwa [Nat.zero_add]

theorem lt_block {w : World} {B : Nat} {o : Obj} (h : w.heap[B]? = some o) : B < w.heap.size := (Array.getElem?_eq_some_iff.1 h).1

/-- Behind an append to a row that a variable below it holds: the new row, the variable's block, and all that was there. -/
theorem after_more {a w2 w3 : World} {o : Obj} {v v' : Value} {base n m B : Nat} {e : TypeId} {k : Nat} {xs ys : List Value} {ob : Obj}
    (hl : Later a w2) (hb : a.heap.size ≤ base) (hBb : B < base) (hown : w2.ownsRow base e k v n xs) (hB : w2.heap[B]? = some ob) (hg : (w2.alloc o).grownBy w3 v.ownBlock) (hown' : w3.ownsRow base e k v' m ys) :
    Aside (w3.ownsRow base e k v' m ys ∧ Later a w3 ∧ w3.heap[B]? = some ob) := by
  have hlt := lt_block hB
  refine ⟨hown', ?_, ?_⟩
  · exact Below.grown (Below.alloc hl hl.size _) hg (by have := hl.size; simp; omega) (fun j hj => by have := (hown.lt _ hj).1; omega)
  · rw [hg.block B (by simp; omega) (fun h => by have := (hown.lt _ h.symm).1; omega), Below.heap_alloc _ _ _ hlt]; exact hB

theorem Later.setCell {a w : World} (h : Later a w) {B : Nat} (hB : a.heap.size ≤ B) (j : Nat) (v : Value) : Later a (w.setCell ⟨B, j, none⟩ v) := Below.setCell h hB v

theorem news_at (w : World) (cs : Array Value) (t : TypeId) : ∀ j u, cs.toList[j]? = some u → (w.alloc (.cells cs t)).cell? ((⟨w.heap.size, 0, none⟩ : Addr).add j) = some u := by
  intro j u h
  rw [add_plain]
  simp only [World.cell?, at_new]
  simpa using h

/-- append to a row of the call's own, as one step of a region that draws. -/
theorem step_append_own {ops : Array Oper} {o : Oper} {a : Act} {w : World} {K : Act → World → Prop} {Q : Exit → Act → World → Prop} {E : Prop} (hg : o.guard = none) (s x : Operand) (t : TypeId)
    (ho : o.op = .call { callee := .builtin .append, args := #[s, x], argTypes := #[t, t] })
    (base : Nat) (e : TypeId) (i : TypeInfo) (z : Value) (size bytes : Nat) (ht : Tryd.prog.underlying t = some (.slice e)) (hi : Tryd.prog.info? e = some i) (hz : i.zero = some z)
    (hsize : i.size = size) (hby : i.bytes = bytes) (hzs : z.cells.size = size) (hsz : 0 < size)
    (v : Value) (n : Nat) (xs : List Value) (hs : a.eval s = v) (hown : w.ownsRow base e size v n xs)
    (ad : Addr) (m c : Nat) (news : List Value) (hx : a.eval x = .slice (some ad) m c) (hl : news.length = m * size) (hnews : ∀ j u, news[j]? = some u → w.cell? (ad.add j) = some u) (h1 : ∀ u ∈ news, u.oneCell' = true)
    (h63 : n + m ≤ maxLen) (hbytes : (n + m) * bytes ≤ 140737488355328) (hbase : base ≤ w.heap.size)
    (h : ∀ v' w', w'.ownsRow base e size v' (n + m) (xs ++ news) → w.grownBy w' v.ownBlock → K (a.put o.dst v') w') :
    if Region.wanted o (yielded ops a.tmps) = true then Oper.wp Tryd.prog o a w K Q else E := by
  have hw : Region.wanted o (yielded ops a.tmps) = true := by simp [Region.wanted, hg]
  rw [if_pos hw]
  exact wp_append_own w s x t ho base e i z size bytes ht hi hz hsize hby hzs hsz v n xs hs hown ad m c news hx hl hnews h1 h63 hbytes hbase (fun v' w' h2 h3 _ => h v' w' h2 h3)

theorem news_at2 (w : World) (cs : Array Value) (t : TypeId) {n : Nat} (hn : w.heap.size = n) : ∀ j u, cs.toList[j]? = some u → (w.alloc (.cells cs t)).cell? ((⟨n, 0, none⟩ : Addr).add j) = some u := by
  subst hn
  exact news_at w cs t

theorem RowIn.map {α β : Type} {k : Nat} {E : World → α → List Value → Prop} {E' : World → β → List Value → Prop} {w : World} {v : Value} {l : List α} (h : RowIn k E w v l) (f : α → β) (hE : ∀ a cs, a ∈ l → E w a cs → E' w (f a) cs) : RowIn k E' w v (l.map f) := by
  obtain ⟨p, cap, h0, h1, h2, h3⟩ := h
  refine ⟨p, cap, by rw [List.length_map]; exact h0, by rw [List.length_map]; exact h1, h2, fun hn => ?_⟩
  obtain ⟨g, o, rfl, h4⟩ := h3 (by rintro rfl; simp at hn)
  refine ⟨g, o, rfl, fun i b hi => ?_⟩
  rw [List.getElem?_map, Option.map_eq_some_iff] at hi
  obtain ⟨a, ha, rfl⟩ := hi
  obtain ⟨cs, h5, h6⟩ := h4 i a ha
  exact ⟨cs, hE a cs (List.mem_of_getElem? ha) h5, h6⟩

/-- An append to a row of one type leaves the blocks of all others. -/
theorem other_kept {w w' : World} {base : Nat} {e : TypeId} {k : Nat} {v : Value} {n : Nat} {xs : List Value} (h : w.ownsRow base e k v n xs) (hg : w.grownBy w' v.ownBlock) {X : Nat} {ob : Obj} (hX : w.heap[X]? = some ob) (hne : ∀ cs fz, ob ≠ .cells cs e fz) : w'.heap[X]? = some ob := by
  have hlt := lt_block hX
  rw [hg.block X hlt ?_]
  · exact hX
  · rcases h.2 with ⟨rfl, -⟩ | ⟨g, cap, cur, rfl, -, hc, -⟩
    · simp [Value.ownBlock]
    · intro e'
      simp only [Value.ownBlock, Option.some.injEq] at e'
      subst e'
      rw [hX] at hc
      exact hne _ _ (Option.some.inj hc)

/-- A row of one type stays while one of another type grows. -/
theorem owns_kept {w w' : World} {base base' : Nat} {e e' : TypeId} {k k' : Nat} {v v' : Value} {n n' : Nat} {xs ys : List Value} (hee : e ≠ e') (h : w.ownsRow base e k v n xs) (h' : w.ownsRow base' e' k' v' n' ys) (hg : w.grownBy w' v.ownBlock) : w'.ownsRow base' e' k' v' n' ys := by
  obtain ⟨h1, h2⟩ := h'
  refine ⟨h1, ?_⟩
  rcases h2 with h2 | ⟨g, cap, cur, a, b, c, d⟩
  · exact Or.inl h2
  · exact Or.inr ⟨g, cap, cur, a, b, other_kept h hg c (fun cs fz e0 => hee (by cases e0; rfl)), d⟩

theorem set_kept {w : World} {B X j : Nat} {u : Value} {ob : Obj} (h : w.heap[X]? = some ob) (hne : B ≠ X) : (w.setCell ⟨B, j, none⟩ u).heap[X]? = some ob := by
  show (w.heap.modify B _)[X]? = _
  rw [Array.getElem?_modify, if_neg hne, h]

/-- Numbers. -/
def IntE (_ : World) (n : Int) (cs : List Value) : Prop := cs = [.int .i64 n] ∧ I64 n
def IntsIn (w : World) (v : Value) (L : List Int) : Prop := RowIn 1 IntE w v L
theorem IntsIn.kept {w w' : World} {v : Value} {L : List Int} (h : IntsIn w v L) (hl : CellsKept w w') : IntsIn w' v L := RowIn.lift h (fun _ _ _ h => h) hl

theorem IntsIn.get {w : World} {p : Option Addr} {n cap : Nat} {L : List Int} (h : IntsIn w (.slice p n cap) L) {i : Nat} {a : Int} (hi : L[i]? = some a) :
    ∃ g o, p = some ⟨g, o, none⟩ ∧ I64 a ∧ w.cell? ⟨g, o + i, none⟩ = some (.int .i64 a) := by
  obtain ⟨g, o, cs, rfl, ⟨rfl, h2⟩, h4⟩ := RowIn.get h hi
  refine ⟨g, o, rfl, h2, ?_⟩
  have := h4 0 _ rfl
  rwa [Nat.mul_one] at this

theorem RowIn.one {α : Type} {k : Nat} {E : World → α → List Value → Prop} {w : World} {B : Nat} {a : α} {cs : Array Value} {t : TypeId} (hB : w.heap[B]? = some (.cells cs t)) (hE : E w a cs.toList) : RowIn k E w (.slice (some ⟨B, 0, none⟩) 1 1) [a] := by
  refine ⟨some ⟨B, 0, none⟩, 1, rfl, Nat.le_refl _, by unfold maxLen; omega, fun _ => ⟨B, 0, rfl, fun i b hi => ?_⟩⟩
  have hi0 : i = 0 := by
    rcases Nat.eq_zero_or_pos i with h | h
    · exact h
    · rw [List.getElem?_eq_none (by simp; omega)] at hi; cases hi
  subst hi0
  simp at hi
  subst hi
  refine ⟨cs.toList, hE, fun j c hj => ?_⟩
  simp [World.cell?, hB]
  simpa using hj

theorem RowIn.nil {α : Type} (k : Nat) (E : World → α → List Value → Prop) (w : World) : RowIn k E w (.slice none 0 0) [] :=
  ⟨none, 0, rfl, Nat.le_refl _, by unfold maxLen; omega, by simp⟩

section
variable {H : Type} {enc : TypeId × Value → H} {W : World} {base : Nat} {spare : Nat → Bool} {held : Bool} {fuel : Nat} {cs : List Value} {y : DataW H × List MemPlace}

theorem trod_field {t : TypeId} {fs : Array Field} (ht : Tryd.prog.underlying t = some (.struct fs)) (h : DataW.trod enc Tryd.prog W base spare held fuel t cs = some y) (i ty off : Nat) {k : Nat} (hk : Tryd.prog.cellsOf ty = k) (hf : (fs[i]?).map (fun f => (f.type, f.offset)) = some (ty, off)) :
    ∃ n z, DataW.trod enc Tryd.prog W base spare held n ty ((cs.drop off).take k) = some z := by
  obtain ⟨xs, n, -, -, -, hx, hall⟩ := DataW.trod_struct ht h
  obtain ⟨f, hf1, hf2⟩ := Option.map_eq_some_iff.1 hf
  simp only [Prod.mk.injEq] at hf2
  obtain ⟨rfl, rfl⟩ := hf2
  have hi : i < fs.size := by
    rcases Nat.lt_or_ge i fs.size with h' | h'
    · exact h'
    · rw [Array.getElem?_eq_none h'] at hf1; cases hf1
  have := hall i f hf1
  rw [List.getElem?_eq_getElem (by omega), hk] at this
  exact ⟨n, _, this⟩

theorem trod_len {t : TypeId} {fs : Array Field} (ht : Tryd.prog.underlying t = some (.struct fs)) (h : DataW.trod enc Tryd.prog W base spare held fuel t cs = some y) : cs.length = Tryd.prog.cellsOf t := by
  obtain ⟨xs, n, -, -, hl, -, -⟩ := DataW.trod_struct ht h
  exact hl

/-- A slice of whatever, as it came in: if each of its things is opened, so is the slice. -/
theorem trod_row {α : Type} {t e : TypeId} {k : Nat} {E : World → α → List Value → Prop} (ht : Tryd.prog.underlying t = some (.slice e)) (hk : Tryd.prog.cellsOf e = k) (h0 : 0 < k)
    (hE : ∀ n cs z, DataW.trod enc Tryd.prog W base spare held n e cs = some z → ∃ a, E W a cs) (h : DataW.trod enc Tryd.prog W base spare held fuel t cs = some y) : ∃ v l, cs = [v] ∧ RowIn k E W v l := by
  rcases open_slice ht h with ⟨rfl, -⟩ | ⟨a, len, cap, m, n, D, Pl, rfl, -, hl, hm, hmm, -, hall⟩
  · exact ⟨_, [], rfl, none, 0, rfl, Nat.le_refl _, by simp, by simp⟩
  · have hle : len ≤ m := by rw [hmm]; split <;> omega
    rw [hk] at hall
    have hs : ∀ i, i < len → ∃ s : α, ∃ cs', W.cells? base (a.add (i * k)) k = some cs' ∧ E W s cs' := fun i hi => by
      obtain ⟨cs', h1, h2⟩ := hall i (by omega)
      obtain ⟨s, h3⟩ := hE _ _ _ h2
      exact ⟨s, cs', h1, h3⟩
    rcases Nat.eq_zero_or_pos len with rfl | hpos0
    · exact ⟨_, [], rfl, some a, cap, rfl, Nat.zero_le _, hm, by simp⟩
    have hinh : Nonempty α := let ⟨s, _⟩ := hs 0 hpos0; ⟨s⟩
    haveI : Inhabited α := Classical.inhabited_of_nonempty hinh
    obtain ⟨T, hT⟩ := choose_lt (α := α) (p := fun i s => ∃ cs', W.cells? base (a.add (i * k)) k = some cs' ∧ E W s cs') (n := len) hs
    refine ⟨_, (List.range len).map T, rfl, some a, cap, by simp, by simpa using hl, hm, fun hne => ?_⟩
    have hpos : 0 < len := by
      rcases Nat.eq_zero_or_pos len with h' | h'
      · subst h'; simp at hne
      · exact h'
    have hspot : a.spot = none := by
      obtain ⟨cs', h1, -⟩ := hall 0 (by omega)
      obtain ⟨-, hlen, hc⟩ := World.cells?_some h1
      have hlt : 0 < cs'.length := by omega
      have hc0 := hc 0 h0
      rw [List.getElem?_eq_getElem hlt] at hc0
      have := World.cell?_spot hc0
      obtain ⟨g, o, s⟩ := a
      unfold Addr.add at this
      split at this <;> simp_all
    obtain ⟨g, o, s⟩ := a
    simp only at hspot
    subst hspot
    refine ⟨g, o, rfl, fun i x hx => ?_⟩
    simp only [List.getElem?_map, Option.map_eq_some_iff] at hx
    obtain ⟨j, hj, rfl⟩ := hx
    have hi : i < len := by
      rcases Nat.lt_or_ge i len with h' | h'
      · exact h'
      · rw [List.getElem?_eq_none (by simpa using h')] at hj; cases hj
    rw [List.getElem?_range hi] at hj
    cases hj
    obtain ⟨cs', h1, h2⟩ := hT i hi
    refine ⟨cs', h2, fun j c hj => ?_⟩
    obtain ⟨-, hlen, hc⟩ := World.cells?_some h1
    have hjk : j < k := by
      rcases Nat.lt_or_ge j k with h' | h'
      · exact h'
      · rw [List.getElem?_eq_none (by omega)] at hj; cases hj
    have := hc j hjk
    rw [add_plain, add_plain] at this
    rw [this]; exact hj

end

end Go.Proofs.YtpnbpjhoilibcaaDoor
