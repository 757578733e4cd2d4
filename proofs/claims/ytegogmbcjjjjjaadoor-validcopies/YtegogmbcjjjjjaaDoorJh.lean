/-
  What palingbook.Pick returns: a number from 0 to m less 1; memory is as it was. Conditions: the number is of 64 bits, m is 1 to 10000000.
  Rows of things of several cells in memory: what their makers leave and their readers find, and that it stays so. Conditions: as each theorem names them.
  Rows of things of several cells in memory, by whatever things: what is read as such data has these cells; what an append leaves; what stays. Conditions: as each theorem names them.
  What the statements' own makers of operands and labels return: register, plain, memory, label. Nothing that was in memory turns. Conditions: the numbers are of 64 bits; as each theorem names them.
  How arguments lie in memory: an operand, an instruction with its labels, a slice of texts. What is read as such data has these cells. Conditions: none.
  What is wanted of an instruction's thirteen cells and of a raw act's five, and what the statements' own maker of instructions makes of a raw act. Nothing runs here. Conditions: none.
  A block of thirteen cells behind a store of one of them. Conditions: none.
  What the document's own comparison of two slices of texts, and the library's slices.Equal, return: whether they are the same, text by text. Nothing that was in memory turns. Conditions: both are slices of texts in memory.
  What the document's own copy of an instruction returns: the same fields, and labels of its own, the same texts. Nothing that was in memory turns. Conditions: its labels are a slice of at most 1000 texts in memory.
  A region that draws its order, whose operations only read, and whose callees leave all that was in memory as it was: walked once, in the order of the text, over the class of the later worlds. Conditions: as each theorem names them.
-/
import Derived.Test.YtegogmbcjjjjjaaDoorJa
import Derived.ProofKit
import Derived.Deep.Slices
import Derived.ChangeArms
import Derived.Carry
import Derived.WideShapes
import Derived.Laws.AppendOwn
import Derived.OwnWalk
import Derived.Deep.RegionLaw
import Derived.Test.YtegogmbcjjjjjaaDoorJd
import Derived.RegionTactic
import Derived.Deep.CutRange
import Derived.Laws.BytesArg
import Derived.Deep.AppendLies
import Derived.Deep.Quiet
import Derived.Deep.QuietTactic
import Derived.BigQuiet
namespace Go.Proofs.YtegogmbcjjjjjaaDoor
open Go.RowKit
set_option linter.unusedVariables false

def pick (n m : Int) : Int := n % m

theorem pick_any (n m : Int) (hn : -9223372036854775808 ≤ n ∧ n ≤ 9223372036854775807) (hm : 0 < m ∧ m ≤ 10000000) (w : World) :
    Calls Tryd.prog 34 #[.int .i64 n, .int .i64 m] w fun e w' => e = .returned (.int .i64 (pick n m)) ∧ w' = w := by
  have h0 : (m == 0) = false := by simp; omega
  have h1 : (m == -1) = false := by simp; omega
  have e1 : (n.tmod m = n % m ∧ 0 ≤ n % m) ∨ (n.tmod m = n % m - m) := by
    rw [Int.tmod_eq_emod]
    have a : (m.natAbs : Int) = m := by omega
    have := Int.emod_nonneg n (show m ≠ 0 by omega)
    split
    · left; omega
    · right; omega
  have b1 := Int.emod_nonneg n (show m ≠ 0 by omega)
  have b2 := Int.emod_lt_of_pos n hm.1
  unfold pick
  by_cases h : n.tmod m < 0
  · have e2 : n % m = n.tmod m + m := by omega
    have e3 : n.tmod m + m < 10000000 ∧ 0 ≤ n.tmod m + m := by omega
    rw [e2]
    clear e1 e2 b1 b2
    go_enter Tryd.func34, Tryd.ntmps34
    go_wp2
    go_ret
    exact ⟨rfl, rfl⟩
  · have e2 : n % m = n.tmod m := by omega
    rw [e2]
    clear e1 e2 b1 b2
    go_enter Tryd.func34, Tryd.ntmps34
    go_wp2
    go_ret
    exact ⟨rfl, rfl⟩

theorem pick_nat (n : Int) (m : Nat) (hm : 0 < m) : ∃ k : Nat, pick n m = k ∧ k < m := by
  have h1 := Int.emod_nonneg n (show (m : Int) ≠ 0 by omega)
  have h2 := Int.emod_lt_of_pos n (show (0 : Int) < m by omega)
  exact ⟨(n % m).toNat, by unfold pick; omega, by omega⟩

end Go.Proofs.YtegogmbcjjjjjaaDoor

namespace Go.Proofs.YtegogmbcjjjjjaaDoor
open Go.RowKit
set_option linter.unusedVariables false

/-- Cells that stand one after another in a block, for their readers. -/
def CRow (w : World) (a : Option Addr) (xs : List Value) : Prop := ∀ j u, xs[j]? = some u → ∃ g, a = some ⟨g, 0, none⟩ ∧ w.cell? ⟨g, j, none⟩ = some u

theorem CRow.later {w w' : World} {a : Option Addr} {xs : List Value} (h : CRow w a xs) (hl : Later w w') : CRow w' a xs := fun j u hj =>
  let ⟨g, e, hc⟩ := h j u hj
  ⟨g, e, cell_later hc hl⟩

theorem CRow.nil (w : World) (a : Option Addr) : CRow w a [] := fun j u hj => by simp at hj

theorem ownsC_later {w w' : World} {base : Nat} {e : TypeId} {size : Nat} {v : Value} {n : Nat} {xs : List Value} (h : w.ownsRow base e size v n xs) (hl : Later w w') : w'.ownsRow base e size v n xs := by
  obtain ⟨h1, h2⟩ := h
  refine ⟨h1, ?_⟩
  rcases h2 with h2 | ⟨g, cap, cur, a, b, c, d⟩
  · exact .inl h2
  · exact .inr ⟨g, cap, cur, a, b, (hl.block _ (lt_of_block c)).trans c, d⟩

/-- What the maker of a row leaves, its readers find. -/
theorem crow_of_owns {w : World} {base : Nat} {e : TypeId} {k : Nat} {v : Value} {n : Nat} {xs : List Value} (hx : xs.length = n * k) (h : w.ownsRow base e k v n xs) : ∃ a cap, v = .slice a n cap ∧ CRow w a xs := by
  obtain ⟨h1, h2⟩ := h
  have hh : w.ownsRow base e k v n xs := ⟨h1, h2⟩
  rcases h2 with ⟨rfl, h0⟩ | ⟨g, cap, cur, rfl, hb, hc, hn, hm, hs, ht⟩
  · subst h0
    obtain rfl : xs = [] := List.length_eq_zero_iff.1 (by omega)
    exact ⟨none, 0, rfl, CRow.nil _ _⟩
  · refine ⟨some ⟨g, 0, none⟩, cap, rfl, fun j u hj => ⟨g, rfl, ?_⟩⟩
    have hlt : j < n * k := by rw [← hx]; exact (List.getElem?_eq_some_iff.1 hj).1
    rw [hh.cellAt j hlt]
    exact hj

/-- Behind an append: the new row, and all that was there. -/
theorem after_app {w w2 w3 : World} {o : Obj} {v v' : Value} {base : Nat} {et : TypeId} {sz n m : Nat} {xs ys : List Value}
    (hlw : Later w w2) (hb : w.heap.size ≤ base) (hown : w2.ownsRow base et sz v n xs) (hg : (w2.alloc o).grownBy w3 v.ownBlock) (hown' : w3.ownsRow base et sz v' m ys) :
    Aside (w3.ownsRow base et sz v' m ys ∧ Later w w3 ∧ ∀ k ob, k < base → w2.heap[k]? = some ob → w3.heap[k]? = some ob) := by
  refine ⟨hown', ?_, fun k ob hk h => ?_⟩
  · exact Below.grown (Below.alloc hlw hlw.size _) hg (by have := hlw.size; simp; omega) (fun j hj => by have := (hown.lt _ hj).1; omega)
  · have hlt := lt_of_block h
    rw [hg.block k (by simp; omega) (fun h => by have := (hown.lt _ h.symm).1; omega), Below.heap_alloc _ _ _ hlt]; exact h

/-- The cells of things, one after another. -/
def flatC {α : Type} (f : α → List Value) (L : List α) : List Value := L.flatMap f

theorem flatC_append {α : Type} (f : α → List Value) (A B : List α) : flatC f (A ++ B) = flatC f A ++ flatC f B := by simp [flatC]
theorem flatC_one {α : Type} (f : α → List Value) (x : α) : flatC f [x] = f x := by simp [flatC]
theorem flatC_length {α : Type} (f : α → List Value) (k : Nat) (hk : ∀ x, (f x).length = k) : ∀ L : List α, (flatC f L).length = L.length * k
  | [] => by simp [flatC]
  | x :: L => by
    have : flatC f (x :: L) = f x ++ flatC f L := rfl
    rw [this, List.length_append, flatC_length f k hk L, List.length_cons, hk, Nat.succ_mul, Nat.add_comm]

theorem flatC_get {α : Type} (f : α → List Value) (n : Nat) (hn : ∀ x, (f x).length = n) : ∀ (L : List α) (i : Nat) (x : α), L[i]? = some x → ∀ k, k < n → (flatC f L)[i * n + k]? = (f x)[k]?
  | [], i, x, h => by simp at h
  | y :: L, 0, x, h => fun k hk => by
    simp only [List.getElem?_cons_zero, Option.some.injEq] at h
    subst h
    show (f y ++ flatC f L)[0 * n + k]? = _
    rw [List.getElem?_append_left (by rw [hn]; omega)]
    simp
  | y :: L, i + 1, x, h => fun k hk => by
    simp only [List.getElem?_cons_succ] at h
    show (f y ++ flatC f L)[(i + 1) * n + k]? = _
    rw [List.getElem?_append_right (by rw [hn, Nat.succ_mul]; omega), ← flatC_get f n hn L i x h k hk, hn]
    congr 1
    rw [Nat.succ_mul]; omega

/-- The k-th cell of the i-th thing. -/
theorem CRow.cell {α : Type} {f : α → List Value} {n : Nat} (hn : ∀ x, (f x).length = n) {w : World} {g : Nat} {L : List α} (h : CRow w (some ⟨g, 0, none⟩) (flatC f L)) {i : Nat} {x : α} (hx : L[i]? = some x) {k : Nat} {u : Value} (hk : k < n) (hu : (f x)[k]? = some u) :
    w.cell? ⟨g, i * n + k, none⟩ = some u := by
  obtain ⟨g', e, c⟩ := h (i * n + k) u (by rw [flatC_get f n hn L i x hx k hk]; exact hu)
  cases e
  exact c

theorem CRow.some {α : Type} {f : α → List Value} {n : Nat} (hn : ∀ x, (f x).length = n) (h0 : 0 < n) {w : World} {a : Option Addr} {L : List α} (h : CRow w a (flatC f L)) {i : Nat} {x : α} (hx : L[i]? = some x) : ∃ g, a = some ⟨g, 0, none⟩ := by
  obtain ⟨u, hu⟩ : ∃ u, (f x)[0]? = Option.some u := ⟨_, List.getElem?_eq_getElem (by rw [hn]; exact h0)⟩
  obtain ⟨g, e, _⟩ := h (i * n + 0) u (by rw [flatC_get f n hn L i x hx 0 h0]; exact hu)
  exact ⟨g, e⟩

end Go.Proofs.YtegogmbcjjjjjaaDoor

namespace Go.Proofs.YtegogmbcjjjjjaaDoor
open Go.RowKit Go.ChangeShapes Go.WideShapes Go.Deep
set_option linter.unusedVariables false
set_option linter.unusedSimpArgs false

/-- A number of 64 bits. -/
def I64 (n : Int) : Prop := -9223372036854775808 ≤ n ∧ n ≤ 9223372036854775807

theorem int64_of_wf {n : Int} (h : (Lit.int .i64 n).wf = true) : I64 n := by
  have e : IntKind.i64.min = -9223372036854775808 := by decide
  simpa [Lit.wf, I64, e] using h

theorem cells_int : Tryd.prog.cellsOf 3 = 1 := by kernel_rfl

/-- A slice of things of k cells in memory. -/
def RowIn {α : Type} (k : Nat) (E : World → α → List Value → Prop) (w : World) (v : Value) (l : List α) : Prop :=
  ∃ (p : Option Addr) (cap : Nat), v = .slice p l.length cap ∧ l.length ≤ cap ∧ cap ≤ maxLen ∧
    (l ≠ [] → ∃ g o, p = some ⟨g, o, none⟩ ∧ ∀ i a, l[i]? = some a → ∃ cs : List Value, E w a cs ∧ ∀ j c, cs[j]? = some c → w.cell? ⟨g, o + i * k + j, none⟩ = some c)

theorem RowIn.lift {α : Type} {k : Nat} {E : World → α → List Value → Prop} {w w' : World} {v : Value} {l : List α} (h : RowIn k E w v l) (hE : ∀ a cs, a ∈ l → E w a cs → E w' a cs)
    (hc : ∀ (a : Addr) c, w.cell? a = some c → w'.cell? a = some c) : RowIn k E w' v l := by
  obtain ⟨p, cap, h0, h1, h2, h3⟩ := h
  refine ⟨p, cap, h0, h1, h2, fun hn => ?_⟩
  obtain ⟨g, o, rfl, h4⟩ := h3 hn
  refine ⟨g, o, rfl, fun i a hi => ?_⟩
  obtain ⟨cs, h5, h6⟩ := h4 i a hi
  exact ⟨cs, hE a cs (List.mem_of_getElem? hi) h5, fun j c hj => hc _ _ (h6 j c hj)⟩

theorem RowIn.take {α : Type} {k : Nat} {E : World → α → List Value → Prop} {w : World} {p : Option Addr} {n cap : Nat} {l : List α} (h : RowIn k E w (.slice p n cap) l) (m : Nat) (hm : m ≤ l.length) : RowIn k E w (.slice p m cap) (l.take m) := by
  obtain ⟨p', cap', h0, h1, h2, h3⟩ := h
  cases h0
  have hl : (l.take m).length = m := by rw [List.length_take]; omega
  refine ⟨p, cap, by rw [hl], by omega, h2, fun hn => ?_⟩
  obtain ⟨g, o, rfl, h4⟩ := h3 (by rintro rfl; simp at hn)
  refine ⟨g, o, rfl, fun i a hi => h4 i a ?_⟩
  rw [List.getElem?_take] at hi
  split at hi
  · exact hi
  · cases hi

/-- A thing of the row, and its cells. -/
theorem RowIn.get {α : Type} {k : Nat} {E : World → α → List Value → Prop} {w : World} {p : Option Addr} {n cap : Nat} {l : List α} (h : RowIn k E w (.slice p n cap) l) {i : Nat} {a : α} (hi : l[i]? = some a) :
    ∃ g o cs, p = some ⟨g, o, none⟩ ∧ E w a cs ∧ ∀ j c, cs[j]? = some c → w.cell? ⟨g, o + i * k + j, none⟩ = some c := by
  obtain ⟨p', cap', h0, h1, h2, h3⟩ := h
  cases h0
  obtain ⟨g, o, rfl, h4⟩ := h3 (by rintro rfl; simp at hi)
  obtain ⟨cs, h5, h6⟩ := h4 i a hi
  exact ⟨g, o, cs, rfl, h5, h6⟩

theorem RowIn.slice {α : Type} {k : Nat} {E : World → α → List Value → Prop} {w : World} {v : Value} {l : List α} (h : RowIn k E w v l) : ∃ (p : Option Addr) (cap : Nat), v = .slice p l.length cap ∧ l.length ≤ cap ∧ cap ≤ maxLen := by
  obtain ⟨p, cap, h0, h1, h2, -⟩ := h
  exact ⟨p, cap, h0, h1, h2⟩

/-- All cells that were there are there. -/
def CellsKept (w w' : World) : Prop := ∀ (a : Addr) c, w.cell? a = some c → w'.cell? a = some c

theorem Later.kept {w w' : World} (h : Later w w') : CellsKept w w' := fun _ _ hc => cell_later hc h

theorem CellsKept.trans {a b c : World} (h : CellsKept a b) (k : CellsKept b c) : CellsKept a c := fun x v hx => k x v (h x v hx)

theorem list1 {l : List Value} (h : l.length = 1) : ∃ a, l = [a] := by
  match l, h with
  | [a], _ => exact ⟨a, rfl⟩

theorem list2 {l : List Value} (h : l.length = 2) : ∃ a b, l = [a, b] := by
  match l, h with
  | [a, b], _ => exact ⟨a, b, rfl⟩

theorem list3 {l : List Value} (h : l.length = 3) : ∃ a b c, l = [a, b, c] := by
  match l, h with
  | [a, b, c], _ => exact ⟨a, b, c, rfl⟩

theorem owns_base {w : World} {base base' : Nat} {e : TypeId} {size : Nat} {v : Value} {n : Nat} {xs : List Value} (h : w.ownsRow base e size v n xs) (hb : base' ≤ base) : w.ownsRow base' e size v n xs := by
  refine ⟨h.1, ?_⟩
  rcases h.2 with hn | ⟨g, cap, cur, hv, hg, rest⟩
  · exact .inl hn
  · exact .inr ⟨g, cap, cur, hv, by omega, rest⟩

theorem owns_cap {w : World} {base : Nat} {e : TypeId} {k : Nat} {a : Option Addr} {n cap : Nat} {xs : List Value} (h : w.ownsRow base e k (.slice a n cap) n xs) : n ≤ cap ∧ cap ≤ maxLen := by
  rcases h.2 with ⟨h3, h4⟩ | ⟨g, cap', cur, hv, -, -, hn, hm, -, -⟩
  · simp only [Value.slice.injEq] at h3
    obtain ⟨-, h5, h6⟩ := h3
    rw [h5, h6]
    exact ⟨Nat.le_refl _, by unfold maxLen; omega⟩
  · simp only [Value.slice.injEq] at hv
    obtain ⟨-, -, h6⟩ := hv
    rw [h6]
    exact ⟨hn, hm⟩

theorem owns_slice {w : World} {base : Nat} {e : TypeId} {k : Nat} {v : Value} {n : Nat} {xs : List Value} (h : w.ownsRow base e k v n xs) : ∃ p cap, v = .slice p n cap := by
  rcases h.2 with ⟨rfl, rfl⟩ | ⟨g, cap', cur, rfl, -⟩
  · exact ⟨none, 0, rfl⟩
  · exact ⟨_, _, rfl⟩

/-- What the maker of a row leaves, its readers find. -/
theorem RowIn.of_owns {α : Type} {k : Nat} {E : World → α → List Value → Prop} {f : α → List Value} (hk : ∀ x, (f x).length = k) (h0 : 0 < k) {w : World} {base : Nat} {e : TypeId} {v : Value} {l : List α} {n : Nat} (hn : l.length = n)
    (h : w.ownsRow base e k v n (flatC f l)) (hE : ∀ a ∈ l, E w a (f a)) : RowIn k E w v l := by
  subst hn
  obtain ⟨a, cap, rfl, hrow⟩ := crow_of_owns (flatC_length f k hk l) h
  obtain ⟨h1, h2⟩ := owns_cap h
  refine ⟨a, cap, rfl, h1, h2, fun hne => ?_⟩
  obtain ⟨x, l', rfl⟩ := List.exists_cons_of_ne_nil hne
  obtain ⟨g, rfl⟩ := CRow.some hk h0 hrow (i := 0) (x := x) rfl
  refine ⟨g, 0, rfl, fun i b hi => ⟨f b, hE b (List.mem_of_getElem? hi), fun j c hj => ?_⟩⟩
  have hjk : j < k := by
    rw [← hk b]
    exact (List.getElem?_eq_some_iff.1 hj).1
  have := CRow.cell hk hrow hi hjk hj
  rwa [Nat.zero_add]

theorem lt_block {w : World} {B : Nat} {o : Obj} (h : w.heap[B]? = some o) : B < w.heap.size := (Array.getElem?_eq_some_iff.1 h).1

/-- Behind an append to a row that a variable below it holds: the new row, the variable's block, and all that was there. -/
theorem after_more {a w2 w3 : World} {o : Obj} {v v' : Value} {base n m B : Nat} {e : TypeId} {k : Nat} {xs ys : List Value} {ob : Obj}
    (hl : Later a w2) (hb : a.heap.size ≤ base) (hBb : B < base) (hown : w2.ownsRow base e k v n xs) (hB : w2.heap[B]? = some ob) (hg : (w2.alloc o).grownBy w3 v.ownBlock) (hown' : w3.ownsRow base e k v' m ys) :
    Aside (w3.ownsRow base e k v' m ys ∧ Later a w3 ∧ w3.heap[B]? = some ob) := by
  have hlt := lt_block hB
  refine ⟨hown', ?_, ?_⟩
  · exact Below.grown (Below.alloc hl hl.size _) hg (by have := hl.size; simp; omega) (fun j hj => by have := (hown.lt _ hj).1; omega)
  · rw [hg.block B (by simp; omega) (fun h => by have := (hown.lt _ h.symm).1; omega), Below.heap_alloc _ _ _ hlt]; exact hB

theorem Later.setCell {a w : World} (h : Later a w) {B : Nat} (hB : a.heap.size ≤ B) (j : Nat) (v : Value) : Later a (w.setCell ⟨B, j, none⟩ v) := Below.setCell h hB v

theorem news_at (w : World) (cs : Array Value) (t : TypeId) : ∀ j u, cs.toList[j]? = some u → (w.alloc (.cells cs t)).cell? ((⟨w.heap.size, 0, none⟩ : Addr).add j) = some u := by
  intro j u h
  rw [add_plain]
  simp only [World.cell?, at_new]
  simpa using h

/-- append to a row of the call's own, as one step of a region that draws. -/
theorem step_append_own {ops : Array Oper} {o : Oper} {a : Act} {w : World} {K : Act → World → Prop} {Q : Exit → Act → World → Prop} {E : Prop} (hg : o.guard = none) (s x : Operand) (t : TypeId)
    (ho : o.op = .call { callee := .builtin .append, args := #[s, x], argTypes := #[t, t] })
    (base : Nat) (e : TypeId) (i : TypeInfo) (z : Value) (size bytes : Nat) (ht : Tryd.prog.underlying t = some (.slice e)) (hi : Tryd.prog.info? e = some i) (hz : i.zero = some z)
    (hsize : i.size = size) (hby : i.bytes = bytes) (hzs : z.cells.size = size) (hsz : 0 < size)
    (v : Value) (n : Nat) (xs : List Value) (hs : a.eval s = v) (hown : w.ownsRow base e size v n xs)
    (ad : Addr) (m c : Nat) (news : List Value) (hx : a.eval x = .slice (some ad) m c) (hl : news.length = m * size) (hnews : ∀ j u, news[j]? = some u → w.cell? (ad.add j) = some u) (h1 : ∀ u ∈ news, u.oneCell' = true)
    (h63 : n + m ≤ maxLen) (hbytes : (n + m) * bytes ≤ 140737488355328) (hbase : base ≤ w.heap.size)
    (h : ∀ v' w', w'.ownsRow base e size v' (n + m) (xs ++ news) → w.grownBy w' v.ownBlock → K (a.put o.dst v') w') :
    if Region.wanted o (yielded ops a.tmps) = true then Oper.wp Tryd.prog o a w K Q else E := by
  have hw : Region.wanted o (yielded ops a.tmps) = true := by simp [Region.wanted, hg]
  rw [if_pos hw]
  exact wp_append_own w s x t ho base e i z size bytes ht hi hz hsize hby hzs hsz v n xs hs hown ad m c news hx hl hnews h1 h63 hbytes hbase (fun v' w' h2 h3 _ => h v' w' h2 h3)

theorem news_at2 (w : World) (cs : Array Value) (t : TypeId) {n : Nat} (hn : w.heap.size = n) : ∀ j u, cs.toList[j]? = some u → (w.alloc (.cells cs t)).cell? ((⟨n, 0, none⟩ : Addr).add j) = some u := by
  subst hn
  exact news_at w cs t

theorem RowIn.map {α β : Type} {k : Nat} {E : World → α → List Value → Prop} {E' : World → β → List Value → Prop} {w : World} {v : Value} {l : List α} (h : RowIn k E w v l) (f : α → β) (hE : ∀ a cs, a ∈ l → E w a cs → E' w (f a) cs) : RowIn k E' w v (l.map f) := by
  obtain ⟨p, cap, h0, h1, h2, h3⟩ := h
  refine ⟨p, cap, by rw [List.length_map]; exact h0, by rw [List.length_map]; exact h1, h2, fun hn => ?_⟩
  obtain ⟨g, o, rfl, h4⟩ := h3 (by rintro rfl; simp at hn)
  refine ⟨g, o, rfl, fun i b hi => ?_⟩
  rw [List.getElem?_map, Option.map_eq_some_iff] at hi
  obtain ⟨a, ha, rfl⟩ := hi
  obtain ⟨cs, h5, h6⟩ := h4 i a ha
  exact ⟨cs, hE a cs (List.mem_of_getElem? ha) h5, h6⟩

/-- An append to a row of one type leaves the blocks of all others. -/
theorem other_kept {w w' : World} {base : Nat} {e : TypeId} {k : Nat} {v : Value} {n : Nat} {xs : List Value} (h : w.ownsRow base e k v n xs) (hg : w.grownBy w' v.ownBlock) {X : Nat} {ob : Obj} (hX : w.heap[X]? = some ob) (hne : ∀ cs fz, ob ≠ .cells cs e fz) : w'.heap[X]? = some ob := by
  have hlt := lt_block hX
  rw [hg.block X hlt ?_]
  · exact hX
  · rcases h.2 with ⟨rfl, -⟩ | ⟨g, cap, cur, rfl, -, hc, -⟩
    · simp [Value.ownBlock]
    · intro e'
      simp only [Value.ownBlock, Option.some.injEq] at e'
      subst e'
      rw [hX] at hc
      exact hne _ _ (Option.some.inj hc)

/-- A row of one type stays while one of another type grows. -/
theorem owns_kept {w w' : World} {base base' : Nat} {e e' : TypeId} {k k' : Nat} {v v' : Value} {n n' : Nat} {xs ys : List Value} (hee : e ≠ e') (h : w.ownsRow base e k v n xs) (h' : w.ownsRow base' e' k' v' n' ys) (hg : w.grownBy w' v.ownBlock) : w'.ownsRow base' e' k' v' n' ys := by
  obtain ⟨h1, h2⟩ := h'
  refine ⟨h1, ?_⟩
  rcases h2 with h2 | ⟨g, cap, cur, a, b, c, d⟩
  · exact Or.inl h2
  · exact Or.inr ⟨g, cap, cur, a, b, other_kept h hg c (fun cs fz e0 => hee (by cases e0; rfl)), d⟩

theorem set_kept {w : World} {B X j : Nat} {u : Value} {ob : Obj} (h : w.heap[X]? = some ob) (hne : B ≠ X) : (w.setCell ⟨B, j, none⟩ u).heap[X]? = some ob := by
  show (w.heap.modify B _)[X]? = _
  rw [Array.getElem?_modify, if_neg hne, h]

section
variable {H : Type} {enc : TypeId × Value → H} {W : World} {base : Nat} {spare : Nat → Bool} {held : Bool} {fuel : Nat} {cs : List Value} {y : DataW H × List MemPlace}

theorem trod_field {t : TypeId} {fs : Array Field} (ht : Tryd.prog.underlying t = some (.struct fs)) (h : DataW.trod enc Tryd.prog W base spare held fuel t cs = some y) (i ty off : Nat) {k : Nat} (hk : Tryd.prog.cellsOf ty = k) (hf : (fs[i]?).map (fun f => (f.type, f.offset)) = some (ty, off)) :
    ∃ n z, DataW.trod enc Tryd.prog W base spare held n ty ((cs.drop off).take k) = some z := by
  obtain ⟨xs, n, -, -, -, hx, hall⟩ := DataW.trod_struct ht h
  obtain ⟨f, hf1, hf2⟩ := Option.map_eq_some_iff.1 hf
  simp only [Prod.mk.injEq] at hf2
  obtain ⟨rfl, rfl⟩ := hf2
  have hi : i < fs.size := by
    rcases Nat.lt_or_ge i fs.size with h' | h'
    · exact h'
    · rw [Array.getElem?_eq_none h'] at hf1; cases hf1
  have := hall i f hf1
  rw [List.getElem?_eq_getElem (by omega), hk] at this
  exact ⟨n, _, this⟩

theorem trod_len {t : TypeId} {fs : Array Field} (ht : Tryd.prog.underlying t = some (.struct fs)) (h : DataW.trod enc Tryd.prog W base spare held fuel t cs = some y) : cs.length = Tryd.prog.cellsOf t := by
  obtain ⟨xs, n, -, -, hl, -, -⟩ := DataW.trod_struct ht h
  exact hl

/-- A slice of whatever, as it came in: if each of its things is opened, so is the slice. -/
theorem trod_row {α : Type} {t e : TypeId} {k : Nat} {E : World → α → List Value → Prop} (ht : Tryd.prog.underlying t = some (.slice e)) (hk : Tryd.prog.cellsOf e = k) (h0 : 0 < k)
    (hE : ∀ n cs z, DataW.trod enc Tryd.prog W base spare held n e cs = some z → ∃ a, E W a cs) (h : DataW.trod enc Tryd.prog W base spare held fuel t cs = some y) : ∃ v l, cs = [v] ∧ RowIn k E W v l := by
  rcases open_slice ht h with ⟨rfl, -⟩ | ⟨a, len, cap, m, n, D, Pl, rfl, -, hl, hm, hmm, -, hall⟩
  · exact ⟨_, [], rfl, none, 0, rfl, Nat.le_refl _, by simp, by simp⟩
  · have hle : len ≤ m := by rw [hmm]; split <;> omega
    rw [hk] at hall
    have hs : ∀ i, i < len → ∃ s : α, ∃ cs', W.cells? base (a.add (i * k)) k = some cs' ∧ E W s cs' := fun i hi => by
      obtain ⟨cs', h1, h2⟩ := hall i (by omega)
      obtain ⟨s, h3⟩ := hE _ _ _ h2
      exact ⟨s, cs', h1, h3⟩
    rcases Nat.eq_zero_or_pos len with rfl | hpos0
    · exact ⟨_, [], rfl, some a, cap, rfl, Nat.zero_le _, hm, by simp⟩
    have hinh : Nonempty α := let ⟨s, _⟩ := hs 0 hpos0; ⟨s⟩
    haveI : Inhabited α := Classical.inhabited_of_nonempty hinh
    obtain ⟨T, hT⟩ := choose_lt (α := α) (p := fun i s => ∃ cs', W.cells? base (a.add (i * k)) k = some cs' ∧ E W s cs') (n := len) hs
    refine ⟨_, (List.range len).map T, rfl, some a, cap, by simp, by simpa using hl, hm, fun hne => ?_⟩
    have hpos : 0 < len := by
      rcases Nat.eq_zero_or_pos len with h' | h'
      · subst h'; simp at hne
      · exact h'
    have hspot : a.spot = none := by
      obtain ⟨cs', h1, -⟩ := hall 0 (by omega)
      obtain ⟨-, hlen, hc⟩ := World.cells?_some h1
      have hlt : 0 < cs'.length := by omega
      have hc0 := hc 0 h0
      rw [List.getElem?_eq_getElem hlt] at hc0
      have := World.cell?_spot hc0
      obtain ⟨g, o, s⟩ := a
      unfold Addr.add at this
      split at this <;> simp_all
    obtain ⟨g, o, s⟩ := a
    simp only at hspot
    subst hspot
    refine ⟨g, o, rfl, fun i x hx => ?_⟩
    simp only [List.getElem?_map, Option.map_eq_some_iff] at hx
    obtain ⟨j, hj, rfl⟩ := hx
    have hi : i < len := by
      rcases Nat.lt_or_ge i len with h' | h'
      · exact h'
      · rw [List.getElem?_eq_none (by simpa using h')] at hj; cases hj
    rw [List.getElem?_range hi] at hj
    cases hj
    obtain ⟨cs', h1, h2⟩ := hT i hi
    refine ⟨cs', h2, fun j c hj => ?_⟩
    obtain ⟨-, hlen, hc⟩ := World.cells?_some h1
    have hjk : j < k := by
      rcases Nat.lt_or_ge j k with h' | h'
      · exact h'
      · rw [List.getElem?_eq_none (by omega)] at hj; cases hj
    have := hc j hjk
    rw [add_plain, add_plain] at this
    rw [this]; exact hj

end

end Go.Proofs.YtegogmbcjjjjjaaDoor

namespace Go.Proofs.YtegogmbcjjjjjaaDoor
open Go.RowKit
set_option linter.unusedVariables false
set_option linter.unusedSimpArgs false

def registerO (k : Int) : Opd := ⟨1, pick k 4, 0, 0⟩
def plainO (k n : Int) : Opd := if pick k 3 = 0 then registerO (k.tdiv 3) else ⟨2, 0, 0, n⟩
def memoryO (k : Int) : Opd :=
  if pick k 60 % 5 = 4 then ⟨4, pick k 60 / 15, pick k 60 / 5 % 3, 0⟩
  else ⟨3, 0, pick k 60 / 5 % 3, pick k 60 % 5 % (if pick k 60 / 5 % 3 = 1 then 2 else 1)⟩
/-- The text of a label. -/
def labelT (i : Nat) : ByteArray := ⟨#[108, UInt8.ofNat (48 + i / 10), UInt8.ofNat (48 + i % 10)]⟩

theorem Later.set4 {w w' : World} (h : Later w w') {B : Nat} (hB : w.heap.size ≤ B) (x y z u : Value) : Later w ((((w'.setCell ⟨B, 0, none⟩ x).setCell ⟨B, 1, none⟩ y).setCell ⟨B, 2, none⟩ z).setCell ⟨B, 3, none⟩ u) :=
  Below.setCell (Below.setCell (Below.setCell (Below.setCell h hB _) hB _) hB _) hB _

set_option maxRecDepth 1000000 in
set_option maxHeartbeats 1000000 in
theorem register_any (k : Int) (hk : I64 k) (w : World) :
    Calls Tryd.prog 35 #[.int .i64 k] w fun e w' => e = .returned (registerO k).val ∧ Later w w' := by
  have c := fun w' => pick_any k 4 hk (by omega) w'
  unfold registerO Opd.val
  generalize pick k 4 = r at *
  go_enter Tryd.func35, Tryd.ntmps35
  go_wp2_with (go_at_call 34; apply Calls.mono; (focus (with_reducible (exact c _))); rintro e w1 ⟨rfl, h1⟩; obtain rfl := h1.symm)
  refine bodyPost_ret (by simp [results, Tryd.results35, go_sem]; try rfl) rfl ⟨rfl, Later.alloc (Later.refl _) _⟩

set_option maxRecDepth 1000000 in
set_option maxHeartbeats 1000000 in
theorem plain_any (k n : Int) (hk : I64 k) (w : World) :
    Calls Tryd.prog 36 #[.int .i64 k, .int .i64 n] w fun e w' => e = .returned (plainO k n).val ∧ Later w w' := by
  have c := fun w' => pick_any k 3 hk (by omega) w'
  have hq : I64 (k.tdiv 3) := by
    have := Int.mul_tdiv_add_tmod k 3
    have h1 := Int.tmod_lt_of_pos k (show (0 : Int) < 3 by omega)
    have h2 := Int.lt_tmod_of_pos k (show (0 : Int) < 3 by omega)
    unfold I64 at *
    omega
  have cr := fun w' => register_any (k.tdiv 3) hq w'
  have L0 := Later.alloc (Later.refl w) (.cells #[.int .i64 0, .int .i64 0, .int .i64 0, .int .i64 0] 36)
  have h0 := at_new w (.cells #[.int .i64 0, .int .i64 0, .int .i64 0, .int .i64 0] 36)
  unfold plainO
  by_cases h : pick k 3 = 0
  · rw [if_pos h]
    rw [h] at c
    generalize registerO (k.tdiv 3) = o at *
    obtain ⟨ok, or, os, on⟩ := o
    unfold Opd.val at *
    unfold I64 at *
    go_enter Tryd.func36, Tryd.ntmps36
    go_wp2_with (first
      | (go_at_call 34; apply Calls.mono; (focus (with_reducible (exact c _))); rintro e w1 ⟨rfl, h1⟩; obtain rfl := h1.symm)
      | (go_at_call 35; apply Calls.mono; (focus (with_reducible (exact cr _))); rintro e w2 ⟨rfl, hl2⟩; obtain ⟨d0, d1, d2, d3, f0, f1, f2, f3⟩ := box4_facts (heap_later hl2 h0)))
    have hs := box4_stored (heap_later hl2 h0) (.int .i64 ok) (.int .i64 or) (.int .i64 os) (.int .i64 on)
    obtain ⟨r0, r1, r2, r3, -, -, -, -⟩ := box4_facts hs
    refine bodyPost_ret (by simp [results, Tryd.results36, go_sem, r0, r1, r2, r3]; try rfl) rfl ⟨rfl, ?_⟩
    exact Later.set4 (L0.trans hl2) (Nat.le_refl _) _ _ _ _
  · rw [if_neg h]
    have h' : (pick k 3 == 0) = false := by simp; exact h
    generalize pick k 3 = p at *
    unfold Opd.val
    go_enter Tryd.func36, Tryd.ntmps36
    go_wp2_with (go_at_call 34; apply Calls.mono; (focus (with_reducible (exact c _))); rintro e w1 ⟨rfl, h1⟩; obtain rfl := h1.symm)
    refine bodyPost_ret (by simp [results, Tryd.results36, go_sem]; try rfl) rfl ⟨rfl, Later.alloc (Later.refl _) _⟩

theorem memoryO_val (k : Int) : ∃ m : Nat, pick k 60 = (m : Nat) ∧ m < 60 := by
  have h := pick_nat k 60 (by omega)
  exact h

set_option maxRecDepth 1000000 in
set_option maxHeartbeats 1000000 in
theorem memory_any (k : Int) (hk : I64 k) (w : World) :
    Calls Tryd.prog 37 #[.int .i64 k] w fun e w' => e = .returned (memoryO k).val ∧ Later w w' := by
  have c := fun w' => pick_any k 60 hk (by omega) w'
  unfold memoryO
  obtain ⟨m, hm, hlt⟩ := memoryO_val k
  rw [hm] at c ⊢
  clear hm hk
  have e1 : (m : Int).tmod 5 = ((m % 5 : Nat) : Int) := by rw [Int.tmod_eq_emod_of_nonneg (by omega)]; omega
  have e2 : (m : Int).tdiv 5 = ((m / 5 : Nat) : Int) := by rw [Int.tdiv_eq_ediv_of_nonneg (by omega)]; omega
  have e3 : ((m / 5 : Nat) : Int).tmod 3 = ((m / 5 % 3 : Nat) : Int) := by rw [Int.tmod_eq_emod_of_nonneg (by omega)]; omega
  have e4 : (m : Int).tdiv 15 = ((m / 15 : Nat) : Int) := by rw [Int.tdiv_eq_ediv_of_nonneg (by omega)]; omega
  have r2 : (m : Int) / 5 % 3 = ((m / 5 % 3 : Nat) : Int) := by omega
  have r4 : (m : Int) / 15 = ((m / 15 : Nat) : Int) := by omega
  have r1 : (m : Int) % 5 = ((m % 5 : Nat) : Int) := by omega
  rw [r1, r2, r4]
  have b3 : m / 5 % 3 < 3 := by omega
  have b5 : m % 5 < 5 := by omega
  have b15 : m / 15 < 4 := by omega
  have b25 : m / 5 < 12 := by omega
  generalize m / 5 % 3 = s at *
  generalize m % 5 = p at *
  generalize m / 15 = g at *
  generalize m / 5 = q at *
  by_cases h4 : p = 4
  · subst h4
    rw [if_pos (by omega)]
    unfold Opd.val
    go_enter Tryd.func37, Tryd.ntmps37
    go_wp2_with (go_at_call 34; apply Calls.mono; (focus (with_reducible (exact c _))); rintro e w1 ⟨rfl, h1⟩; obtain rfl := h1.symm)
    refine bodyPost_ret (by simp [results, Tryd.results37, go_sem]; try rfl) rfl ⟨rfl, Later.alloc (Later.alloc (Later.refl _) _) _⟩
  · rw [if_neg (by omega)]
    have h4' : ((p : Int) == 4) = false := by simp; omega
    obtain rfl | rfl | rfl : s = 0 ∨ s = 1 ∨ s = 2 := by omega
    · have e3' : (q : Int).tmod 3 = 0 := by rw [e3]; rfl
      have f1 : (p : Int).tmod 1 = 0 := by rw [Int.tmod_eq_emod_of_nonneg (by omega)]; omega
      have f2 : (p : Int) % (if ((0 : Nat) : Int) = 1 then 2 else 1) = 0 := by simp; try omega
      rw [f2]
      clear e3 r1 r2 r4 f2
      unfold Opd.val
      go_enter Tryd.func37, Tryd.ntmps37
      go_wp2_with (go_at_call 34; apply Calls.mono; (focus (with_reducible (exact c _))); rintro e w1 ⟨rfl, h1⟩; obtain rfl := h1.symm)
      refine bodyPost_ret (by simp [results, Tryd.results37, go_sem]; try rfl) rfl ⟨rfl, Later.alloc (Later.alloc (Later.refl _) _) _⟩
    · have e3' : (q : Int).tmod 3 = 1 := by rw [e3]; rfl
      have f1 : (p : Int).tmod 2 = ((p % 2 : Nat) : Int) := by rw [Int.tmod_eq_emod_of_nonneg (by omega)]; omega
      have f2 : (p : Int) % (if ((1 : Nat) : Int) = 1 then 2 else 1) = ((p % 2 : Nat) : Int) := by simp; try omega
      rw [f2]
      clear e3 r1 r2 r4 f2
      unfold Opd.val
      go_enter Tryd.func37, Tryd.ntmps37
      go_wp2_with (go_at_call 34; apply Calls.mono; (focus (with_reducible (exact c _))); rintro e w1 ⟨rfl, h1⟩; obtain rfl := h1.symm)
      refine bodyPost_ret (by simp [results, Tryd.results37, go_sem]; try rfl) rfl ⟨rfl, Later.alloc (Later.alloc (Later.refl _) _) _⟩
    · have e3' : (q : Int).tmod 3 = 2 := by rw [e3]; rfl
      have f1 : (p : Int).tmod 1 = 0 := by rw [Int.tmod_eq_emod_of_nonneg (by omega)]; omega
      have f2 : (p : Int) % (if ((2 : Nat) : Int) = 1 then 2 else 1) = 0 := by simp; try omega
      rw [f2]
      clear e3 r1 r2 r4 f2
      unfold Opd.val
      go_enter Tryd.func37, Tryd.ntmps37
      go_wp2_with (go_at_call 34; apply Calls.mono; (focus (with_reducible (exact c _))); rintro e w1 ⟨rfl, h1⟩; obtain rfl := h1.symm)
      refine bodyPost_ret (by simp [results, Tryd.results37, go_sem]; try rfl) rfl ⟨rfl, Later.alloc (Later.alloc (Later.refl _) _) _⟩

set_option maxRecDepth 1000000 in
set_option maxHeartbeats 1000000 in
theorem label_any (i : Nat) (hi : i < 100) (w : World) :
    Calls Tryd.prog 16 #[.int .i64 i] w fun e w' => e = .returned (.string (labelT i)) ∧ Later w w' := by
  have e1 : (i : Int).tdiv 10 = ((i / 10 : Nat) : Int) := by rw [Int.tdiv_eq_ediv_of_nonneg (by omega)]; omega
  have e2 : (i : Int).tmod 10 = ((i % 10 : Nat) : Int) := by rw [Int.tmod_eq_emod_of_nonneg (by omega)]; omega
  unfold labelT
  have b1 : i / 10 < 10 := by omega
  have b2 : i % 10 < 10 := by omega
  generalize i / 10 = a at *
  generalize i % 10 = b at *
  have hcv := run_convert_bytes_arg (P := Tryd.prog) (w.alloc (.cells #[.int .u8 (48 + (a : Int)), .int .u8 (48 + (b : Int))] 5)) 73 5 Tryd.underlying73 Tryd.underlying5 w.heap.size 0 2 2 [48 + (a : Int), 48 + (b : Int)] rfl (fun j hj => by
    obtain ⟨h0, h1, -, -⟩ := box2_facts (at_new w (.cells #[.int .u8 (48 + (a : Int)), .int .u8 (48 + (b : Int))] 5))
    obtain rfl | rfl : j = 0 ∨ j = 1 := by omega
    · exact h0
    · exact h1) 9 Tryd.underlying9
  have hS : (⟨#[108]⟩ : ByteArray) ++ strOfNums [48 + (a : Int), 48 + (b : Int)] = ⟨#[108, UInt8.ofNat (48 + a), UInt8.ofNat (48 + b)]⟩ := by
    have e1 : (48 + (a : Int)).toNat = 48 + a := by omega
    have e2 : (48 + (b : Int)).toNat = 48 + b := by omega
    simp only [strOfNums, List.map_cons, List.map_nil, e1, e2]
    apply ByteArray.ext
    simp [ByteArray.data_append]
  have hZ : (strOfNums [48 + (a : Int), 48 + (b : Int)]).size = 2 := by simp [strOfNums, ByteArray.size]
  rw [← hS]
  generalize strOfNums [48 + (a : Int), 48 + (b : Int)] = S at *
  clear hS
  go_enter Tryd.func16, Tryd.ntmps16
  go_wp2
  go_ret
  exact ⟨rfl, Later.alloc (Later.refl _) _⟩

end Go.Proofs.YtegogmbcjjjjjaaDoor

namespace Go.Proofs.YtegogmbcjjjjjaaDoor
open Go.RowKit Go.ChangeShapes Go.WideShapes Go.Deep

section
variable {H : Type} {enc : TypeId × Value → H} {W : World} {base : Nat} {spare : Nat → Bool} {held : Bool} {fuel : Nat} {cs : List Value} {y : DataW H × List MemPlace}

theorem cells_int64 : Tryd.prog.cellsOf 2 = 1 := by kernel_rfl

theorem cells_bool : Tryd.prog.cellsOf 4 = 1 := by kernel_rfl

theorem cells_string : Tryd.prog.cellsOf 9 = 1 := by kernel_rfl

theorem cells_texts : Tryd.prog.cellsOf 37 = 1 := by kernel_rfl

theorem cells_opd : Tryd.prog.cellsOf 36 = 4 := by kernel_rfl

theorem cells_ins : Tryd.prog.cellsOf 39 = 13 := by kernel_rfl

/-- An operand's numbers are of 64 bits. -/
def Opd.Ok (o : Opd) : Prop := I64 o.kind ∧ I64 o.reg ∧ I64 o.sym ∧ I64 o.n
def Opd.list (o : Opd) : List Value := [.int .i64 o.kind, .int .i64 o.reg, .int .i64 o.sym, .int .i64 o.n]

theorem trod_i64 {t : TypeId} {v : Value} (ht : Tryd.prog.underlying t = some (.int .i64)) (h : DataW.trod enc Tryd.prog W base spare held fuel t [v] = some y) : ∃ n, v = .int .i64 n ∧ I64 n := by
  obtain ⟨n, h1, -, h2⟩ := DataW.trod_int ht h
  simp at h1
  exact ⟨n, h1, int64_of_wf h2⟩

theorem list4 {l : List Value} (h : l.length = 4) : ∃ a b c d, l = [a, b, c, d] := by
  match l, h with
  | [a, b, c, d], _ => exact ⟨a, b, c, d, rfl⟩

theorem list5 {l : List Value} (h : l.length = 5) : ∃ a b c d e, l = [a, b, c, d, e] := by
  match l, h with
  | [a, b, c, d, e], _ => exact ⟨a, b, c, d, e, rfl⟩

theorem list13 {l : List Value} (h : l.length = 13) : ∃ a0 a1 a2 a3 a4 a5 a6 a7 a8 a9 a10 a11 a12, l = [a0, a1, a2, a3, a4, a5, a6, a7, a8, a9, a10, a11, a12] := by
  match l, h with
  | [a0, a1, a2, a3, a4, a5, a6, a7, a8, a9, a10, a11, a12], _ => exact ⟨a0, a1, a2, a3, a4, a5, a6, a7, a8, a9, a10, a11, a12, rfl⟩

theorem trod_opd (h : DataW.trod enc Tryd.prog W base spare held fuel 36 cs = some y) : ∃ o : Opd, cs = o.list ∧ o.Ok := by
  have hl := trod_len Tryd.underlying36 h
  rw [cells_opd] at hl
  obtain ⟨c0, c1, c2, c3, rfl⟩ := list4 hl
  obtain ⟨n0, z0, h0⟩ := trod_field Tryd.underlying36 h 0 3 0 cells_int rfl
  obtain ⟨n1, z1, h1⟩ := trod_field Tryd.underlying36 h 1 3 1 cells_int rfl
  obtain ⟨n2, z2, h2⟩ := trod_field Tryd.underlying36 h 2 3 2 cells_int rfl
  obtain ⟨n3, z3, h3⟩ := trod_field Tryd.underlying36 h 3 2 3 cells_int64 rfl
  simp only [List.drop_zero, List.drop_succ_cons, List.take_succ_cons, List.take_zero] at h0 h1 h2 h3
  obtain ⟨a0, rfl, k0⟩ := trod_i64 Tryd.underlying3 h0
  obtain ⟨a1, rfl, k1⟩ := trod_i64 Tryd.underlying3 h1
  obtain ⟨a2, rfl, k2⟩ := trod_i64 Tryd.underlying3 h2
  obtain ⟨a3, rfl, k3⟩ := trod_i64 Tryd.underlying2 h3
  exact ⟨⟨a0, a1, a2, a3⟩, rfl, k0, k1, k2, k3⟩

/-- A slice of texts, as it came in. -/
theorem trod_texts (h : DataW.trod enc Tryd.prog W base spare held fuel 37 cs = some y) : ∃ v L, cs = [v] ∧ TextsIn W v L := by
  rcases open_slice1 Tryd.underlying37 cells_string h with ⟨rfl, -⟩ | ⟨a, len, cap, m, n, V, D, Pl, rfl, -, hl, hm, hmm, -, hall⟩
  · exact ⟨_, [], rfl, none, 0, rfl, Nat.le_refl _, by simp, by simp, by simp⟩
  · have hle : len ≤ m := by rw [hmm]; split <;> omega
    have hs : ∀ i, i < len → ∃ s : ByteArray, V i = .string s ∧ s.size ≤ maxLen := fun i hi => by
      obtain ⟨s, h1, -, h2⟩ := DataW.trod_string Tryd.underlying9 (hall i (by omega)).2
      simp at h1
      exact ⟨s, h1, h2⟩
    obtain ⟨T, hT⟩ := choose_lt (α := ByteArray) (p := fun i s => V i = .string s ∧ s.size ≤ maxLen) (n := len) hs
    refine ⟨_, (List.range len).map T, rfl, some a, cap, by simp, by simpa using hl, hm, ?_, ?_⟩
    · intro t ht
      obtain ⟨i, hi, rfl⟩ := List.mem_map.1 ht
      exact (hT i (by simpa using hi)).2
    · intro hne
      have h0 : 0 < len := by
        rcases Nat.eq_zero_or_pos len with h' | h'
        · subst h'; simp at hne
        · exact h'
      have hsp := World.cell?_spot (hall 0 (by omega)).1
      obtain ⟨g, o, s⟩ := a
      have hs0 : s = none := by
        have := hsp
        unfold Addr.add at this
        split at this <;> simp_all
      subst hs0
      refine ⟨g, o, rfl, fun i t ht => ?_⟩
      simp only [List.getElem?_map, Option.map_eq_some_iff] at ht
      obtain ⟨j, hj, rfl⟩ := ht
      have hi : i < len := by
        rcases Nat.lt_or_ge i len with h' | h'
        · exact h'
        · rw [List.getElem?_eq_none (by simpa using h')] at hj; cases hj
      rw [List.getElem?_range hi] at hj
      cases hj
      have := (hall i (by omega)).1
      rw [add_plain, (hT i hi).1] at this
      exact this

/-- What came in as an instruction: its numbers are of 64 bits, its name is no greater than a machine can hold. -/
structure Ins.Ok (x : Ins) : Prop where
  op : I64 x.op
  cond : I64 x.cond
  a : x.a.Ok
  b : x.b.Ok
  dest : x.dest.size ≤ maxLen

theorem trod_ins (h : DataW.trod enc Tryd.prog W base spare held fuel 39 cs = some y) : ∃ (x : Ins) (L : List ByteArray), cs = x.cells.toList ∧ x.Ok ∧ TextsIn W x.labels L := by
  have hl := trod_len Tryd.underlying39 h
  rw [cells_ins] at hl
  obtain ⟨c0, c1, c2, c3, c4, c5, c6, c7, c8, c9, c10, c11, c12, rfl⟩ := list13 hl
  obtain ⟨n0, z0, h0⟩ := trod_field Tryd.underlying39 h 0 3 0 cells_int rfl
  obtain ⟨n1, z1, h1⟩ := trod_field Tryd.underlying39 h 1 4 1 cells_bool rfl
  obtain ⟨n2, z2, h2⟩ := trod_field Tryd.underlying39 h 2 3 2 cells_int rfl
  obtain ⟨n3, z3, h3⟩ := trod_field Tryd.underlying39 h 3 36 3 cells_opd rfl
  obtain ⟨n4, z4, h4⟩ := trod_field Tryd.underlying39 h 4 36 7 cells_opd rfl
  obtain ⟨n5, z5, h5⟩ := trod_field Tryd.underlying39 h 5 9 11 cells_string rfl
  obtain ⟨n6, z6, h6⟩ := trod_field Tryd.underlying39 h 6 37 12 cells_texts rfl
  simp only [List.drop_zero, List.drop_succ_cons, List.take_succ_cons, List.take_zero] at h0 h1 h2 h3 h4 h5 h6
  obtain ⟨a0, rfl, k0⟩ := trod_i64 Tryd.underlying3 h0
  obtain ⟨a1, e1, -⟩ := DataW.trod_bool Tryd.underlying4 h1
  obtain ⟨a2, rfl, k2⟩ := trod_i64 Tryd.underlying3 h2
  obtain ⟨oa, ea, ka⟩ := trod_opd h3
  obtain ⟨ob, eb, kb⟩ := trod_opd h4
  obtain ⟨s, e5, -, k5⟩ := DataW.trod_string Tryd.underlying9 h5
  obtain ⟨v, L, e6, k6⟩ := trod_texts h6
  simp [Opd.list] at e1 ea eb e5 e6
  obtain ⟨rfl, rfl, rfl, rfl⟩ := ea
  obtain ⟨rfl, rfl, rfl, rfl⟩ := eb
  subst e1 e5 e6
  exact ⟨⟨a0, a1, a2, oa, ob, s, _⟩, L, rfl, ⟨k0, k2, ka, kb, k5⟩, k6⟩

set_option maxRecDepth 100000 in
theorem open_ins {r : Reach} {b0 : Nat} {v : Value} {d : DataW H} {p : List MemPlace} (hv : Value.okWide Tryd.prog W r b0 39 v) (h : DataW.Trod enc Tryd.prog W base spare held 39 v d p) :
    ∃ (x : Ins) (L : List ByteArray), v = x.val ∧ x.Ok ∧ TextsIn W x.labels L := by
  obtain ⟨ca, rfl, hsz⟩ := okWide_struct Tryd.underlying39 hv
  obtain ⟨fuel, hf⟩ := h
  obtain ⟨x, L, hc, h1, h2⟩ := trod_ins hf
  refine ⟨x, L, ?_, h1, h2⟩
  unfold Ins.val
  simp [Value.cells] at hc
  rw [hc]

end

end Go.Proofs.YtegogmbcjjjjjaaDoor

namespace Go.Proofs.YtegogmbcjjjjjaaDoor
open Go.RowKit
set_option linter.unusedVariables false
set_option linter.unusedSimpArgs false

/-- A raw act. -/
structure Act5 where
  kind : Int
  a : Int
  b : Int
  c : Int
  n : Int

def Act5.val (x : Act5) : Value := .agg #[.int .i64 x.kind, .int .i64 x.a, .int .i64 x.b, .int .i64 x.c, .int .i64 x.n]
/-- Its numbers are of 64 bits. -/
structure Act5.Ok (x : Act5) : Prop where
  kind : I64 x.kind
  a : I64 x.a
  b : I64 x.b
  c : I64 x.c

def nilS : Value := .slice none 0 0

/-- An instruction of two operands. -/
def twoI (op : Int) (lock : Bool) (a b : Opd) : Ins := ⟨op, lock, 0, a, b, ⟨#[]⟩, nilS⟩
def zeroO : Opd := ⟨0, 0, 0, 0⟩

/-- The instruction that is made of a raw act. -/
def insOf (x : Act5) (many : Int) : Ins :=
  match (pick x.kind 22).toNat with
  | 0 => twoI 1 false (registerO x.a) (plainO x.b x.n)
  | 1 => twoI 1 false (registerO x.a) (memoryO x.b)
  | 16 => twoI 1 false (registerO x.a) (memoryO x.b)
  | 17 => twoI 1 false (registerO x.a) (memoryO x.b)
  | 2 => twoI 1 false (memoryO x.a) (plainO x.b x.n)
  | 18 => twoI 1 false (memoryO x.a) (plainO x.b x.n)
  | 19 => twoI 1 false (memoryO x.a) (plainO x.b x.n)
  | 20 => twoI 1 false (memoryO x.a) (plainO x.b x.n)
  | 3 => twoI (2 + pick x.c 5) false (registerO x.a) (plainO x.b x.n)
  | 4 => twoI (2 + pick x.c 5) false (registerO x.a) (memoryO x.b)
  | 5 => twoI (2 + pick x.c 5) false (memoryO x.a) (plainO x.b x.n)
  | 21 => twoI (2 + pick x.c 5) false (memoryO x.a) (plainO x.b x.n)
  | 6 => twoI 7 false (registerO x.a) (memoryO x.b)
  | 7 => twoI 7 false (memoryO x.a) (plainO x.b x.n)
  | 8 => twoI 8 false (memoryO x.a) (registerO x.b)
  | 9 => twoI 9 true (memoryO x.a) (registerO x.b)
  | 10 => twoI (2 + pick x.c 5) true (memoryO x.a) (plainO x.b x.n)
  | 11 => ⟨10, false, 0, zeroO, zeroO, labelT (pick x.a many).toNat, nilS⟩
  | 12 => ⟨11, false, 1 + pick x.c 10, zeroO, zeroO, labelT (pick x.a many).toNat, nilS⟩
  | 13 => twoI 12 false zeroO zeroO
  | 14 => twoI 7 false (registerO x.a) (plainO x.b x.n)
  | _ => twoI 13 false zeroO zeroO

theorem box5_facts {w : World} {B : Nat} {a0 a1 a2 a3 a4 : Value} {t : TypeId} (h : w.heap[B]? = some (.cells #[a0, a1, a2, a3, a4] t)) :
    w.cell? ⟨B, 0, none⟩ = some a0 ∧ w.cell? ⟨B, 1, none⟩ = some a1 ∧ w.cell? ⟨B, 2, none⟩ = some a2 ∧ w.cell? ⟨B, 3, none⟩ = some a3 ∧ w.cell? ⟨B, 4, none⟩ = some a4 := by
  simp [World.cell?, h]

theorem box13_free {w : World} {B : Nat} {a0 a1 a2 a3 a4 a5 a6 a7 a8 a9 a10 a11 a12 : Value} {t : TypeId} (h : w.heap[B]? = some (.cells #[a0, a1, a2, a3, a4, a5, a6, a7, a8, a9, a10, a11, a12] t)) :
    w.frozen? ⟨B, 0, none⟩ = false ∧ w.frozen? ⟨B, 1, none⟩ = false ∧ w.frozen? ⟨B, 2, none⟩ = false ∧ w.frozen? ⟨B, 3, none⟩ = false ∧ w.frozen? ⟨B, 4, none⟩ = false ∧ w.frozen? ⟨B, 5, none⟩ = false ∧ w.frozen? ⟨B, 6, none⟩ = false ∧ w.frozen? ⟨B, 7, none⟩ = false ∧ w.frozen? ⟨B, 8, none⟩ = false ∧ w.frozen? ⟨B, 9, none⟩ = false ∧ w.frozen? ⟨B, 10, none⟩ = false ∧ w.frozen? ⟨B, 11, none⟩ = false ∧ w.frozen? ⟨B, 12, none⟩ = false := by
  simp [World.frozen?, h]

/-- Thirteen cells stored. -/
@[reducible] def store13 (w : World) (B : Nat) (a0 a1 a2 a3 a4 a5 a6 a7 a8 a9 a10 a11 a12 : Value) : World :=
  (((((((((((((w.setCell ⟨B, 0, none⟩ a0).setCell ⟨B, 1, none⟩ a1).setCell ⟨B, 2, none⟩ a2).setCell ⟨B, 3, none⟩ a3).setCell ⟨B, 4, none⟩ a4).setCell ⟨B, 5, none⟩ a5).setCell ⟨B, 6, none⟩ a6).setCell ⟨B, 7, none⟩ a7).setCell ⟨B, 8, none⟩ a8).setCell ⟨B, 9, none⟩ a9).setCell ⟨B, 10, none⟩ a10).setCell ⟨B, 11, none⟩ a11).setCell ⟨B, 12, none⟩ a12)

theorem store13_block {w : World} {B : Nat} {o0 o1 o2 o3 o4 o5 o6 o7 o8 o9 o10 o11 o12 : Value} {t : TypeId} (h : w.heap[B]? = some (.cells #[o0, o1, o2, o3, o4, o5, o6, o7, o8, o9, o10, o11, o12] t)) (a0 a1 a2 a3 a4 a5 a6 a7 a8 a9 a10 a11 a12 : Value) :
    (store13 w B a0 a1 a2 a3 a4 a5 a6 a7 a8 a9 a10 a11 a12).heap[B]? = some (.cells #[a0, a1, a2, a3, a4, a5, a6, a7, a8, a9, a10, a11, a12] t) := by
  unfold store13
  rw [setCell_block (setCell_block (setCell_block (setCell_block (setCell_block (setCell_block (setCell_block (setCell_block (setCell_block (setCell_block (setCell_block (setCell_block (setCell_block h 0 a0) 1 a1) 2 a2) 3 a3) 4 a4) 5 a5) 6 a6) 7 a7) 8 a8) 9 a9) 10 a10) 11 a11) 12 a12]
  kernel_rfl

theorem store13_later {w w' : World} (h : Later w w') {B : Nat} (hB : w.heap.size ≤ B) (a0 a1 a2 a3 a4 a5 a6 a7 a8 a9 a10 a11 a12 : Value) : Later w (store13 w' B a0 a1 a2 a3 a4 a5 a6 a7 a8 a9 a10 a11 a12) := by
  unfold store13
  exact Below.setCell (Below.setCell (Below.setCell (Below.setCell (Below.setCell (Below.setCell (Below.setCell (Below.setCell (Below.setCell (Below.setCell (Below.setCell (Below.setCell (Below.setCell h hB _) hB _) hB _) hB _) hB _) hB _) hB _) hB _) hB _) hB _) hB _) hB _) hB _

theorem setCell_other {w : World} {B C : Nat} (h : B ≠ C) (j : Nat) (v : Value) : (w.setCell ⟨C, j, none⟩ v).heap[B]? = w.heap[B]? := by
  show (w.heap.modify C _)[B]? = _
  rw [Array.getElem?_modify, if_neg (fun e => h e.symm)]

theorem store13_other {w : World} {B C : Nat} (h : B ≠ C) (a0 a1 a2 a3 a4 a5 a6 a7 a8 a9 a10 a11 a12 : Value) : (store13 w C a0 a1 a2 a3 a4 a5 a6 a7 a8 a9 a10 a11 a12).heap[B]? = w.heap[B]? := by
  unfold store13
  simp only [setCell_other h]

theorem held_of {w w' : World} {E : Nat} {k a b c n : Value} {t : TypeId} (h : Later w w') (hb : w'.heap[E]? = some (.cells #[k, a, b, c, n] t)) :
    Later w w' ∧ w'.cell? ⟨E, 0, none⟩ = some k ∧ w'.cell? ⟨E, 1, none⟩ = some a ∧ w'.cell? ⟨E, 2, none⟩ = some b ∧ w'.cell? ⟨E, 3, none⟩ = some c ∧ w'.cell? ⟨E, 4, none⟩ = some n := ⟨h, box5_facts hb⟩

theorem heap_drew {w : World} {B : Nat} {o : Obj} (h : w.heap[B]? = some o) : w.drew.heap[B]? = some o := heap_later (Later.drew (Later.refl _)) h

/-- Thirteen cells lie there. -/
def There13 (w : World) (C : Nat) : Prop := ∃ a0 a1 a2 a3 a4 a5 a6 a7 a8 a9 a10 a11 a12, w.heap[C]? = some (.cells #[a0, a1, a2, a3, a4, a5, a6, a7, a8, a9, a10, a11, a12] 39)

theorem There13.of {w : World} {C : Nat} {a0 a1 a2 a3 a4 a5 a6 a7 a8 a9 a10 a11 a12 : Value} (h : w.heap[C]? = some (.cells #[a0, a1, a2, a3, a4, a5, a6, a7, a8, a9, a10, a11, a12] 39)) : There13 w C := ⟨_, _, _, _, _, _, _, _, _, _, _, _, _, h⟩

theorem There13.later {w w' : World} {C : Nat} (h : There13 w C) (hl : Later w w') : There13 w' C := by
  obtain ⟨a0, a1, a2, a3, a4, a5, a6, a7, a8, a9, a10, a11, a12, h⟩ := h
  exact .of (heap_later hl h)

theorem There13.stored {w : World} {C : Nat} (h : There13 w C) (a0 a1 a2 a3 a4 a5 a6 a7 a8 a9 a10 a11 a12 : Value) : (store13 w C a0 a1 a2 a3 a4 a5 a6 a7 a8 a9 a10 a11 a12).heap[C]? = some (.cells #[a0, a1, a2, a3, a4, a5, a6, a7, a8, a9, a10, a11, a12] 39) := by
  obtain ⟨b0, b1, b2, b3, b4, b5, b6, b7, b8, b9, b10, b11, b12, h⟩ := h
  exact store13_block h _ _ _ _ _ _ _ _ _ _ _ _ _

/-- What a cell holds. -/
def cellAt (w : World) (C j : Nat) : Value := (w.cell? ⟨C, j, none⟩).getD .nilIface

theorem cellAt_of {w : World} {C j : Nat} {v : Value} (h : w.cell? ⟨C, j, none⟩ = some v) : w.cell? ⟨C, j, none⟩ = some (cellAt w C j) := by
  unfold cellAt
  rw [h]
  rfl

theorem held_all {w w' : World} {E C : Nat} {k a b c n : Value} {t : TypeId} (h : Later w w') (hb : w'.heap[E]? = some (.cells #[k, a, b, c, n] t)) (hc : There13 w' C) :
    Later w w' ∧ w'.cell? ⟨E, 0, none⟩ = some k ∧ w'.cell? ⟨E, 1, none⟩ = some a ∧ w'.cell? ⟨E, 2, none⟩ = some b ∧ w'.cell? ⟨E, 3, none⟩ = some c ∧ w'.cell? ⟨E, 4, none⟩ = some n ∧ w'.cell? ⟨C, 0, none⟩ = some (cellAt w' C 0) ∧ w'.cell? ⟨C, 1, none⟩ = some (cellAt w' C 1) ∧ w'.cell? ⟨C, 2, none⟩ = some (cellAt w' C 2) ∧ w'.cell? ⟨C, 3, none⟩ = some (cellAt w' C 3) ∧ w'.cell? ⟨C, 4, none⟩ = some (cellAt w' C 4) ∧ w'.cell? ⟨C, 5, none⟩ = some (cellAt w' C 5) ∧ w'.cell? ⟨C, 6, none⟩ = some (cellAt w' C 6) ∧ w'.cell? ⟨C, 7, none⟩ = some (cellAt w' C 7) ∧ w'.cell? ⟨C, 8, none⟩ = some (cellAt w' C 8) ∧ w'.cell? ⟨C, 9, none⟩ = some (cellAt w' C 9) ∧ w'.cell? ⟨C, 10, none⟩ = some (cellAt w' C 10) ∧ w'.cell? ⟨C, 11, none⟩ = some (cellAt w' C 11) ∧ w'.cell? ⟨C, 12, none⟩ = some (cellAt w' C 12) ∧ w'.frozen? ⟨C, 0, none⟩ = false ∧ w'.frozen? ⟨C, 1, none⟩ = false ∧ w'.frozen? ⟨C, 2, none⟩ = false ∧ w'.frozen? ⟨C, 3, none⟩ = false ∧ w'.frozen? ⟨C, 4, none⟩ = false ∧ w'.frozen? ⟨C, 5, none⟩ = false ∧ w'.frozen? ⟨C, 6, none⟩ = false ∧ w'.frozen? ⟨C, 7, none⟩ = false ∧ w'.frozen? ⟨C, 8, none⟩ = false ∧ w'.frozen? ⟨C, 9, none⟩ = false ∧ w'.frozen? ⟨C, 10, none⟩ = false ∧ w'.frozen? ⟨C, 11, none⟩ = false ∧ w'.frozen? ⟨C, 12, none⟩ = false := by
  obtain ⟨e0, e1, e2, e3, e4⟩ := box5_facts hb
  obtain ⟨b0, b1, b2, b3, b4, b5, b6, b7, b8, b9, b10, b11, b12, hc⟩ := hc
  obtain ⟨i0, i1, i2, i3, i4, i5, i6, i7, i8, i9, i10, i11, i12⟩ := box13_facts hc
  obtain ⟨f0, f1, f2, f3, f4, f5, f6, f7, f8, f9, f10, f11, f12⟩ := box13_free hc
  exact ⟨h, e0, e1, e2, e3, e4, cellAt_of i0, cellAt_of i1, cellAt_of i2, cellAt_of i3, cellAt_of i4, cellAt_of i5, cellAt_of i6, cellAt_of i7, cellAt_of i8, cellAt_of i9, cellAt_of i10, cellAt_of i11, cellAt_of i12, f0, f1, f2, f3, f4, f5, f6, f7, f8, f9, f10, f11, f12⟩

end Go.Proofs.YtegogmbcjjjjjaaDoor

namespace Go.Proofs.YtegogmbcjjjjjaaDoor
open Go.RowKit
set_option linter.unusedVariables false
set_option linter.unusedSimpArgs false

theorem set13_0 {w : World} {B : Nat} {a0 a1 a2 a3 a4 a5 a6 a7 a8 a9 a10 a11 a12 : Value} {t : TypeId} (h : w.heap[B]? = some (.cells #[a0, a1, a2, a3, a4, a5, a6, a7, a8, a9, a10, a11, a12] t)) (v : Value) :
    (w.setCell ⟨B, 0, none⟩ v).heap[B]? = some (.cells #[v, a1, a2, a3, a4, a5, a6, a7, a8, a9, a10, a11, a12] t) := by
  rw [setCell_block h 0 v]
  rfl

theorem set13_1 {w : World} {B : Nat} {a0 a1 a2 a3 a4 a5 a6 a7 a8 a9 a10 a11 a12 : Value} {t : TypeId} (h : w.heap[B]? = some (.cells #[a0, a1, a2, a3, a4, a5, a6, a7, a8, a9, a10, a11, a12] t)) (v : Value) :
    (w.setCell ⟨B, 1, none⟩ v).heap[B]? = some (.cells #[a0, v, a2, a3, a4, a5, a6, a7, a8, a9, a10, a11, a12] t) := by
  rw [setCell_block h 1 v]
  rfl

theorem set13_2 {w : World} {B : Nat} {a0 a1 a2 a3 a4 a5 a6 a7 a8 a9 a10 a11 a12 : Value} {t : TypeId} (h : w.heap[B]? = some (.cells #[a0, a1, a2, a3, a4, a5, a6, a7, a8, a9, a10, a11, a12] t)) (v : Value) :
    (w.setCell ⟨B, 2, none⟩ v).heap[B]? = some (.cells #[a0, a1, v, a3, a4, a5, a6, a7, a8, a9, a10, a11, a12] t) := by
  rw [setCell_block h 2 v]
  rfl

theorem set13_3 {w : World} {B : Nat} {a0 a1 a2 a3 a4 a5 a6 a7 a8 a9 a10 a11 a12 : Value} {t : TypeId} (h : w.heap[B]? = some (.cells #[a0, a1, a2, a3, a4, a5, a6, a7, a8, a9, a10, a11, a12] t)) (v : Value) :
    (w.setCell ⟨B, 3, none⟩ v).heap[B]? = some (.cells #[a0, a1, a2, v, a4, a5, a6, a7, a8, a9, a10, a11, a12] t) := by
  rw [setCell_block h 3 v]
  rfl

theorem set13_4 {w : World} {B : Nat} {a0 a1 a2 a3 a4 a5 a6 a7 a8 a9 a10 a11 a12 : Value} {t : TypeId} (h : w.heap[B]? = some (.cells #[a0, a1, a2, a3, a4, a5, a6, a7, a8, a9, a10, a11, a12] t)) (v : Value) :
    (w.setCell ⟨B, 4, none⟩ v).heap[B]? = some (.cells #[a0, a1, a2, a3, v, a5, a6, a7, a8, a9, a10, a11, a12] t) := by
  rw [setCell_block h 4 v]
  rfl

theorem set13_5 {w : World} {B : Nat} {a0 a1 a2 a3 a4 a5 a6 a7 a8 a9 a10 a11 a12 : Value} {t : TypeId} (h : w.heap[B]? = some (.cells #[a0, a1, a2, a3, a4, a5, a6, a7, a8, a9, a10, a11, a12] t)) (v : Value) :
    (w.setCell ⟨B, 5, none⟩ v).heap[B]? = some (.cells #[a0, a1, a2, a3, a4, v, a6, a7, a8, a9, a10, a11, a12] t) := by
  rw [setCell_block h 5 v]
  rfl

theorem set13_6 {w : World} {B : Nat} {a0 a1 a2 a3 a4 a5 a6 a7 a8 a9 a10 a11 a12 : Value} {t : TypeId} (h : w.heap[B]? = some (.cells #[a0, a1, a2, a3, a4, a5, a6, a7, a8, a9, a10, a11, a12] t)) (v : Value) :
    (w.setCell ⟨B, 6, none⟩ v).heap[B]? = some (.cells #[a0, a1, a2, a3, a4, a5, v, a7, a8, a9, a10, a11, a12] t) := by
  rw [setCell_block h 6 v]
  rfl

theorem set13_7 {w : World} {B : Nat} {a0 a1 a2 a3 a4 a5 a6 a7 a8 a9 a10 a11 a12 : Value} {t : TypeId} (h : w.heap[B]? = some (.cells #[a0, a1, a2, a3, a4, a5, a6, a7, a8, a9, a10, a11, a12] t)) (v : Value) :
    (w.setCell ⟨B, 7, none⟩ v).heap[B]? = some (.cells #[a0, a1, a2, a3, a4, a5, a6, v, a8, a9, a10, a11, a12] t) := by
  rw [setCell_block h 7 v]
  rfl

theorem set13_8 {w : World} {B : Nat} {a0 a1 a2 a3 a4 a5 a6 a7 a8 a9 a10 a11 a12 : Value} {t : TypeId} (h : w.heap[B]? = some (.cells #[a0, a1, a2, a3, a4, a5, a6, a7, a8, a9, a10, a11, a12] t)) (v : Value) :
    (w.setCell ⟨B, 8, none⟩ v).heap[B]? = some (.cells #[a0, a1, a2, a3, a4, a5, a6, a7, v, a9, a10, a11, a12] t) := by
  rw [setCell_block h 8 v]
  rfl

theorem set13_9 {w : World} {B : Nat} {a0 a1 a2 a3 a4 a5 a6 a7 a8 a9 a10 a11 a12 : Value} {t : TypeId} (h : w.heap[B]? = some (.cells #[a0, a1, a2, a3, a4, a5, a6, a7, a8, a9, a10, a11, a12] t)) (v : Value) :
    (w.setCell ⟨B, 9, none⟩ v).heap[B]? = some (.cells #[a0, a1, a2, a3, a4, a5, a6, a7, a8, v, a10, a11, a12] t) := by
  rw [setCell_block h 9 v]
  rfl

theorem set13_10 {w : World} {B : Nat} {a0 a1 a2 a3 a4 a5 a6 a7 a8 a9 a10 a11 a12 : Value} {t : TypeId} (h : w.heap[B]? = some (.cells #[a0, a1, a2, a3, a4, a5, a6, a7, a8, a9, a10, a11, a12] t)) (v : Value) :
    (w.setCell ⟨B, 10, none⟩ v).heap[B]? = some (.cells #[a0, a1, a2, a3, a4, a5, a6, a7, a8, a9, v, a11, a12] t) := by
  rw [setCell_block h 10 v]
  rfl

theorem set13_11 {w : World} {B : Nat} {a0 a1 a2 a3 a4 a5 a6 a7 a8 a9 a10 a11 a12 : Value} {t : TypeId} (h : w.heap[B]? = some (.cells #[a0, a1, a2, a3, a4, a5, a6, a7, a8, a9, a10, a11, a12] t)) (v : Value) :
    (w.setCell ⟨B, 11, none⟩ v).heap[B]? = some (.cells #[a0, a1, a2, a3, a4, a5, a6, a7, a8, a9, a10, v, a12] t) := by
  rw [setCell_block h 11 v]
  rfl

theorem set13_12 {w : World} {B : Nat} {a0 a1 a2 a3 a4 a5 a6 a7 a8 a9 a10 a11 a12 : Value} {t : TypeId} (h : w.heap[B]? = some (.cells #[a0, a1, a2, a3, a4, a5, a6, a7, a8, a9, a10, a11, a12] t)) (v : Value) :
    (w.setCell ⟨B, 12, none⟩ v).heap[B]? = some (.cells #[a0, a1, a2, a3, a4, a5, a6, a7, a8, a9, a10, a11, v] t) := by
  rw [setCell_block h 12 v]
  rfl

theorem Later.set {w w' : World} (h : Later w w') {B : Nat} (hB : w.heap.size ≤ B) (j : Nat) (v : Value) : Later w (w'.setCell ⟨B, j, none⟩ v) := Below.setCell h hB _

end Go.Proofs.YtegogmbcjjjjjaaDoor

namespace Go.Proofs.YtegogmbcjjjjjaaDoor
open Go.RowKit
set_option linter.unusedVariables false
set_option linter.unusedSimpArgs false

theorem take_next {L : List ByteArray} {k : Nat} {t : ByteArray} (h : L[k]? = some t) : L.take (k + 1) = L.take k ++ [t] := by
  rw [List.take_add_one, h]; rfl

theorem bytes_ne {s t : ByteArray} (h : s ≠ t) : (s.toList != t.toList) = true := by
  simp only [bne_iff_ne, ne_eq]
  intro e
  rw [ByteArray.toList_eq, ByteArray.toList_eq] at e
  exact h (ByteArray.ext (Array.toList_inj.1 e))

set_option maxRecDepth 1000000 in
set_option maxHeartbeats 4000000 in
theorem refSameTexts_any (u v : Value) (L M : List ByteArray) (w : World) (hL : TextsIn w u L) (hM : TextsIn w v M) :
    Calls Tryd.prog 40 #[u, v] w fun e w' => e = .returned (.bool (decide (L = M))) ∧ Later w w' := by
  obtain ⟨p, cap, rfl, h1, h2, h3, h4⟩ := hL
  obtain ⟨q, dap, rfl, k1, k2, k3, k4⟩ := hM
  unfold maxLen at h2 k2
  clear h3 k3
  by_cases hlen : L.length = M.length
  · have e0 : ((L.length : Int) != (M.length : Int)) = false := by simp; omega
    have hI : (M.length : Int) = (L.length : Int) := by omega
    have HH4 : Hid (L ≠ [] → ∃ g o, p = some ⟨g, o, none⟩ ∧ ∀ i t, L[i]? = some t → w.cell? ⟨g, o + i, none⟩ = some (.string t)) := h4
    have HK4 : Hid (M ≠ [] → ∃ g o, q = some ⟨g, o, none⟩ ∧ ∀ i t, M[i]? = some t → w.cell? ⟨g, o + i, none⟩ = some (.string t)) := k4
    have HLM : Hid (L.length = M.length) := hlen
    clear h4 k4 hlen hI
    go_enter Tryd.func40, Tryd.ntmps40
    go_wp2
    go_loopw [5] (fun i wr => ∃ k : Nat, i = .int .i64 k ∧ k ≤ L.length ∧ L.take k = M.take k ∧ Later w wr) (fun i _ => L.length - (intOf i).toNat)
    case atStart => exact ⟨0, rfl, Nat.zero_le _, by simp, Later.refl _⟩
    case round =>
      obtain ⟨k, rfl, hk, hT, hlw⟩ := hrel
      have HT : Hid (L.take k = M.take k) := hT
      clear hT
      by_cases hlt : k < L.length
      · obtain ⟨g, o, rfl, h5⟩ := HH4.out (by rintro rfl; simp at hlt)
        have hlm := HLM.out
        obtain ⟨g', o', rfl, k5⟩ := HK4.out (by intro h0; rw [h0, List.length_nil] at hlm; omega)
        obtain ⟨s, hs⟩ : ∃ s, L[k]? = some s := ⟨_, List.getElem?_eq_getElem hlt⟩
        obtain ⟨t, ht⟩ : ∃ t, M[k]? = some t := ⟨_, List.getElem?_eq_getElem (by omega)⟩
        have hc := cell_later (h5 k s hs) hlw
        have kc := cell_later (k5 k t ht) hlw
        have HS : Hid (L[k]? = some s) := hs
        have HU : Hid (M[k]? = some t) := ht
        have n0 : (0 : Int) ≤ k := by omega
        have n1 : (k : Int) < (L.length : Int) := by omega
        have n2 : (k : Int) < (M.length : Int) := by omega
        clear hs ht h5 k5 HH4 HK4 hlm
        rcases Decidable.em (s = t) with rfl | hne
        · go_upto_region 6 with (fail)
          go_quiet (fail)
          have hq := Later.drewN hlw nq
          go_wp2
          go_roundw
          case rel => exact ⟨k + 1, by go_num, by omega, by rw [take_next HS.out, take_next HU.out, HT.out], hq⟩
          case measure => simp [intOf]; omega
        · have hb : (s.toList == t.toList) = false := by have := bytes_ne hne; simpa using this
          go_upto_region 6 with (fail)
          go_quiet (fail)
          have hq := Later.drewN hlw nq
          go_wp2
          go_ret
          refine ⟨ret_bool ?_, hq⟩
          symm
          rw [decide_eq_false_iff_not]
          rintro rfl
          exact hne (Option.some.inj (HS.out.symm.trans HU.out))
      · go_wp2
        go_ret
        refine ⟨ret_bool ?_, hlw⟩
        symm
        rw [decide_eq_true_eq]
        have := HT.out
        rwa [List.take_of_length_le (by omega), List.take_of_length_le (by have := HLM.out; omega)] at this
  · have e0 : ((L.length : Int) != (M.length : Int)) = true := by simp; omega
    clear h4 k4
    go_enter Tryd.func40, Tryd.ntmps40
    go_wp2
    go_ret
    refine ⟨ret_bool ?_, Later.refl _⟩
    symm
    rw [decide_eq_false_iff_not]
    rintro rfl
    exact hlen rfl

set_option maxRecDepth 1000000 in
set_option maxHeartbeats 4000000 in
theorem slicesEqual_any (u v : Value) (L M : List ByteArray) (w : World) (hL : TextsIn w u L) (hM : TextsIn w v M) :
    Calls Tryd.prog 52 #[u, v] w fun e w' => e = .returned (.bool (decide (L = M))) ∧ Later w w' := by
  obtain ⟨p, cap, rfl, h1, h2, h3, h4⟩ := hL
  obtain ⟨q, dap, rfl, k1, k2, k3, k4⟩ := hM
  unfold maxLen at h2 k2
  clear h3 k3
  by_cases hlen : L.length = M.length
  · have e0 : ((L.length : Int) != (M.length : Int)) = false := by simp; omega
    have hI : (M.length : Int) = (L.length : Int) := by omega
    have HH4 : Hid (L ≠ [] → ∃ g o, p = some ⟨g, o, none⟩ ∧ ∀ i t, L[i]? = some t → w.cell? ⟨g, o + i, none⟩ = some (.string t)) := h4
    have HK4 : Hid (M ≠ [] → ∃ g o, q = some ⟨g, o, none⟩ ∧ ∀ i t, M[i]? = some t → w.cell? ⟨g, o + i, none⟩ = some (.string t)) := k4
    have HLM : Hid (L.length = M.length) := hlen
    clear h4 k4 hlen hI
    go_enter Tryd.func52, Tryd.ntmps52
    go_wp2
    go_loopw [13] (fun i wr => ∃ k : Nat, i = .int .i64 k ∧ k ≤ L.length ∧ L.take k = M.take k ∧ Later w wr) (fun i _ => L.length - (intOf i).toNat)
    case atStart => exact ⟨0, rfl, Nat.zero_le _, by simp, Later.refl _⟩
    case round =>
      obtain ⟨k, rfl, hk, hT, hlw⟩ := hrel
      have HT : Hid (L.take k = M.take k) := hT
      clear hT
      by_cases hlt : k < L.length
      · obtain ⟨g, o, rfl, h5⟩ := HH4.out (by rintro rfl; simp at hlt)
        have hlm := HLM.out
        obtain ⟨g', o', rfl, k5⟩ := HK4.out (by intro h0; rw [h0, List.length_nil] at hlm; omega)
        obtain ⟨s, hs⟩ : ∃ s, L[k]? = some s := ⟨_, List.getElem?_eq_getElem hlt⟩
        obtain ⟨t, ht⟩ : ∃ t, M[k]? = some t := ⟨_, List.getElem?_eq_getElem (by omega)⟩
        have hc := cell_later (h5 k s hs) hlw
        have kc := cell_later (k5 k t ht) hlw
        have HS : Hid (L[k]? = some s) := hs
        have HU : Hid (M[k]? = some t) := ht
        have n0 : (0 : Int) ≤ k := by omega
        have n1 : (k : Int) < (L.length : Int) := by omega
        have n2 : (k : Int) < (M.length : Int) := by omega
        clear hs ht h5 k5 HH4 HK4 hlm
        rcases Decidable.em (s = t) with rfl | hne
        · go_upto_region 6 with (fail)
          go_quiet (fail)
          have hq := Later.drewN hlw nq
          go_wp2
          go_roundw
          case rel => exact ⟨k + 1, by go_num, by omega, by rw [take_next HS.out, take_next HU.out, HT.out], hq⟩
          case measure => simp [intOf]; omega
        · have hb : (s.toList == t.toList) = false := by have := bytes_ne hne; simpa using this
          go_upto_region 6 with (fail)
          go_quiet (fail)
          have hq := Later.drewN hlw nq
          go_wp2
          go_ret
          refine ⟨ret_bool ?_, hq⟩
          symm
          rw [decide_eq_false_iff_not]
          rintro rfl
          exact hne (Option.some.inj (HS.out.symm.trans HU.out))
      · go_wp2
        go_ret
        refine ⟨ret_bool ?_, hlw⟩
        symm
        rw [decide_eq_true_eq]
        have := HT.out
        rwa [List.take_of_length_le (by omega), List.take_of_length_le (by have := HLM.out; omega)] at this
  · have e0 : ((L.length : Int) != (M.length : Int)) = true := by simp; omega
    clear h4 k4
    go_enter Tryd.func52, Tryd.ntmps52
    go_wp2
    go_ret
    refine ⟨ret_bool ?_, Later.refl _⟩
    symm
    rw [decide_eq_false_iff_not]
    rintro rfl
    exact hlen rfl

end Go.Proofs.YtegogmbcjjjjjaaDoor

namespace Go.Proofs.YtegogmbcjjjjjaaDoor
open Go.RowKit
set_option linter.unusedVariables false
set_option linter.unusedSimpArgs false

theorem infoText : (Tryd.prog.info? 9).map (fun i => (i.zero, i.size, i.bytes)) = some (some (.string ⟨#[]⟩), 1, 16) := by kernel_rfl

/-- A row of texts of one's own. -/
abbrev OwnTexts (w : World) (base : Nat) (v : Value) (L : List ByteArray) : Prop := w.ownsRow base 9 1 v L.length (L.map Value.string)

theorem OwnTexts.texts {w : World} {base : Nat} {v : Value} {L : List ByteArray} (h : OwnTexts w base v L) (hs : ∀ t ∈ L, t.size ≤ maxLen) : TextsIn w v L := by
  have hc := crow_of_owns (by simp) h
  obtain ⟨a, cap, rfl, hrow⟩ := hc
  obtain ⟨h1, h2⟩ := h
  have hcap : L.length ≤ cap ∧ cap ≤ maxLen := by
    rcases h2 with ⟨h3, h4⟩ | ⟨g, cap', cur, hv, -, -, hn, hm, -, -⟩
    · simp only [Value.slice.injEq] at h3
      obtain ⟨-, h5, h6⟩ := h3
      rw [h5, h6]
      exact ⟨Nat.le_refl _, by unfold maxLen; omega⟩
    · simp only [Value.slice.injEq] at hv
      obtain ⟨-, -, h6⟩ := hv
      rw [h6]
      exact ⟨hn, hm⟩
  refine ⟨a, cap, rfl, hcap.1, hcap.2, hs, fun hne => ?_⟩
  obtain ⟨t, T, rfl⟩ := List.exists_cons_of_ne_nil hne
  obtain ⟨g, rfl, -⟩ := hrow 0 (.string t) (by simp)
  refine ⟨g, 0, rfl, fun i u hu => ?_⟩
  obtain ⟨g', hg, hcell⟩ := hrow i (.string u) (by rw [List.getElem?_map, hu]; rfl)
  cases hg
  rw [Nat.zero_add]
  exact hcell

theorem text_cells {L : List ByteArray} : ∀ u ∈ L.map Value.string, u.oneCell' = true := by
  intro u hu
  obtain ⟨t, -, rfl⟩ := List.mem_map.1 hu
  rfl

theorem own_set13 {w : World} {base : Nat} {v : Value} {L : List ByteArray} {C : Nat} (h : OwnTexts w base v L) (hC : C < base) (j : Nat) (u : Value) : OwnTexts (w.setCell ⟨C, j, none⟩ u) base v L := ownsRow_setCell_below h hC u

set_option maxRecDepth 1000000 in
set_option maxHeartbeats 4000000 in
theorem copyIns_any (x : Ins) (L : List ByteArray) (w : World) (hL : TextsIn w x.labels L) (hn : L.length ≤ 1000) :
    Calls Tryd.prog 17 #[x.val] w fun e w' => ∃ v, e = .returned (Ins.val ⟨x.op, x.lock, x.cond, x.a, x.b, x.dest, v⟩) ∧ OwnTexts w' (w.heap.size + 2) v L ∧ Later w w' := by
  obtain ⟨op, lock, cond, ⟨ak, ar, ay, an⟩, ⟨bk, br, bs, bn⟩, dest, lb⟩ := x
  unfold Ins.val Ins.cells
  dsimp only at *
  obtain ⟨i0, hi, hz0, hz1, hz2⟩ := info_parts infoText
  have LL := Later.alloc (Later.alloc (Later.refl w) (.cells #[.int .i64 op, .bool lock, .int .i64 cond, .int .i64 ak, .int .i64 ar, .int .i64 ay, .int .i64 an, .int .i64 bk, .int .i64 br, .int .i64 bs, .int .i64 bn, .string dest, lb] 39)) (.cells #[.int .i64 0, .bool false, .int .i64 0, .int .i64 0, .int .i64 0, .int .i64 0, .int .i64 0, .int .i64 0, .int .i64 0, .int .i64 0, .int .i64 0, .string ⟨#[]⟩, .slice none 0 0] 39)
  obtain ⟨HB, HC⟩ := two_new2 w (.cells #[.int .i64 op, .bool lock, .int .i64 cond, .int .i64 ak, .int .i64 ar, .int .i64 ay, .int .i64 an, .int .i64 bk, .int .i64 br, .int .i64 bs, .int .i64 bn, .string dest, lb] 39) (.cells #[.int .i64 0, .bool false, .int .i64 0, .int .i64 0, .int .i64 0, .int .i64 0, .int .i64 0, .int .i64 0, .int .i64 0, .int .i64 0, .int .i64 0, .string ⟨#[]⟩, .slice none 0 0] 39)
  have hsz : ((w.alloc (.cells #[.int .i64 op, .bool lock, .int .i64 cond, .int .i64 ak, .int .i64 ar, .int .i64 ay, .int .i64 an, .int .i64 bk, .int .i64 br, .int .i64 bs, .int .i64 bn, .string dest, lb] 39)).alloc (.cells #[.int .i64 0, .bool false, .int .i64 0, .int .i64 0, .int .i64 0, .int .i64 0, .int .i64 0, .int .i64 0, .int .i64 0, .int .i64 0, .int .i64 0, .string ⟨#[]⟩, .slice none 0 0] 39)).heap.size = w.heap.size + 2 := by simp
  obtain ⟨p, cap, rfl, h1, h2, h3, h4⟩ := hL.later LL
  have hAC : w.heap.size ≤ w.heap.size + 1 := by omega
  clear hL h3
  go_enter Tryd.func17, Tryd.ntmps17
  go_upto_region 1 with (fail)
  generalize (w.alloc _).alloc _ = W at *
  have hA := Nat.le_refl w.heap.size
  generalize hAe : w.heap.size = A at *
  obtain ⟨b0, b1, b2, b3, b4, b5, b6, b7, b8, b9, b10, b11, b12⟩ := box13_facts HB
  obtain ⟨e0, e1, e2, e3, e4, e5, e6, e7, e8, e9, e10, e11, e12⟩ := box13_free HB
  rcases Decidable.em (L = []) with rfl | hne
  · clear h4
    cases p
    all_goals go_upto_region 2 with (fail)
    all_goals
      replace HB := set13_12 HB (.slice none 0 0)
      replace HC := (setCell_other (by omega : A + 1 ≠ A) 12 (.slice none 0 0)).trans HC
      replace LL : Later w (W.setCell ⟨A, 12, none⟩ (.slice none 0 0)) := Later.set LL (by omega) 12 (.slice none 0 0)
      generalize W.setCell ⟨A, 12, none⟩ (.slice none 0 0) = W2 at *
      have hAC : w.heap.size ≤ A + 1 := by omega
      have hown2 : OwnTexts W2 (A + 2) (.slice none 0 0) [] := World.ownsRow_nil _ _ _ _
      obtain ⟨b0, b1, b2, b3, b4, b5, b6, b7, b8, b9, b10, b11, b12⟩ := box13_facts HB
      obtain ⟨i0, i1, i2, i3, i4, i5, i6, i7, i8, i9, i10, i11, i12⟩ := box13_facts HC
      obtain ⟨f0, f1, f2, f3, f4, f5, f6, f7, f8, f9, f10, f11, f12⟩ := box13_free HC
      obtain ⟨r0, r1, r2, r3, r4, r5, r6, r7, r8, r9, r10, r11, r12⟩ := box13_facts (store13_block HC (.int .i64 op) (.bool lock) (.int .i64 cond) (.int .i64 ak) (.int .i64 ar) (.int .i64 ay) (.int .i64 an) (.int .i64 bk) (.int .i64 br) (.int .i64 bs) (.int .i64 bn) (.string dest) (.slice none 0 0))
      have hfin := store13_later LL hAC (.int .i64 op) (.bool lock) (.int .i64 cond) (.int .i64 ak) (.int .i64 ar) (.int .i64 ay) (.int .i64 an) (.int .i64 bk) (.int .i64 br) (.int .i64 bs) (.int .i64 bn) (.string dest) (.slice none 0 0)
      have hown3 : OwnTexts (store13 W2 (A + 1) (.int .i64 op) (.bool lock) (.int .i64 cond) (.int .i64 ak) (.int .i64 ar) (.int .i64 ay) (.int .i64 an) (.int .i64 bk) (.int .i64 br) (.int .i64 bs) (.int .i64 bn) (.string dest) (.slice none 0 0)) (A + 2) (.slice none 0 0) [] := by
        unfold store13
        iterate 13 refine own_set13 ?_ (by omega) _ _
        exact hown2
      unfold store13 at r0 r1 r2 r3 r4 r5 r6 r7 r8 r9 r10 r11 r12 hfin hown3
      go_wp2
      refine bodyPost_ret (by simp [results, Tryd.results17, go_sem, r0, r1, r2, r3, r4, r5, r6, r7, r8, r9, r10, r11, r12]; try rfl) rfl ⟨_, rfl, by rw [hAe]; exact hown3, hfin⟩
  · obtain ⟨g, o, rfl, h5⟩ := h4 hne
    have hpos : 0 < L.length := List.length_pos_iff.2 hne
    have hnews : ∀ j u, (L.map Value.string)[j]? = some u → W.cell? ((⟨g, o, none⟩ : Addr).add j) = some u := fun j u hu => by
      rw [List.getElem?_map, Option.map_eq_some_iff] at hu
      obtain ⟨t, ht, rfl⟩ := hu
      rw [Go.WideShapes.add_plain]
      exact h5 j t ht
    clear h4 h5
    go_upto_region 2 with (at_builtin; refine wpList_append_lies _ rfl _ _ 37 rfl (A + 2) 9 i0 (.string ⟨#[]⟩) 1 16 Tryd.underlying37 hi hz0 hz1 hz2 rfl (by decide) (.slice none 0 0) 0 [] rfl (World.ownsRow_nil _ _ _ _) ⟨g, o, none⟩ L.length cap (L.map Value.string) rfl (by simp) hnews text_cells hpos (by unfold maxLen; omega) (by omega) (by omega) W.heap.size rfl ?_; intro g' cap' w1 hown hgrow hat hlt; replace HB := (hgrow.block A (by omega) (by simp [Value.ownBlock])).trans HB; replace HC := (hgrow.block (A + 1) (by omega) (by simp [Value.ownBlock])).trans HC; replace LL := Below.grown LL hgrow (by rw [hsz, hAe]; omega) (fun j hj => by simp [Value.ownBlock] at hj); obtain ⟨b0, b1, b2, b3, b4, b5, b6, b7, b8, b9, b10, b11, b12⟩ := box13_facts HB; obtain ⟨e0, e1, e2, e3, e4, e5, e6, e7, e8, e9, e10, e11, e12⟩ := box13_free HB)
    replace HB := set13_12 HB (.slice (some ⟨g', 0, none⟩) L.length cap')
    replace HC := (setCell_other (by omega : A + 1 ≠ A) 12 (.slice (some ⟨g', 0, none⟩) L.length cap')).trans HC
    replace LL : Later w (w1.setCell ⟨A, 12, none⟩ (.slice (some ⟨g', 0, none⟩) L.length cap')) := Later.set LL (by omega) 12 (.slice (some ⟨g', 0, none⟩) L.length cap')
    have hown2 : OwnTexts w1 (A + 2) (.slice (some ⟨g', 0, none⟩) L.length cap') L := by
      have := hown
      rw [Nat.zero_add, List.nil_append] at this
      exact this
    replace hown2 := own_set13 hown2 (by omega : A < A + 2) 12 (.slice (some ⟨g', 0, none⟩) L.length cap')
    generalize w1.setCell ⟨A, 12, none⟩ (.slice (some ⟨g', 0, none⟩) L.length cap') = W2 at *
    have hAC : w.heap.size ≤ A + 1 := by omega
    obtain ⟨b0, b1, b2, b3, b4, b5, b6, b7, b8, b9, b10, b11, b12⟩ := box13_facts HB
    obtain ⟨i0, i1, i2, i3, i4, i5, i6, i7, i8, i9, i10, i11, i12⟩ := box13_facts HC
    obtain ⟨f0, f1, f2, f3, f4, f5, f6, f7, f8, f9, f10, f11, f12⟩ := box13_free HC
    obtain ⟨r0, r1, r2, r3, r4, r5, r6, r7, r8, r9, r10, r11, r12⟩ := box13_facts (store13_block HC (.int .i64 op) (.bool lock) (.int .i64 cond) (.int .i64 ak) (.int .i64 ar) (.int .i64 ay) (.int .i64 an) (.int .i64 bk) (.int .i64 br) (.int .i64 bs) (.int .i64 bn) (.string dest) (.slice (some ⟨g', 0, none⟩) L.length cap'))
    have hfin := store13_later LL hAC (.int .i64 op) (.bool lock) (.int .i64 cond) (.int .i64 ak) (.int .i64 ar) (.int .i64 ay) (.int .i64 an) (.int .i64 bk) (.int .i64 br) (.int .i64 bs) (.int .i64 bn) (.string dest) (.slice (some ⟨g', 0, none⟩) L.length cap')
    have hown3 : OwnTexts (store13 W2 (A + 1) (.int .i64 op) (.bool lock) (.int .i64 cond) (.int .i64 ak) (.int .i64 ar) (.int .i64 ay) (.int .i64 an) (.int .i64 bk) (.int .i64 br) (.int .i64 bs) (.int .i64 bn) (.string dest) (.slice (some ⟨g', 0, none⟩) L.length cap')) (A + 2) (.slice (some ⟨g', 0, none⟩) L.length cap') L := by
      unfold store13
      iterate 13 refine own_set13 ?_ (by omega) _ _
      exact hown2
    unfold store13 at r0 r1 r2 r3 r4 r5 r6 r7 r8 r9 r10 r11 r12 hfin hown3
    go_wp2
    refine bodyPost_ret (by simp [results, Tryd.results17, go_sem, r0, r1, r2, r3, r4, r5, r6, r7, r8, r9, r10, r11, r12]; try rfl) rfl ⟨_, rfl, by rw [hAe]; exact hown3, hfin⟩

end Go.Proofs.YtegogmbcjjjjjaaDoor

namespace Go.Proofs.YtegogmbcjjjjjaaDoor
open Go.RowKit

/-- A world later than W. -/
structure After (W : World) where
  world : World
  later : Later W world

theorem wp_region_later {id : Nat} {Q : Exit → Act → World → Prop} {a : Act} {w : World} {l : List Oper} (hm : Tryd.prog.follows .mixedOrders = true) (hB : Region.lexB .any l.toArray = true)
    (h : wpQuiet Tryd.prog l.toArray (fun w' => ∃ p : After w, w' = p.world) (fun a' => ∀ w', (∃ p : After w, w' = p.world) → Q .normal a' w') l a) : (Code.region id l.toArray true).wp Tryd.prog Q a w :=
  wp_region_quiet (C := fun w' => ∃ p : After w, w' = p.world) hm hB ⟨⟨w.drew, Later.drew (Later.refl w)⟩, rfl⟩ (by simpa using h)

theorem Calls.after_of {W : World} {p : After W} {f : FuncId} {args : Array Value} {v : Value} (h : Calls Tryd.prog f args p.world fun e w' => e = .returned v ∧ Later p.world w') :
    Calls Tryd.prog f args p.world fun e w'' => e = .returned v ∧ ∃ q : After W, w'' = q.world :=
  h.mono fun _ w' ⟨he, hl⟩ => ⟨he, ⟨w', p.later.trans hl⟩, rfl⟩

theorem cell_after {W : World} {a : Addr} {v : Value} (h : W.cell? a = some v) (p : After W) : p.world.cell? a = some v := cell_later h p.later

end Go.Proofs.YtegogmbcjjjjjaaDoor
