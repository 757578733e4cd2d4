/-
  Symbols that the call has made: their names, their few cells; what the plain recursions say of them; what lies in memory behind each append. Conditions: as each theorem names them.
-/
import Derived.Test.YtgkdejldpldkiaaDoorCellsAlive
import Derived.Test.YtgkdejldpldkiaaDoorManyPlain
import Derived.Test.YtgkdejldpldkiaaDoorJh
namespace Go.Proofs.YtgkdejldpldkiaaDoor
open Go.RowKit Go.WideShapes
set_option linter.unusedVariables false
set_option linter.unusedSimpArgs false

/-- Symbols of these names, of one to five cells. -/
structure Five (S : Syms) : Prop where
  is : ∀ j s, S[j]? = some s → s.1.name = nameB j ∧ 1 ≤ s.1.size ∧ s.1.size ≤ 5 ∧ (s.2.length : Int) ≤ s.1.size

theorem Five.nil : Five [] := ⟨fun j s h => by simp at h⟩
theorem Five.snoc {S : Syms} (h : Five S) {i : Nat} (hi : S.length = i) {s : Sym × List Int} (h1 : s.1.name = nameB i) (h2 : 1 ≤ s.1.size ∧ s.1.size ≤ 5 ∧ (s.2.length : Int) ≤ s.1.size) : Five (S ++ [s]) := by
  refine ⟨fun j t hj => ?_⟩
  rcases Nat.lt_or_ge j S.length with h3 | h3
  · rw [List.getElem?_append_left h3] at hj; exact h.is j t hj
  · rw [List.getElem?_append_right h3] at hj
    rcases Nat.eq_zero_or_pos (j - S.length) with h4 | h4
    · rw [h4] at hj
      simp at hj
      subst hj
      have : j = i := by omega
      subst this
      exact ⟨h1, h2⟩
    · rw [List.getElem?_eq_none (by simp; omega)] at hj; cases hj

theorem Five.fine {S : Syms} (h : Five S) (hl : S.length ≤ 65) : FineP S [] := ⟨fun s hs => by
  obtain ⟨j, hj, rfl⟩ := List.getElem_of_mem hs
  rw [(h.is j _ (List.getElem?_eq_getElem hj)).1]
  exact name_small j (by omega), fun _ h => by simp at h⟩

theorem Five.code {S : Syms} (h : Five S) (hl : S.length ≤ 64) {i : Nat} {s : Sym × List Int} (hs : S[i]? = some s) : symC (S.take i) s = 0 := by
  have hi : i < S.length := (List.getElem?_eq_some_iff.1 hs).1
  obtain ⟨h1, h2, h3, h4⟩ := h.is i s hs
  have hn : ((S.take i).any fun a => decide (a.1.name = s.1.name)) = false := by
    refine none_take (f := fun a => decide (a.1.name = s.1.name)) (by omega) (fun k z hk hz => ?_)
    have := (h.is k z hz).1
    rw [decide_eq_false_iff_not, this, h1]
    exact names_apart (by omega) hk
  unfold symC
  rw [hn, h1, names_right i (by omega)]
  simp only [Bool.true_eq_false, if_false, Bool.false_eq_true]
  rw [if_neg (by omega)]

theorem Five.syms {S : Syms} (h : Five S) (hl : S.length ≤ 64) : ∀ (m i : Nat), i + m = S.length → symsC (S.take i) (S.drop i) = 0
  | 0, i, he => by rw [List.drop_of_length_le (by omega)]; rfl
  | m + 1, i, he => by
    obtain ⟨s, hs⟩ : ∃ s, S[i]? = some s := ⟨_, List.getElem?_eq_getElem (by omega)⟩
    rw [syms_drop S i s hs, h.code hl hs, if_pos rfl]
    exact Five.syms h hl m (i + 1) (by omega)

theorem Five.check {S : Syms} (h : Five S) (hl : S.length ≤ 64) : checkC S [] = 0 := by
  unfold checkC
  rw [if_neg (by simp only [List.length_nil]; omega)]
  have := h.syms hl S.length 0 (by omega)
  simp at this
  rw [this, if_pos rfl]
  rfl

theorem Five.laid {S : Syms} (h : Five S) (hl : S.length ≤ 64) : laidF S [] = S := by unfold laidF; rw [if_pos (h.check hl)]

theorem sum_take_le {S : Syms} (h : Sized S) {d i : Nat} (hd : d ≤ i) : sumF (S.take d) ≤ sumF (S.take i) := by
  have h1 := sum_append (S.take d) ((S.take i).drop d)
  have h2 : S.take d ++ (S.take i).drop d = S.take i := by
    have := List.take_append_drop d (S.take i)
    rwa [List.take_take, Nat.min_eq_left hd] at this
  rw [h2] at h1
  have h3 := (sum_bounds (S := (S.take i).drop d) (fun z hz => h.each z (List.mem_of_mem_take (List.mem_of_mem_drop hz)))).1
  omega

/-- Each cell of a symbol is that symbol's. -/
theorem sym_of_drop {S : Syms} (h : Sized S) {i : Nat} {s : Sym × List Int} (hi : S[i]? = some s) {k : Int} (hk : 0 ≤ k ∧ k < s.1.size) :
    ∀ (m d : Nat), d + m = i → symF (S.drop d) (sumF (S.take i) - sumF (S.take d) + k) d = i
  | 0, d, he => by
    obtain rfl : d = i := by omega
    rw [sym_drop hi, if_pos (by omega)]
  | m + 1, d, he => by
    have hlt : i < S.length := (List.getElem?_eq_some_iff.1 hi).1
    obtain ⟨t, ht⟩ : ∃ t, S[d]? = some t := ⟨_, List.getElem?_eq_getElem (by omega)⟩
    have h1 := sum_next ht
    have h2 := sum_take_le h (d := d + 1) (i := i) (by omega)
    rw [sym_drop ht, if_neg (by omega)]
    have h3 := sym_of_drop h hi hk m (d + 1) (by omega)
    rw [← h3]
    congr 1
    omega

theorem sym_of {S : Syms} (h : Sized S) {i : Nat} {s : Sym × List Int} (hi : S[i]? = some s) {k : Int} (hk : 0 ≤ k ∧ k < s.1.size) : symAt S (sumF (S.take i) + k) = i := by
  have h1 := sym_of_drop h hi hk i 0 (by omega)
  have h2 := (h.sum i).1
  unfold symAt
  rw [if_neg (by omega)]
  simpa [sumF] using h1

theorem sym_end_drop {S : Syms} (h : Sized S) : ∀ (m d : Nat), d + m = S.length → symF (S.drop d) (sumF S - sumF (S.take d)) d = -1
  | 0, d, he => by rw [List.drop_of_length_le (by omega)]; rfl
  | m + 1, d, he => by
    obtain ⟨t, ht⟩ : ∃ t, S[d]? = some t := ⟨_, List.getElem?_eq_getElem (by omega)⟩
    have h1 := sum_next ht
    have h2 := sum_take_le h (d := d + 1) (i := S.length) (by omega)
    rw [List.take_length] at h2
    rw [sym_drop ht, if_neg (by omega)]
    have h3 := sym_end_drop h m (d + 1) (by omega)
    rw [← h3]
    congr 1
    omega

theorem sym_end {S : Syms} (h : Sized S) : symAt S (sumF S) = -1 := by
  have h1 := sym_end_drop h S.length 0 (by omega)
  unfold symAt
  split
  · rfl
  · simpa [sumF] using h1

theorem sym_less (S : Syms) : symAt S (-1) = -1 := by unfold symAt; rw [if_pos (by omega)]

/-- The cell that an operand of the one kind of memory tells, and of the other one. -/
theorem addr_at {S : Syms} {i : Nat} {s : Sym × List Int} (hi : S[i]? = some s) {k : Nat} (hk : (k : Int) < s.1.size) (r : Nat → Int) : addrF S ⟨3, 0, i, k⟩ r = some (sumF (S.take i) + k) := by
  have hlt : i < S.length := (List.getElem?_eq_some_iff.1 hi).1
  have h1 : opdRightF ⟨3, 0, i, k⟩ = true := by
    unfold opdRightF
    rw [decide_eq_true_eq]
    exact Or.inr (Or.inr (Or.inl ⟨rfl, by show (0 : Int) ≤ (i : Int); omega, by show (0 : Int) ≤ (k : Int); omega, rfl⟩))
  have hp : placeF ⟨3, 0, i, k⟩ r = some (k : Int) := by
    unfold placeF
    rw [if_pos h1]
    rfl
  unfold addrF
  rw [hp]
  show (if (i : Int) < (S.length : Int) ∧ 0 ≤ (k : Int) ∧ (k : Int) < sizeAt S (i : Int) then some (sumF (S.take ((i : Int)).toNat) + (k : Int)) else none) = _
  rw [size_at hi, if_pos (by omega), Int.toNat_natCast]

theorem addr_by {S : Syms} {i : Nat} {s : Sym × List Int} (hi : S[i]? = some s) {k : Nat} (hk : (k : Int) < s.1.size) {r : Nat → Int} (hr : r 3 = k) : addrF S ⟨4, 3, i, 0⟩ r = some (sumF (S.take i) + k) := by
  have hlt : i < S.length := (List.getElem?_eq_some_iff.1 hi).1
  have h1 : opdRightF ⟨4, 3, i, 0⟩ = true := by
    unfold opdRightF
    rw [decide_eq_true_eq]
    exact Or.inr (Or.inr (Or.inr ⟨rfl, by show (0 : Int) ≤ (i : Int); omega, by show (0 : Int) ≤ 3; omega, by show (3 : Int) ≤ 7; omega, rfl⟩))
  have hp : placeF ⟨4, 3, i, 0⟩ r = some (k : Int) := by
    unfold placeF
    rw [if_pos h1]
    show (if (4 : Int) = 3 then some (0 : Int) else if (4 : Int) = 4 then some (r 3) else none) = _
    rw [if_neg (by omega), if_pos rfl, hr]
  unfold addrF
  rw [hp]
  show (if (i : Int) < (S.length : Int) ∧ 0 ≤ (k : Int) ∧ (k : Int) < sizeAt S (i : Int) then some (sumF (S.take ((i : Int)).toNat) + (k : Int)) else none) = _
  rw [size_at hi, if_pos (by omega), Int.toNat_natCast]

theorem wrap_few (n : Int) (h0 : -1000 ≤ n) (h1 : n ≤ 1000000) : IntKind.i64.wrap n = n := by
  have e : ∀ n : Int, IntKind.i64.wrap n = if (true && decide (n % 18446744073709551616 ≥ 9223372036854775808)) = true then n % 18446744073709551616 - 18446744073709551616 else n % 18446744073709551616 := fun _ => rfl
  rw [e]
  by_cases h : 0 ≤ n
  · rw [if_neg (by simp; omega)]
    omega
  · rw [if_pos (by simp; omega)]
    omega

/-- Each symbol's numbers lie in a row of the call's own. -/
def IntsOwn (w : World) (base : Nat) (S : Syms) : Prop := ∀ s ∈ S, w.ownsRow base 2 1 s.1.init s.2.length (intsV s.2) ∧ ∀ a ∈ s.2, I64 a

theorem IntsOwn.nil (w : World) (base : Nat) : IntsOwn w base [] := fun s hs => by simp at hs
theorem IntsOwn.later {w w' : World} {base : Nat} {S : Syms} (h : IntsOwn w base S) (hl : Later w w') : IntsOwn w' base S := fun s hs => ⟨ownsC_later (h s hs).1 hl, (h s hs).2⟩
theorem IntsOwn.snoc {w : World} {base : Nat} {S : Syms} (h : IntsOwn w base S) {s : Sym × List Int} (h1 : w.ownsRow base 2 1 s.1.init s.2.length (intsV s.2)) (h2 : ∀ a ∈ s.2, I64 a) : IntsOwn w base (S ++ [s]) := by
  intro t ht
  rcases List.mem_append.1 ht with ht | ht
  · exact h t ht
  · simp at ht
    subst ht
    exact ⟨h1, h2⟩
theorem IntsOwn.grown {w w' : World} {base base' : Nat} {S : Syms} (h : IntsOwn w base S) {e : TypeId} {k : Nat} {v : Value} {n : Nat} {xs : List Value} (ho : w.ownsRow base' e k v n xs) (he : e ≠ 2) (hg : w.grownBy w' v.ownBlock) : IntsOwn w' base S := fun s hs =>
  ⟨owns_kept he ho (h s hs).1 hg, (h s hs).2⟩
theorem IntsOwn.set {w : World} {base B : Nat} {S : Syms} (h : IntsOwn w base S) (hB : B < base) (j : Nat) (u : Value) : IntsOwn (w.setCell ⟨B, j, none⟩ u) base S := fun s hs => ⟨ownsRow_setCell_below (h s hs).1 hB _, (h s hs).2⟩

/-- Behind one more symbol. -/
theorem after_five {w w2 w3 : World} {base i : Nat} {v v' : Value} {S : Syms} {s : Sym × List Int} {a b : Value} {o : Obj}
    (hl : Later w w2) (hbase : base = w.heap.size + 1) (hown : w2.ownsRow base 47 3 v i (flatC symCells S)) (hB : w2.heap[w.heap.size]? = some (.cells #[a, b] 27)) (hI : IntsOwn w2 base (S ++ [s]))
    (hg : (w2.alloc o).grownBy w3 v.ownBlock) (hown' : w3.ownsRow base 47 3 v' (i + 1) (flatC symCells S ++ symCells s)) :
    Aside (Later w w3 ∧ w3.heap[w.heap.size]? = some (.cells #[a, b] 27) ∧ w3.ownsRow base 47 3 v' (i + 1) (flatC symCells (S ++ [s])) ∧ IntsOwn w3 base (S ++ [s])) := by
  have LA := Later.alloc (Later.refl w2) o
  have hown2 := hown.alloc o
  refine ⟨?_, ?_, ?_, ?_⟩
  · exact Below.grown (Below.alloc hl hl.size _) hg (by have := hl.size; simp; omega) (fun j hj => by have := (hown.lt _ hj).1; omega)
  · exact other_kept hown2 hg (heap_later LA hB) (fun cs fz e0 => by cases e0)
  · rw [flatC_append, flatC_one]; exact hown'
  · exact (hI.later LA).grown hown2 (by decide) hg

theorem five_row {w : World} {base : Nat} {v : Value} {S : Syms} {i : Nat} (hs : Five S) (hi : S.length = i) (hl : i ≤ 64) (ho : w.ownsRow base 47 3 v i (flatC symCells S)) (hI : IntsOwn w base S) : SymRow w v S :=
  RowIn.of_owns (f := symCells) symCells_len (by omega) hi ho (fun s hm => by
    obtain ⟨h1, h2⟩ := hI s hm
    obtain ⟨j, hj, rfl⟩ := List.getElem_of_mem hm
    obtain ⟨h5, h6, h7, -⟩ := hs.is j _ (List.getElem?_eq_getElem hj)
    refine ⟨rfl, ?_, ?_, ?_⟩
    · rw [h5]; have := name_small j (by omega); unfold maxLen; omega
    · unfold I64; omega
    · exact ints_of_owns rfl h1 h2)

end Go.Proofs.YtgkdejldpldkiaaDoor
