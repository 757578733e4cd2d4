/-
  Many symbols and threads that the call has made: what lies in memory behind each append, and what the plain recursions say of them. Conditions: as each theorem names them.
-/
import Derived.Test.YtegogmbcjjjjjaaDoorJl
import Derived.Test.YtegogmbcjjjjjaaDoorRefText
import Derived.Deep.RegionLaw
namespace Go.Proofs.YtegogmbcjjjjjaaDoor
open Go.RowKit Go.WideShapes
set_option linter.unusedVariables false
set_option linter.unusedSimpArgs false

/-- The names. -/
def nameB (i : Nat) : ByteArray := ⟨#[115]⟩ ++ txt (i : Int)
def nameL (i : Nat) : List UInt8 := 115 :: (if i < 10 then [UInt8.ofNat (48 + i)] else [UInt8.ofNat (48 + i / 10), UInt8.ofNat (48 + i % 10)])

theorem name_list {i : Nat} (h : i < 65) : (nameB i).data.toList = nameL i := by
  unfold nameB nameL
  rw [byte_list, txt_list, show Lib.itoa (i : Int) = Lib.decDigits i from Lib.itoa_nonneg i]
  congr 1
  by_cases h10 : i < 10
  · rw [if_pos h10, Lib.decDigits_one h10]
  · rw [if_neg h10, dec_big h10, Lib.decDigits_one (by omega)]
    rfl

def nameC (i : Nat) : ByteArray := ⟨(nameL i).toArray⟩
theorem name_eq {i : Nat} (h : i < 65) : nameB i = nameC i := by
  apply ByteArray.ext
  apply Array.toList_inj.1
  rw [name_list h]
  simp [nameC]

theorem names_right : ∀ i, i < 65 → rightF (nameB i) = true := by
  have h : ((List.range 65).all fun i => rightF (nameC i)) = true := by kernel_rfl
  intro i hi
  rw [name_eq hi]
  exact List.all_eq_true.1 h i (by simpa using hi)

theorem names_apart {i k : Nat} (hi : i < 65) (hk : k < i) : nameB k ≠ nameB i := by
  have h : ((List.range 65).all fun i => (List.range i).all fun k => !(nameL k == nameL i)) = true := by kernel_rfl
  intro e
  have h1 := List.all_eq_true.1 (List.all_eq_true.1 h i (by simpa using hi)) k (by simpa using hk)
  rw [← name_list hi, ← name_list (by omega), e] at h1
  simp at h1

theorem name_small (i : Nat) (h : i < 65) : (nameB i).size ≤ 1000 := by
  rw [name_eq h]
  show (nameL i).toArray.size ≤ 1000
  unfold nameL
  split <;> simp

/-- Symbols of these names, of one size, each with one number. -/
structure Named (sz : Int) (S : Syms) : Prop where
  is : ∀ j s, S[j]? = some s → s.1.name = nameB j ∧ s.1.size = sz ∧ s.2 = [1]

theorem Named.nil (sz : Int) : Named sz [] := ⟨fun j s h => by simp at h⟩
theorem Named.snoc {sz : Int} {S : Syms} (h : Named sz S) {i : Nat} (hi : S.length = i) (v : Value) : Named sz (S ++ [(⟨nameB i, sz, v⟩, [1])]) := by
  refine ⟨fun j s hj => ?_⟩
  rcases Nat.lt_or_ge j S.length with h1 | h1
  · rw [List.getElem?_append_left h1] at hj; exact h.is j s hj
  · rw [List.getElem?_append_right h1] at hj
    rcases Nat.eq_zero_or_pos (j - S.length) with h2 | h2
    · rw [h2] at hj
      simp at hj
      subst hj
      have : j = i := by omega
      subst this
      exact ⟨rfl, rfl, rfl⟩
    · rw [List.getElem?_eq_none (by simp; omega)] at hj; cases hj

theorem Named.fine {sz : Int} {S : Syms} (h : Named sz S) (hl : S.length ≤ 65) : FineS S := by
  intro s hs
  obtain ⟨j, hj, rfl⟩ := List.getElem_of_mem hs
  rw [(h.is j _ (List.getElem?_eq_getElem hj)).1]
  exact name_small j (by omega)

theorem Named.code {sz : Int} {S : Syms} (h : Named sz S) (hl : S.length ≤ 65) {i : Nat} {s : Sym × List Int} (hs : S[i]? = some s) : symC (S.take i) s = if sz < 1 ∨ 64 < sz then 5 else 0 := by
  have hi : i < S.length := (List.getElem?_eq_some_iff.1 hs).1
  obtain ⟨h1, h2, h3⟩ := h.is i s hs
  have hn : ((S.take i).any fun a => decide (a.1.name = s.1.name)) = false := by
    refine none_take (f := fun a => decide (a.1.name = s.1.name)) (by omega) (fun k z hk hz => ?_)
    have := (h.is k z hz).1
    rw [decide_eq_false_iff_not, this, h1]
    exact names_apart (by omega) hk
  unfold symC
  rw [hn, h1, names_right i (by omega), h2, h3]
  simp only [Bool.true_eq_false, if_false, Bool.false_eq_true, List.length_cons, List.length_nil]
  by_cases hz : sz < 1 ∨ 64 < sz
  · rw [if_pos hz, if_pos (by omega)]
  · rw [if_neg hz, if_neg (by omega)]

theorem Named.syms {sz : Int} {S : Syms} (h : Named sz S) (hl : S.length ≤ 65) (hz : ¬ (sz < 1 ∨ 64 < sz)) : ∀ (m i : Nat), i + m = S.length → symsC (S.take i) (S.drop i) = 0
  | 0, i, he => by rw [List.drop_of_length_le (by omega)]; rfl
  | m + 1, i, he => by
    obtain ⟨s, hs⟩ : ∃ s, S[i]? = some s := ⟨_, List.getElem?_eq_getElem (by omega)⟩
    rw [syms_drop S i s hs, h.code hl hs, if_neg hz, if_pos rfl]
    exact Named.syms h hl hz m (i + 1) (by omega)

theorem threads_hlt (S : Syms) : ∀ m : Nat, threadsC S (List.replicate m [bareX 14]) = 0
  | 0 => rfl
  | m + 1 => by
    have h0 : threadC S [bareX 14] = 0 := by
      rw [show ([bareX 14] : Thr) = long 0 0 from rfl, thread_long]
      rfl
    rw [List.replicate_succ]
    unfold threadsC
    rw [if_pos h0]
    exact threads_hlt S m

theorem check_many {sz : Int} {S : Syms} (h : Named sz S) (hl : S.length ≤ 65) (h1 : 0 < S.length) (m : Nat) :
    checkC S (List.replicate m [bareX 14]) = if 64 < S.length ∨ 64 < m then 10 else if sz < 1 ∨ 64 < sz then 5 else 0 := by
  unfold checkC
  rw [List.length_replicate]
  by_cases h64 : 64 < S.length ∨ 64 < m
  · rw [if_pos h64, if_pos h64]
  · rw [if_neg h64, if_neg h64]
    by_cases hz : sz < 1 ∨ 64 < sz
    · rw [if_pos hz]
      obtain ⟨s, hs⟩ : ∃ s, S[0]? = some s := ⟨_, List.getElem?_eq_getElem h1⟩
      have := syms_drop S 0 s hs
      rw [h.code hl hs, if_pos hz] at this
      simp at this
      rw [this, if_neg (by omega)]
    · rw [if_neg hz]
      have := h.syms hl hz S.length 0 (by omega)
      simp at this
      rw [this, if_pos rfl]
      exact threads_hlt S m

theorem fine_many {sz : Int} {S : Syms} (h : Named sz S) (hl : S.length ≤ 65) (m : Nat) : FineP S (List.replicate m [bareX 14]) :=
  ⟨h.fine hl, fun T hT => by
    rw [List.eq_of_mem_replicate hT]
    exact fine_bare (fun x hx => ⟨14, by simpa using hx, by omega⟩)⟩

/-- Each symbol's number lies in a block of its own. -/
def Ints1 (w : World) (B : Nat) (S : Syms) : Prop := ∀ s ∈ S, ∃ X, s.1.init = .slice (some ⟨X, 0, none⟩) 1 1 ∧ s.2 = [1] ∧ B < X ∧ w.heap[X]? = some (.cells #[.int .i64 1] 2)

theorem Ints1.later {w w' : World} {B : Nat} {S : Syms} (h : Ints1 w B S) (hl : Later w w') : Ints1 w' B S := fun s hs =>
  let ⟨X, h1, h2, h3, h4⟩ := h s hs
  ⟨X, h1, h2, h3, heap_later hl h4⟩

theorem Ints1.snoc {w : World} {B X : Nat} {S : Syms} (h : Ints1 w B S) (n : ByteArray) (sz : Int) (hB : B < X) (hX : w.heap[X]? = some (.cells #[.int .i64 1] 2)) : Ints1 w B (S ++ [(⟨n, sz, .slice (some ⟨X, 0, none⟩) 1 1⟩, [1])]) := by
  intro s hs
  rcases List.mem_append.1 hs with hs | hs
  · exact h s hs
  · simp at hs
    subst hs
    exact ⟨X, rfl, rfl, hB, hX⟩

theorem Ints1.grown {w w' : World} {B : Nat} {S : Syms} (h : Ints1 w B S) {base : Nat} {e : TypeId} {k : Nat} {v : Value} {n : Nat} {xs : List Value} (ho : w.ownsRow base e k v n xs) (he : e ≠ 2) (hg : w.grownBy w' v.ownBlock) : Ints1 w' B S := fun s hs =>
  let ⟨X, h1, h2, h3, h4⟩ := h s hs
  ⟨X, h1, h2, h3, other_kept ho hg h4 (fun cs fz e0 => he (by cases e0; rfl))⟩

theorem Ints1.set {w : World} {B : Nat} {S : Syms} (h : Ints1 w B S) (j : Nat) (u : Value) : Ints1 (w.setCell ⟨B, j, none⟩ u) B S := fun s hs =>
  let ⟨X, h1, h2, h3, h4⟩ := h s hs
  ⟨X, h1, h2, h3, set_kept h4 (by omega)⟩

/-- Behind one more symbol. -/
theorem after_sym {w w2 w3 : World} {base i : Nat} {v v' : Value} {S : Syms} {n : ByteArray} {sz : Int} {X : Nat} {a b : Value} {o : Obj}
    (hl : Later w w2) (hbase : base = w.heap.size + 1) (hown : w2.ownsRow base 42 3 v i (flatC symCells S)) (hB : w2.heap[w.heap.size]? = some (.cells #[a, b] 25)) (hI : Ints1 w2 w.heap.size S)
    (hX : w2.heap[X]? = some (.cells #[.int .i64 1] 2)) (hBX : w.heap.size < X)
    (hg : (w2.alloc o).grownBy w3 v.ownBlock) (hown' : w3.ownsRow base 42 3 v' (i + 1) (flatC symCells S ++ [.string n, .int .i64 sz, .slice (some ⟨X, 0, none⟩) 1 1])) :
    Aside (Later w w3 ∧ w3.heap[w.heap.size]? = some (.cells #[a, b] 25) ∧ w3.ownsRow base 42 3 v' (i + 1) (flatC symCells (S ++ [(⟨n, sz, .slice (some ⟨X, 0, none⟩) 1 1⟩, [1])])) ∧ Ints1 w3 w.heap.size (S ++ [(⟨n, sz, .slice (some ⟨X, 0, none⟩) 1 1⟩, [1])])) := by
  have LA := Later.alloc (Later.refl w2) o
  have hown2 := hown.alloc o
  refine ⟨?_, ?_, ?_, ?_⟩
  · exact Below.grown (Below.alloc hl hl.size _) hg (by have := hl.size; simp; omega) (fun j hj => by have := (hown.lt _ hj).1; omega)
  · exact other_kept hown2 hg (heap_later LA hB) (fun cs fz e0 => by cases e0)
  · rw [flatC_append, flatC_one]; exact hown'
  · exact Ints1.snoc ((hI.later LA).grown hown2 (by decide) hg) n sz hBX (other_kept hown2 hg (heap_later LA hX) (fun cs fz e0 => by cases e0))

theorem syms_row {w : World} {base B : Nat} {v : Value} {S : Syms} {i : Nat} {sz : Int} (hs : Named sz S) (hsz : I64 sz) (hi : S.length = i) (hl : i ≤ 65) (ho : w.ownsRow base 42 3 v i (flatC symCells S)) (hI : Ints1 w B S) : SymRow w v S :=
  RowIn.of_owns (f := symCells) symCells_len (by omega) hi ho (fun s hm => by
    obtain ⟨X, h1, h2, -, h4⟩ := hI s hm
    obtain ⟨j, hj, rfl⟩ := List.getElem_of_mem hm
    obtain ⟨h5, h6, -⟩ := hs.is j _ (List.getElem?_eq_getElem hj)
    refine ⟨rfl, ?_, ?_, ?_⟩
    · rw [h5]; have := name_small j (by omega); unfold maxLen; omega
    · rw [h6]; exact hsz
    · rw [h1, h2]
      exact RowIn.one h4 ⟨rfl, by unfold I64; omega⟩)

/-- Threads of one hlt, each in a block of its own. -/
def Hlts (w : World) (B : Nat) (vs : List Value) : Prop := ∀ v ∈ vs, ∃ Y, v = .slice (some ⟨Y, 0, none⟩) 1 1 ∧ B < Y ∧ w.heap[Y]? = some (.cells (insC (bareX 14)).toArray 39)

def oneV (v : Value) : List Value := [v]
theorem oneV_len (v : Value) : (oneV v).length = 1 := rfl

theorem thrs_row {w : World} {base B : Nat} {v : Value} {vs : List Value} {k : Nat} (hk : vs.length = k) (ho : w.ownsRow base 34 1 v k (flatC oneV vs)) (hI : Hlts w B vs) : ThrRow w v (List.replicate k [bareX 14]) := by
  have h := RowIn.of_owns (E := fun w u cs => cs = [u] ∧ u ∈ vs) (f := oneV) oneV_len (by omega) hk ho (fun u hu => ⟨rfl, hu⟩)
  have h2 := RowIn.map (E' := ThrE) h (fun _ => [bareX 14]) (fun u cs _ ⟨h1, hu⟩ => by
    obtain ⟨Y, h3, -, h4⟩ := hI u hu
    refine ⟨u, h1, ?_⟩
    rw [h3]
    exact RowIn.one h4 (bareX_E 14 (by omega)))
  rw [List.map_const', hk] at h2
  exact h2

/-- Behind one more thread. -/
theorem after_thr {w w2 w3 : World} {base k : Nat} {v v' u : Value} {vs : List Value} {S : Syms} {i Y : Nat} {a b : Value} {o : Obj}
    (hl : Later w w2) (hbase : base = w.heap.size + 1) (hown : w2.ownsRow base 34 1 v k (flatC oneV vs)) (hS : w2.ownsRow base 42 3 u i (flatC symCells S)) (hB : w2.heap[w.heap.size]? = some (.cells #[a, b] 25)) (hI : Ints1 w2 w.heap.size S) (hH : Hlts w2 w.heap.size vs)
    (hY : w2.heap[Y]? = some (.cells (insC (bareX 14)).toArray 39)) (hBY : w.heap.size < Y)
    (hg : (w2.alloc o).grownBy w3 v.ownBlock) (hown' : w3.ownsRow base 34 1 v' (k + 1) (flatC oneV vs ++ [.slice (some ⟨Y, 0, none⟩) 1 1])) :
    Aside (Later w w3 ∧ w3.heap[w.heap.size]? = some (.cells #[a, b] 25) ∧ w3.ownsRow base 34 1 v' (k + 1) (flatC oneV (vs ++ [.slice (some ⟨Y, 0, none⟩) 1 1])) ∧ w3.ownsRow base 42 3 u i (flatC symCells S) ∧ Ints1 w3 w.heap.size S ∧ Hlts w3 w.heap.size (vs ++ [.slice (some ⟨Y, 0, none⟩) 1 1])) := by
  have LA := Later.alloc (Later.refl w2) o
  have hown2 := hown.alloc o
  refine ⟨?_, ?_, ?_, ?_, ?_, ?_⟩
  · exact Below.grown (Below.alloc hl hl.size _) hg (by have := hl.size; simp; omega) (fun j hj => by have := (hown.lt _ hj).1; omega)
  · exact other_kept hown2 hg (heap_later LA hB) (fun cs fz e0 => by cases e0)
  · rw [flatC_append, flatC_one]; exact hown'
  · exact owns_kept (by decide) hown2 (hS.alloc o) hg
  · exact (hI.later LA).grown hown2 (by decide) hg
  · intro z hz
    rcases List.mem_append.1 hz with hz | hz
    · obtain ⟨Z, h1, h2, h3⟩ := hH z hz
      exact ⟨Z, h1, h2, other_kept hown2 hg (heap_later LA h3) (fun cs fz e0 => by cases e0)⟩
    · simp at hz
      subst hz
      exact ⟨Y, rfl, hBY, other_kept hown2 hg (heap_later LA hY) (fun cs fz e0 => by cases e0)⟩

theorem Hlts.later {w w' : World} {B : Nat} {vs : List Value} (h : Hlts w B vs) (hl : Later w w') : Hlts w' B vs := fun s hs =>
  let ⟨X, h1, h3, h4⟩ := h s hs
  ⟨X, h1, h3, heap_later hl h4⟩

theorem Hlts.set {w : World} {B : Nat} {vs : List Value} (h : Hlts w B vs) (j : Nat) (u : Value) : Hlts (w.setCell ⟨B, j, none⟩ u) B vs := fun s hs =>
  let ⟨X, h1, h3, h4⟩ := h s hs
  ⟨X, h1, h3, set_kept h4 (by omega)⟩

end Go.Proofs.YtegogmbcjjjjjaaDoor
