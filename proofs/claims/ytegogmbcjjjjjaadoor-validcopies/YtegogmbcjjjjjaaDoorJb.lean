/-
  What the small functions do that the statements' functions call: Short returns a text's first bytes; the place behind a rune; which numbers are letters, digits and blanks. Nothing that was in memory turns. Conditions: as each theorem names them.
  glyph.End.
  What the document's own Spots returns: the same row of the text's runes. Nothing that was in memory turns. Conditions: the text has at most 1000000 bytes.
  Tables of texts in memory; what the document's own functions over its words return. Nothing that was in memory turns. Conditions: as each theorem names them.
  Which texts are names, said of the numbers of their runes and whether each is bad; that a text's runes are those of its two halves, if none of the first half's is bad. Nothing runs here. Conditions: as each theorem names them.
  What the document's own Right returns, and the first call whose answer the document fixes. Nothing that was in memory turns. Conditions: as each theorem names them.
-/
import Derived.Test.YtegogmbcjjjjjaaDoorJa
import Derived.Deep.LoopGhost
import Derived.Lib.OthersKept
import Derived.Deep.QuietTactic
import Derived.Lib.ValidLaws
namespace Go.Proofs.YtegogmbcjjjjjaaDoor
open Go.RowKit

/-- A text's first bytes. -/
def short (n : Nat) (s : ByteArray) : ByteArray := if s.size ≤ n then s else s.extract 0 n

theorem short_size (n : Nat) (s : ByteArray) : (short n s).size ≤ n := by
  unfold short
  split
  · assumption
  · rw [ByteArray.size_extract]; omega


theorem letter_any (r : Int) (w : World) :
    Calls Tryd.prog 66 #[.int .i32 r] w fun e w' => e = .returned (.bool (letterF r)) ∧ Later w w' := by
  go_enter Tryd.func66, Tryd.ntmps66
  go_wp2
  all_goals go_ret
  all_goals refine ⟨ret_bool ?_, Later.refl _⟩
  all_goals rw [Bool.eq_iff_iff]
  all_goals simp only [letterF, decide_eq_true_eq, beq_iff_eq, beq_eq_false_iff_ne, ne_eq, Bool.false_eq_true, true_iff, false_iff] at *
  all_goals omega

theorem digit_any (r : Int) (w : World) :
    Calls Tryd.prog 67 #[.int .i32 r] w fun e w' => e = .returned (.bool (digitF r)) ∧ Later w w' := by
  go_enter Tryd.func67, Tryd.ntmps67
  go_wp2
  all_goals go_ret
  all_goals refine ⟨ret_bool ?_, Later.refl _⟩
  all_goals rw [Bool.eq_iff_iff]
  all_goals simp only [digitF, decide_eq_true_eq, Bool.false_eq_true, false_iff] at *
  all_goals omega

end Go.Proofs.YtegogmbcjjjjjaaDoor

namespace Go.Proofs.YtegogmbcjjjjjaaDoor
open Go.RowKit

theorem two_new (w : World) (o p : Obj) : ((w.alloc o).alloc p).heap[w.heap.size]? = some o ∧ ((w.alloc o).alloc p).heap[w.heap.size + 1]? = some p := by
  constructor
  · rw [Below.heap_alloc _ _ _ (by simp)]; exact at_new w o
  · have : (w.alloc o).heap.size = w.heap.size + 1 := by simp
    rw [← this]; exact at_new _ p

theorem box_others {w : World} {B k : Nat} (hk : k ≠ B) (x y : Value) : ((w.setCell ⟨B, 0, none⟩ x).setCell ⟨B, 1, none⟩ y).heap[k]? = w.heap[k]? := by
  rw [Below.heap_setCell _ _ _ _ (by exact hk), Below.heap_setCell _ _ _ _ (by exact hk)]

end Go.Proofs.YtegogmbcjjjjjaaDoor

set_option linter.unusedVariables false
namespace Go.Proofs.YtegogmbcjjjjjaaDoor
open Go.RowKit

/-- Not told yet whether it is bad. -/
def Sp.unbad (x : Sp) : Sp := ⟨x.rune, x.at_, x.size, x.line, x.col, false⟩
/-- Not told yet how long it is. -/
def Sp.bare (x : Sp) : Sp := ⟨x.rune, x.at_, 0, x.line, x.col, false⟩

/-- All but the last one are told how long they are. -/
def raw (D : List Sp) : List Sp := D.dropLast.map Sp.unbad ++ (D.getLast?.toList.map Sp.bare)

theorem raw_nil : raw [] = [] := rfl
theorem raw_snoc (E : List Sp) (x : Sp) : raw (E ++ [x]) = E.map Sp.unbad ++ [x.bare] := by simp [raw]
theorem raw_length (E : List Sp) (x : Sp) : (raw (E ++ [x])).length = E.length + 1 := by rw [raw_snoc]; simp

theorem flat_set (A : List Sp) (x y : Sp) (R : List Sp) (k : Nat) (u : Value) (hk : k < 6) (h : x.cells.set k u = y.cells) :
    (flat (A ++ x :: R)).set (A.length * 6 + k) u = flat (A ++ y :: R) := by
  have e : ∀ z : Sp, flat (A ++ z :: R) = flat A ++ (z.cells ++ flat R) := fun z => by rw [flat_append]; rfl
  rw [e, e, List.set_append_right _ _ (by rw [flat_length]; omega), flat_length, show A.length * 6 + k - A.length * 6 = k by omega, List.set_append_left _ _ (by simp [Sp.cells]; omega), h]

theorem nil_or_snoc {α : Type} (D : List α) : D = [] ∨ ∃ E x, D = E ++ [x] := by
  rcases List.eq_nil_or_concat D with h | ⟨E, x, h⟩
  · exact Or.inl h
  · exact Or.inr ⟨E, x, by rw [h, List.concat_eq_append]⟩

theorem six_at (w : World) (n : Nat) (hn : w.heap.size = n) (a b c d e f : Value) (t : TypeId) : ∀ j u, [a, b, c, d, e, f][j]? = some u → (w.alloc (.cells #[a, b, c, d, e, f] t)).cell? ((⟨n, 0, none⟩ : Addr).add j) = some u := by
  subst hn
  exact cell_six_new w a b c d e f t

/-- The form of a row that is not empty. -/
theorem row_form {w : World} {base : Nat} {e : TypeId} {v : Value} {n : Nat} {xs : List Value} (h : w.ownsRow base e 6 v (n + 1) xs) : ∃ g cap, v = .slice (some ⟨g, 0, none⟩) (n + 1) cap := by
  rcases h.2 with ⟨_, h0⟩ | ⟨g, cap, cur, rfl, _⟩
  · omega
  · exact ⟨g, cap, rfl⟩

theorem flat_raw {D : List Sp} {X : Sp} {r pos l c : Nat} (hX : X.bare = ⟨r, pos, 0, l, c, false⟩) :
    flat (raw (D ++ [X])) = flat (D.map Sp.unbad) ++ [.int .i32 (r : Nat), .int .i64 (pos : Nat), .int .i64 0, .int .i64 (l : Nat), .int .i64 (c : Nat), .bool false] := by
  rw [raw_snoc, flat_append, flat_one, hX]
  rfl

theorem snoc_last {α : Type} {A B : List α} {x y : α} (h : A ++ [x] = B ++ [y]) : x = y := by
  have := congrArg List.getLast? h
  simpa using this

end Go.Proofs.YtegogmbcjjjjjaaDoor

namespace Go.Proofs.YtegogmbcjjjjjaaDoor
open Go.RowKit
set_option linter.unusedVariables false

theorem tab_new (w : World) (T : List ByteArray) (t : TypeId) : Tab (w.alloc (.cells (T.map Value.string).toArray t)) w.heap.size T := by
  intro i x hx
  simp only [World.cell?, at_new]
  simp [hx]

theorem optext_jump (cond : Int) (h : ¬ (1 ≤ cond ∧ cond ≤ 10)) : textAt jumpsT cond = ⟨#[]⟩ := by
  unfold textAt
  split
  · rename_i h'
    have : (jumpsT.length : Int) = 11 := rfl
    obtain rfl : cond = 0 := by omega
    rfl
  · rfl

theorem optext_op (op : Int) (h : ¬ (1 ≤ op ∧ op ≤ 14)) : textAt opsT op = ⟨#[]⟩ := by
  unfold textAt
  split
  · rename_i h'
    have : (opsT.length : Int) = 15 := rfl
    obtain rfl : op = 0 := by omega
    rfl
  · rfl

theorem word_said (s : ByteArray) : wordF s = (!s.data.toList.isEmpty && (s.data.toList == symT.data.toList || s.data.toList == threadT.data.toList || s.data.toList == lockT.data.toList || decide (0 ≤ firstAt s regsT 0) || decide (0 < firstAt s opsT 0) || decide (0 < firstAt s jumpsT 0))) := by
  by_cases h0 : s.data.toList.isEmpty = true
  · have e : s.data.toList = [] := List.isEmpty_iff.1 h0
    have es : s = ⟨#[]⟩ := by
      apply ByteArray.ext
      exact Array.toList_eq_nil_iff.1 e
    subst es
    decide
  · have p1 := ops_pos s h0
    have p2 := jumps_pos s h0
    unfold wordF regF opF
    rw [if_neg h0]
    simp only [← p1, ← p2, Bool.eq_false_iff.2 h0]
    generalize firstAt s regsT 0 = a
    generalize firstAt s opsT 0 = b
    generalize firstAt s jumpsT 0 = c
    by_cases ha : 0 ≤ a <;> by_cases hb : 0 ≤ b <;> by_cases hc : 0 ≤ c <;> simp [ha, hb, hc]

end Go.Proofs.YtegogmbcjjjjjaaDoor

set_option linter.unusedVariables false
namespace Go.Proofs.YtegogmbcjjjjjaaDoor
open Go.Lib

/-- Whether a number may stand in a name. -/
def standF (r : Int) (first : Bool) : Bool := letterF r || (!first && digitF r)

/-- A rune's number, and whether it is bad. -/
def rb (s : ByteArray) : List (Nat × Bool) := (spots s).map fun x => (x.rune, x.bad)

/-- Each may stand in a name: the first one, if it is said to be the first. -/
def standAll : List (Nat × Bool) → Bool → Bool
  | [], _ => true
  | x :: M, first => standF x.1 first && standAll M false

def noneBad (M : List (Nat × Bool)) : Bool := M.all fun x => !x.2

/-- One to sixteen. -/
def fewRunes (n : Nat) : Bool := decide (0 < n) && decide (n ≤ 16)

/-- Whether a text may be a name. -/
def rightF (s : ByteArray) : Bool := fewRunes (rb s).length && standAll (rb s) true && noneBad (rb s) && !wordF s

/-- The program's loop: so many are counted already. -/
def shapedGo : List Sp → Nat → Bool
  | [], n => decide (0 < n)
  | x :: L, n => if 16 < n + 1 then false else if standF x.rune ((x.at_ : Int) == 0) = true then shapedGo L (n + 1) else false

theorem shapedGo_eq : ∀ (L : List Sp) (n : Nat) (first : Bool), n ≤ 16 → (∀ x, L.head? = some x → ((x.at_ : Int) == 0) = first) → (∀ x ∈ L.tail, ((x.at_ : Int) == 0) = false) →
    shapedGo L n = (fewRunes (n + L.length) && standAll (L.map fun x => (x.rune, x.bad)) first)
  | [], n, first, hn, _, _ => by
    simp [shapedGo, standAll, fewRunes, hn]
  | x :: L, n, first, hn, h1, h2 => by
    have hx := h1 x rfl
    have ih := shapedGo_eq L (n + 1) false
    simp only [shapedGo, List.map_cons, standAll, hx, List.length_cons]
    by_cases hc : 16 < n + 1
    · have : fewRunes (n + (L.length + 1)) = false := by simp [fewRunes]; omega
      rw [if_pos hc, this]
      rfl
    · rw [if_neg hc]
      by_cases hs : standF (x.rune : Int) first = true
      · rw [if_pos hs, ih (by omega) (fun y hy => h2 y (by cases L with | nil => simp at hy | cons z L => simp at hy; subst hy; simp)) (fun y hy => h2 y (List.mem_of_mem_tail hy)), hs]
        simp [Nat.add_comm, Nat.add_left_comm]
      · rw [if_neg hs, Bool.eq_false_iff.2 hs]
        simp

/-- Only the first rune stands at byte 0. -/
theorem spots_head (s : ByteArray) (x : Sp) (h : (spots s).head? = some x) : ((x.at_ : Int) == 0) = true := by
  obtain ⟨h1, _⟩ := spots_at s 0 x (by rw [List.head?_eq_getElem?] at h; exact h)
  rw [h1]; simp [placeOf]

theorem spots_tail (s : ByteArray) (x : Sp) (h : x ∈ (spots s).tail) : ((x.at_ : Int) == 0) = false := by
  obtain ⟨i, hi⟩ := List.getElem?_of_mem h
  rw [List.getElem?_tail] at hi
  obtain ⟨h1, _⟩ := spots_at s (i + 1) x hi
  have h2 := (place_le s (i + 1)).2.2
  have h3 : ((spots s).take (i + 1)).length = i + 1 := by
    rw [List.length_take]
    have := (List.getElem?_eq_some_iff.1 hi).1
    omega
  simp; omega

theorem shapedGo_spots (s : ByteArray) : shapedGo (spots s) 0 = (fewRunes (rb s).length && standAll (rb s) true) := by
  rw [shapedGo_eq (spots s) 0 true (by omega) (spots_head s) (spots_tail s)]
  simp [rb]

/-! ### valid texts -/
theorem valid_from (s : ByteArray) : ∀ (f pos l c : Nat), s.size ≤ pos + f → validD (s.data.toList.drop pos) = (spotsFrom s f pos l c).all fun x => !x.bad
  | 0, pos, l, c => fun hf => by
    have h : ¬ pos < s.size := by omega
    rw [spots_end s 0 pos l c h, List.drop_of_length_le (by rw [← size_eq]; omega)]
    rfl
  | f + 1, pos, l, c => fun hf => by
    by_cases h : pos < s.size
    · have hd := decode_pos s pos h
      have hne : s.data.toList.drop pos ≠ [] := by
        intro e
        have := congrArg List.length e
        rw [List.length_drop, ← size_eq] at this
        simp at this
        omega
      rw [validD_step _ hne, decodeL_drop, spots_more s f pos l c h, List.drop_drop, List.all_cons]
      by_cases hb : (Utf8.decode s pos).1 = 65533 ∧ (Utf8.decode s pos).2 = 1
      · rw [if_pos hb]
        simp [spotAt, badOf, hb.1, hb.2]
      · rw [if_neg hb, valid_from s f (pos + (Utf8.decode s pos).2) (nl l (Utf8.decode s pos).1) (nc c (Utf8.decode s pos).1) (by omega)]
        have : (spotAt s pos l c).bad = false := by
          show badOf _ _ = false
          rw [Bool.eq_false_iff]
          intro hh
          exact hb (badOf_true hh)
        rw [this]
        rfl
    · rw [spots_end s (f + 1) pos l c h, List.drop_of_length_le (by rw [← size_eq]; omega)]
      rfl

theorem valid_rb (s : ByteArray) : validD s.data.toList = noneBad (rb s) := by
  have := valid_from s s.size 0 1 1 (by omega)
  rw [List.drop_zero] at this
  rw [this]
  simp [noneBad, rb, spots, List.all_map, Function.comp_def]

/-! ### the document's own loop -/
def refGo : List Sp → Nat → Bool
  | [], _ => true
  | x :: L, i => if x.bad = true then false else if standF x.rune ((i : Int) == 0) = true then refGo L (i + 1) else false

theorem refGo_eq : ∀ (L : List Sp) (i : Nat), refGo L i = (standAll (L.map fun x => (x.rune, x.bad)) ((i : Int) == 0) && noneBad (L.map fun x => (x.rune, x.bad)))
  | [], i => rfl
  | x :: L, i => by
    have ih := refGo_eq L (i + 1)
    have e : (((i + 1 : Nat) : Int) == 0) = false := by simp; omega
    rw [e] at ih
    simp only [refGo, List.map_cons, standAll, noneBad, List.all_cons]
    rw [ih]
    simp only [noneBad]
    cases x.bad <;> cases standF (x.rune : Int) ((i : Int) == 0) <;> simp

theorem refGo_spots (s : ByteArray) : refGo (spots s) 0 = (standAll (rb s) true && noneBad (rb s)) := refGo_eq (spots s) 0

theorem rb_length (s : ByteArray) : (rb s).length = (spots s).length := by simp [rb]

theorem rb_le (s : ByteArray) : (rb s).length ≤ s.size := by rw [rb_length]; exact (place_all s).2.2

/-! ### two halves -/
/-- What is read well is read so with more behind it. -/
theorem dN_more (n m b0 b1 b2 b3 c1 c2 c3 : Nat) (hm : n ≤ m) (h1 : 1 < n → c1 = b1) (h2 : 2 < n → c2 = b2) (h3 : 3 < n → c3 = b3)
    (hb : ¬ ((decodeN n b0 b1 b2 b3).1 = 65533 ∧ (decodeN n b0 b1 b2 b3).2 = 1)) : decodeN m b0 c1 c2 c3 = decodeN n b0 b1 b2 b3 := by
  unfold decodeN at hb ⊢
  by_cases k0 : b0 < 128
  · rw [if_pos k0, if_pos k0]
  · rw [if_neg k0] at hb ⊢
    rw [if_neg k0]
    by_cases k1 : b0 / 32 = 6 ∧ (1 < n ∧ b1 / 64 = 2)
    · have := h1 k1.2.1; subst this
      rw [if_pos k1, if_pos ⟨k1.1, by omega, k1.2.2⟩]
    · rw [if_neg k1] at hb ⊢
      by_cases k2 : b0 / 16 = 14 ∧ (1 < n ∧ b1 / 64 = 2) ∧ (2 < n ∧ b2 / 64 = 2)
      · have := h1 k2.2.1.1; subst this
        have := h2 k2.2.2.1; subst this
        rw [if_pos k2, if_neg (by omega), if_pos ⟨k2.1, ⟨by omega, k2.2.1.2⟩, by omega, k2.2.2.2⟩]
      · rw [if_neg k2] at hb ⊢
        by_cases k3 : b0 / 8 = 30 ∧ (1 < n ∧ b1 / 64 = 2) ∧ (2 < n ∧ b2 / 64 = 2) ∧ (3 < n ∧ b3 / 64 = 2)
        · have := h1 k3.2.1.1; subst this
          have := h2 k3.2.2.1.1; subst this
          have := h3 k3.2.2.2.1; subst this
          rw [if_pos k3, if_neg (by omega), if_neg (by omega), if_pos ⟨k3.1, ⟨by omega, k3.2.1.2⟩, ⟨by omega, k3.2.2.1.2⟩, by omega, k3.2.2.2.2⟩]
        · rw [if_neg k3] at hb
          exact absurd ⟨rfl, rfl⟩ hb

theorem app_data (s t : ByteArray) : (s ++ t).data.toList = s.data.toList ++ t.data.toList := by
  rw [ByteArray.data_append, Array.toList_append]

theorem decode_app_left (s t : ByteArray) (pos : Nat) (h : pos < s.size) (hb : ¬ ((Utf8.decode s pos).1 = 65533 ∧ (Utf8.decode s pos).2 = 1)) : Utf8.decode (s ++ t) pos = Utf8.decode s pos := by
  rw [decode_N] at hb
  rw [decode_N, decode_N, app_data]
  have hs := size_eq s
  have e : ∀ k, pos + k < s.data.toList.length → (s.data.toList ++ t.data.toList).getD (pos + k) 0 = s.data.toList.getD (pos + k) 0 := fun k hk => by
    rw [List.getD_eq_getElem?_getD, List.getD_eq_getElem?_getD, List.getElem?_append_left hk]
  have e0 := e 0 (by omega)
  rw [Nat.add_zero] at e0
  rw [e0]
  exact dN_more _ _ _ _ _ _ _ _ _ (by rw [List.length_append]; omega) (fun hk => by rw [e 1 (by omega)]) (fun hk => by rw [e 2 (by omega)]) (fun hk => by rw [e 3 (by omega)]) hb

theorem decode_app_right (s t : ByteArray) (pos : Nat) : Utf8.decode (s ++ t) (s.size + pos) = Utf8.decode t pos := by
  rw [decode_N, decode_N, app_data, List.length_append, size_eq s]
  have e : ∀ k, (s.data.toList ++ t.data.toList).getD (s.data.toList.length + k) 0 = t.data.toList.getD k 0 := fun k => by
    rw [List.getD_eq_getElem?_getD, List.getD_eq_getElem?_getD, List.getElem?_append_right (by omega), Nat.add_sub_cancel_left]
  rw [e, Nat.add_assoc, e, Nat.add_assoc, e, Nat.add_assoc, e, show s.data.toList.length + t.data.toList.length - (s.data.toList.length + pos) = t.data.toList.length - pos by omega]

/-- The runes' rb from a place on. -/
def rbFrom (s : ByteArray) (f pos : Nat) : List (Nat × Bool) := (spotsFrom s f pos 1 1).map fun x => (x.rune, x.bad)

theorem rb_lines (s : ByteArray) : ∀ (f pos l c l' c' : Nat), (spotsFrom s f pos l c).map (fun x => (x.rune, x.bad)) = (spotsFrom s f pos l' c').map fun x => (x.rune, x.bad)
  | 0, _, _, _, _, _ => rfl
  | f + 1, pos, l, c, l', c' => by
    by_cases h : pos < s.size
    · rw [spots_more s f pos l c h, spots_more s f pos l' c' h, List.map_cons, List.map_cons, rb_lines s f _ _ _ (nl l' (Utf8.decode s pos).1) (nc c' (Utf8.decode s pos).1)]
      rfl
    · rw [spots_end _ _ _ _ _ h, spots_end _ _ _ _ _ h]

theorem rbFrom_more (s : ByteArray) (f pos : Nat) (h : pos < s.size) : rbFrom s (f + 1) pos = ((Utf8.decode s pos).1, badOf (Utf8.decode s pos).1 (Utf8.decode s pos).2) :: rbFrom s f (pos + (Utf8.decode s pos).2) := by
  unfold rbFrom
  rw [spots_more s f pos 1 1 h, List.map_cons, rb_lines s f _ _ _ 1 1]
  rfl

theorem rbFrom_end (s : ByteArray) (f pos : Nat) (h : ¬ pos < s.size) : rbFrom s f pos = [] := by
  unfold rbFrom
  rw [spots_end _ _ _ _ _ h]
  rfl

theorem rbFrom_fuel (s : ByteArray) (f g pos : Nat) (hf : s.size ≤ pos + f) (hg : s.size ≤ pos + g) : rbFrom s f pos = rbFrom s g pos := by
  unfold rbFrom
  rw [spots_fuel s f g pos 1 1 hf hg]

theorem rb_right (s t : ByteArray) : ∀ (f pos : Nat), rbFrom (s ++ t) f (s.size + pos) = rbFrom t f pos
  | 0, pos => rfl
  | f + 1, pos => by
    by_cases h : pos < t.size
    · rw [rbFrom_more _ _ _ (by rw [ByteArray.size_append]; omega), rbFrom_more _ _ _ h, decode_app_right, Nat.add_assoc, rb_right s t f]
    · rw [rbFrom_end _ _ _ h, rbFrom_end _ _ _ (by rw [ByteArray.size_append]; omega)]

theorem rb_left (s t : ByteArray) : ∀ (f pos : Nat), s.size ≤ pos + f → pos ≤ s.size → (∀ x ∈ rbFrom s f pos, x.2 = false) → ∀ g, s.size + t.size ≤ pos + g →
    rbFrom (s ++ t) g pos = rbFrom s f pos ++ rb t
  | 0, pos => fun hf hp hx g hg => by
    obtain rfl : pos = s.size := by omega
    rw [rbFrom_end s 0 s.size (by omega), List.nil_append]
    have := rb_right s t g 0
    rw [Nat.add_zero] at this
    rw [this]
    exact rbFrom_fuel t g t.size 0 (by omega) (by omega)
  | f + 1, pos => fun hf hp hx g hg => by
    by_cases h : pos < s.size
    · obtain ⟨g, rfl⟩ : ∃ g', g = g' + 1 := ⟨g - 1, by omega⟩
      have hd := decode_pos s pos h
      rw [rbFrom_more s f pos h] at hx ⊢
      have hb : ¬ ((Utf8.decode s pos).1 = 65533 ∧ (Utf8.decode s pos).2 = 1) := badOf_false (hx _ (List.mem_cons_self ..))
      rw [rbFrom_more _ g pos (by rw [ByteArray.size_append]; omega), decode_app_left s t pos h hb, List.cons_append,
        rb_left s t f (pos + (Utf8.decode s pos).2) (by omega) (by omega) (fun x hx' => hx x (List.mem_cons_of_mem _ hx')) g (by omega)]
    · obtain rfl : pos = s.size := by omega
      rw [rbFrom_end s (f + 1) s.size (by omega), List.nil_append]
      have := rb_right s t g 0
      rw [Nat.add_zero] at this
      rw [this]
      exact rbFrom_fuel t g t.size 0 (by omega) (by omega)

/-- The runes of two texts, one behind the other. -/
theorem rb_app (s t : ByteArray) (h : noneBad (rb s) = true) : rb (s ++ t) = rb s ++ rb t := by
  have hx : ∀ x ∈ rbFrom s s.size 0, x.2 = false := fun x hx => by
    have := List.all_eq_true.1 h x hx
    simpa using this
  exact rb_left s t s.size 0 (by omega) (by omega) hx (s ++ t).size (by rw [ByteArray.size_append]; omega)

theorem standAll_app : ∀ (A B : List (Nat × Bool)) (first : Bool), standAll (A ++ B) first = (standAll A first && standAll B (first && A.isEmpty))
  | [], B, first => by simp [standAll]
  | x :: A, B, first => by
    have ih := standAll_app A B false
    simp only [List.cons_append, standAll, ih, List.isEmpty_cons, Bool.and_false, Bool.false_and, Bool.and_assoc]

theorem noneBad_app (A B : List (Nat × Bool)) : noneBad (A ++ B) = (noneBad A && noneBad B) := by simp [noneBad]

end Go.Proofs.YtegogmbcjjjjjaaDoor

set_option linter.unusedVariables false
namespace Go.Proofs.YtegogmbcjjjjjaaDoor
open Go.RowKit

theorem refGo_drop (L : List Sp) (i : Nat) (x : Sp) (h : L[i]? = some x) : refGo (L.drop i) i = if x.bad = true then false else if standF x.rune ((i : Int) == 0) = true then refGo (L.drop (i + 1)) (i + 1) else false := by
  obtain ⟨hi, hx⟩ := List.getElem?_eq_some_iff.1 h
  rw [List.drop_eq_getElem_cons hi, hx]
  rfl

theorem refRight_split (s : ByteArray) : rightF s = (decide (0 < (spots s).length) && decide ((spots s).length ≤ 16) && !wordF s && refGo (spots s) 0) := by
  rw [refGo_spots, ← rb_length]
  simp only [rightF, fewRunes]
  generalize decide (0 < (rb s).length) = a
  generalize decide ((rb s).length ≤ 16) = b
  generalize standAll (rb s) true = c
  generalize noneBad (rb s) = d
  generalize wordF s = e
  cases a <;> cases b <;> cases c <;> cases d <;> cases e <;> rfl

end Go.Proofs.YtegogmbcjjjjjaaDoor
