/-
  What the places of a text's runes are, as plain recursions over the model's own decoding, and the facts about them that the statements ask. Nothing runs here. Conditions: as each theorem names them.
-/
import Derived.Lib.DecodeN
namespace Go.Proofs.YtginggelbfbcfaaDoor
open Go.Lib

/-- A rune of a text, with where it stands. -/
structure Sp where
  rune : Nat
  at_ : Nat
  size : Nat
  line : Nat
  col : Nat
  bad : Bool

/-- The line behind a rune. -/
def nl (l r : Nat) : Nat := if r = 10 then l + 1 else l
/-- The column behind a rune. -/
def nc (c r : Nat) : Nat := if r = 10 then 1 else c + 1
/-- Whether a rune of this number and width stands for a byte that belongs to none. -/
def badOf (r k : Nat) : Bool := ((r : Int) == 65533) && ((k : Int) == 1)

/-- The rune that stands at a place. -/
def spotAt (s : ByteArray) (pos l c : Nat) : Sp :=
  ⟨(Utf8.decode s pos).1, pos, (Utf8.decode s pos).2, l, c, badOf (Utf8.decode s pos).1 (Utf8.decode s pos).2⟩

/-- The runes from a place on. -/
def spotsFrom (s : ByteArray) : Nat → Nat → Nat → Nat → List Sp
  | 0, _, _, _ => []
  | f + 1, pos, l, c => if pos < s.size then spotAt s pos l c :: spotsFrom s f (pos + (Utf8.decode s pos).2) (nl l (Utf8.decode s pos).1) (nc c (Utf8.decode s pos).1) else []

/-- All runes of a text. -/
def spots (s : ByteArray) : List Sp := spotsFrom s s.size 0 1 1

/-- What follows a rune: the byte's place, the line, the column. -/
def step (p : Nat × Nat × Nat) (x : Sp) : Nat × Nat × Nat := (p.1 + x.size, nl p.2.1 x.rune, nc p.2.2 x.rune)

/-- Where what follows all of these stands. -/
def placeOf (L : List Sp) : Nat × Nat × Nat := L.foldl step (0, 1, 1)

theorem dN_facts (n b0 b1 b2 b3 : Nat) (hn : 1 ≤ n) (h0 : b0 < 256) : 1 ≤ (decodeN n b0 b1 b2 b3).2 ∧ (decodeN n b0 b1 b2 b3).2 ≤ n ∧ (decodeN n b0 b1 b2 b3).2 ≤ 4 ∧ (decodeN n b0 b1 b2 b3).1 ≤ 1114111 := by
  unfold decodeN
  repeat' split
  all_goals simp only
  all_goals omega

theorem dN_bad (n b0 b1 b2 b3 : Nat) (h : (decodeN n b0 b1 b2 b3).1 = 65533) : 128 ≤ b0 := by
  rcases Nat.lt_or_ge b0 128 with h0 | h0
  · simp [decodeN, h0] at h; omega
  · exact h0

theorem decode_pos (s : ByteArray) (pos : Nat) (h : pos < s.size) : 1 ≤ (Utf8.decode s pos).2 ∧ pos + (Utf8.decode s pos).2 ≤ s.size ∧ (Utf8.decode s pos).2 ≤ 4 ∧ (Utf8.decode s pos).1 ≤ 1114111 := by
  rw [decode_at]
  obtain ⟨a, b, c, d⟩ := dN_facts (s.size - pos) (s.get! pos).toNat (s.get! (pos + 1)).toNat (s.get! (pos + 2)).toNat (s.get! (pos + 3)).toNat (by omega) (UInt8.toNat_lt _)
  exact ⟨a, by omega, c, d⟩

theorem spots_end (s : ByteArray) (f pos l c : Nat) (h : ¬ pos < s.size) : spotsFrom s f pos l c = [] := by
  cases f <;> simp [spotsFrom, h]

theorem spots_more (s : ByteArray) (f pos l c : Nat) (h : pos < s.size) : spotsFrom s (f + 1) pos l c = spotAt s pos l c :: spotsFrom s f (pos + (Utf8.decode s pos).2) (nl l (Utf8.decode s pos).1) (nc c (Utf8.decode s pos).1) := by
  simp [spotsFrom, h]

/-- How many runes are still looked for does not matter, if they are enough. -/
theorem spots_fuel (s : ByteArray) : ∀ (f g pos l c : Nat), s.size ≤ pos + f → s.size ≤ pos + g → spotsFrom s f pos l c = spotsFrom s g pos l c
  | 0, g, pos, l, c, hf, hg => by rw [spots_end s g pos l c (by omega), spots_end s 0 pos l c (by omega)]
  | f + 1, 0, pos, l, c, hf, hg => by rw [spots_end s 0 pos l c (by omega), spots_end s (f + 1) pos l c (by omega)]
  | f + 1, g + 1, pos, l, c, hf, hg => by
    by_cases h : pos < s.size
    · have := decode_pos s pos h
      rw [spots_more s f pos l c h, spots_more s g pos l c h, spots_fuel s f g _ _ _ (by omega) (by omega)]
    · rw [spots_end s _ pos l c h, spots_end s _ pos l c h]

/-- Each rune stands where those ahead of it end, and is what the decoding says. -/
theorem spots_get (s : ByteArray) : ∀ (f pos l c i : Nat) (x : Sp), (spotsFrom s f pos l c)[i]? = some x →
    (x.at_, x.line, x.col) = ((spotsFrom s f pos l c).take i).foldl step (pos, l, c) ∧ x.at_ < s.size ∧ x = spotAt s x.at_ x.line x.col
  | 0, pos, l, c, i, x, h => by simp [spotsFrom] at h
  | f + 1, pos, l, c, i, x, h => by
    by_cases hp : pos < s.size
    · rw [spots_more s f pos l c hp] at h ⊢
      cases i with
      | zero =>
        simp only [List.getElem?_cons_zero, Option.some.injEq] at h
        subst h
        exact ⟨rfl, hp, rfl⟩
      | succ i =>
        simp only [List.getElem?_cons_succ] at h
        have ih := spots_get s f _ _ _ i x h
        refine ⟨?_, ih.2⟩
        rw [ih.1]
        rfl
    · rw [spots_end s _ pos l c hp] at h
      simp at h

/-- Behind all runes stands the text's end. -/
theorem spots_fold (s : ByteArray) : ∀ (f pos l c : Nat), s.size ≤ pos + f → pos ≤ s.size → ((spotsFrom s f pos l c).foldl step (pos, l, c)).1 = s.size
  | 0, pos, l, c, hf, hp => by simp [spotsFrom]; omega
  | f + 1, pos, l, c, hf, hp => by
    by_cases h : pos < s.size
    · have := decode_pos s pos h
      rw [spots_more s f pos l c h]
      exact spots_fold s f (pos + (Utf8.decode s pos).2) (nl l (Utf8.decode s pos).1) (nc c (Utf8.decode s pos).1) (by omega) (by omega)
    · rw [spots_end s _ pos l c h]
      simp; omega

theorem placeOf_spots (s : ByteArray) : (placeOf (spots s)).1 = s.size := spots_fold s s.size 0 1 1 (by omega) (by omega)

theorem placeOf_append (A B : List Sp) : placeOf (A ++ B) = B.foldl step (placeOf A) := by simp [placeOf, List.foldl_append]

theorem placeOf_snoc (A : List Sp) (x : Sp) : placeOf (A ++ [x]) = step (placeOf A) x := by simp [placeOf, List.foldl_append]

/-- The i-th rune stands where the first i runes end. -/
theorem spots_at (s : ByteArray) (i : Nat) (x : Sp) (h : (spots s)[i]? = some x) :
    x.at_ = (placeOf ((spots s).take i)).1 ∧ x.line = (placeOf ((spots s).take i)).2.1 ∧ x.col = (placeOf ((spots s).take i)).2.2 ∧ x.at_ < s.size ∧ x = spotAt s x.at_ x.line x.col := by
  obtain ⟨h1, h2, h3⟩ := spots_get s _ _ _ _ i x h
  have e : (x.at_, x.line, x.col) = placeOf ((spots s).take i) := h1
  exact ⟨by rw [← e], by rw [← e], by rw [← e], h2, h3⟩

theorem take_succ_get {α : Type} (L : List α) (i : Nat) (x : α) (h : L[i]? = some x) : L.take (i + 1) = L.take i ++ [x] := by
  rw [List.take_add_one, h]; rfl

theorem place_succ (s : ByteArray) (i : Nat) (x : Sp) (h : (spots s)[i]? = some x) : placeOf ((spots s).take (i + 1)) = step (placeOf ((spots s).take i)) x := by
  rw [take_succ_get _ _ _ h, placeOf_snoc]

/-- Lines and columns are at most one more than the bytes ahead. -/
theorem fold_le : ∀ (L : List Sp) (p : Nat × Nat × Nat), (∀ x ∈ L, 1 ≤ x.size) → p.2.1 ≤ p.1 + 1 → p.2.2 ≤ p.1 + 1 → (L.foldl step p).2.1 ≤ (L.foldl step p).1 + 1 ∧ (L.foldl step p).2.2 ≤ (L.foldl step p).1 + 1 ∧ L.length + p.1 ≤ (L.foldl step p).1
  | [], p, _, h1, h2 => by simp; omega
  | x :: L, p, hx, h1, h2 => by
    have hk := hx x (List.mem_cons_self ..)
    have ih := fold_le L (step p x) (fun y hy => hx y (List.mem_cons_of_mem _ hy)) (by simp only [step, nl]; split <;> omega) (by simp only [step, nc]; split <;> omega)
    refine ⟨ih.1, ih.2.1, ?_⟩
    have := ih.2.2
    simp only [List.length_cons, List.foldl_cons]
    simp only [step] at this ⊢
    omega

theorem spots_size (s : ByteArray) (x : Sp) (h : x ∈ spots s) : 1 ≤ x.size := by
  obtain ⟨i, hi⟩ := List.getElem?_of_mem h
  obtain ⟨_, _, _, h4, h5⟩ := spots_at s i x hi
  rw [h5]
  exact (decode_pos s _ h4).1

theorem place_le (s : ByteArray) (i : Nat) : (placeOf ((spots s).take i)).2.1 ≤ (placeOf ((spots s).take i)).1 + 1 ∧ (placeOf ((spots s).take i)).2.2 ≤ (placeOf ((spots s).take i)).1 + 1 ∧ ((spots s).take i).length + 0 ≤ (placeOf ((spots s).take i)).1 :=
  fold_le _ (0, 1, 1) (fun x hx => spots_size s x (List.mem_of_mem_take hx)) (by simp) (by simp)

theorem place_all (s : ByteArray) : (placeOf (spots s)).2.1 ≤ s.size + 1 ∧ (placeOf (spots s)).2.2 ≤ s.size + 1 ∧ (spots s).length ≤ s.size := by
  have h := fold_le (spots s) (0, 1, 1) (fun x hx => spots_size s x hx) (by simp) (by simp)
  have e := placeOf_spots s
  unfold placeOf at e ⊢
  rw [e] at h
  exact ⟨h.1, h.2.1, by have := h.2.2; omega⟩

/-- Bounds of the i-th rune. -/
theorem spot_le (s : ByteArray) (i : Nat) (x : Sp) (h : (spots s)[i]? = some x) : x.at_ + x.size ≤ s.size ∧ 1 ≤ x.size ∧ x.size ≤ 4 ∧ x.line ≤ s.size ∧ x.col ≤ s.size ∧ x.rune ≤ 1114111 := by
  obtain ⟨h1, h2, h3, h4, h5⟩ := spots_at s i x h
  have hp := place_le s i
  have hd := decode_pos s x.at_ h4
  have e1 : x.size = (Utf8.decode s x.at_).2 := by rw [h5]; rfl
  have e2 : x.rune = (Utf8.decode s x.at_).1 := by rw [h5]; rfl
  rw [e1, e2]
  omega

theorem place_bound (s : ByteArray) (i : Nat) : (placeOf ((spots s).take i)).1 ≤ s.size ∧ (placeOf ((spots s).take i)).2.1 ≤ s.size + 1 ∧ (placeOf ((spots s).take i)).2.2 ≤ s.size + 1 := by
  have h := place_le s i
  have h1 : (placeOf ((spots s).take i)).1 ≤ s.size := by
    cases hx : (spots s)[i]? with
    | some x =>
      obtain ⟨e1, _, _, h4, _⟩ := spots_at s i x hx
      omega
    | none =>
      have hl : (spots s).length ≤ i := List.getElem?_eq_none_iff.1 hx
      rw [List.take_of_length_le hl, placeOf_spots]
      omega
  omega

end Go.Proofs.YtginggelbfbcfaaDoor
