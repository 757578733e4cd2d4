/-
  What 'nothing that was in memory turns' means here: of what was there nothing has turned; new blocks, and draws, at the most. Conditions: none.
  What the places of a text's runes are, as plain recursions over the model's own decoding, and the facts about them that the statements ask. Nothing runs here. Conditions: as each theorem names them.
  The words of the language as tables of texts, where a text stands in one, and what the document makes of that: registers, what instructions do, conditions, words. Nothing runs here. Conditions: as each theorem names them.
  Tables of texts in memory. Conditions: none.
  Blocks of three and of four cells: what is read in them, and what stands in them behind a store. Conditions: none.
  What is of no program: decimal texts as lists of bytes. A number of 64 bits is read back from its own text; a list of bytes is read just if it is the text of such a number; what the texts begin with, are made of, and how long they are. Conditions: the bounds of 64 bits, where a theorem names them.
  A text's runes, each with its bytes, over lists of bytes; and that these are the runes of the other telling, with their places. Nothing runs here. Conditions: as each theorem names them.
  What a text is taken apart to, or where it is wrong, as a plain recursion over its runes. Nothing runs here. Conditions: as each theorem names them.
  A rune that is not bad is written by its own bytes; a bad one is one byte from 128 on. Nothing runs here. Conditions: the place lies in the text.
  A row of runes in memory: its cells, one after another; what a reader finds there, and that it stays so. Conditions: as each theorem names them.
  A number's text, as bytes. Conditions: as each theorem names them.
-/
import Derived.Test.YtegogmbcjjjjjaaDoorRows
import Derived.WalkKit
import Derived.ProofKit
import Derived.OpenShut
import Derived.Handy
import Derived.WalkSpells
import Derived.BigQuiet
import Derived.WalkSmall
import Derived.Lib.Hide
import Derived.Lib.OthersKept
import Derived.Deep.LoopGhost
import Derived.Deep.QuietTactic
import Derived.Lib.DecodeN
import Derived.Lib.ParseIntBTie
import Derived.Lib.ItoaLen
import Derived.Lib.TrimUEq
namespace Go.Proofs.YtegogmbcjjjjjaaDoor
open Go.RowKit

/-- Of what was there nothing has turned: new blocks, and draws, at the most. -/
def Later (w w' : World) : Prop := Below w.heap.size w w'

theorem Later.refl (w : World) : Later w w := Below.refl _ _
theorem Later.trans {a b c : World} (h : Later a b) (k : Later b c) : Later a c := Below.trans h (Below.mono k h.size)
theorem Later.alloc {a w : World} (h : Later a w) (o : Obj) : Later a (w.alloc o) := Below.alloc h h.size o
theorem Later.drew {a w : World} (h : Later a w) : Later a w.drew := Below.drew h
theorem Later.drewN {a w : World} (h : Later a w) (n : Nat) : Later a (w.drewN n) := ⟨h.os, h.tape, h.output, h.size, h.block⟩

theorem block_of_cell {w : World} {a : Addr} {v : Value} (h : w.cell? a = some v) : a.block < w.heap.size := by
  rcases Nat.lt_or_ge a.block w.heap.size with h' | h'
  · exact h'
  · rw [World.cell?, Array.getElem?_eq_none h'] at h; cases h

theorem cell_later {w w' : World} {a : Addr} {v : Value} (h : w.cell? a = some v) (hb : Later w w') : w'.cell? a = some v := by
  rw [Below.cell hb (block_of_cell h)]; exact h

theorem var_later {n : String} {cs : Array Value} {w w' : World} (h : w.var? Tryd.prog n = some cs) (hb : Later w w') : w'.var? Tryd.prog n = some cs := by
  unfold World.var? at h ⊢
  cases hg : Tryd.prog.globalNamed n with
  | none => rw [hg] at h; cases h
  | some g =>
    rw [hg] at h
    simp only [Option.bind_some] at h ⊢
    have hlt : g < w.heap.size := by
      rcases Nat.lt_or_ge g w.heap.size with h' | h'
      · exact h'
      · rw [Array.getElem?_eq_none h'] at h; cases h
    rw [hb.block g hlt]
    exact h

/-- Two bools that are one are returned as one. -/
theorem ret_bool {a b : Bool} (h : a = b) : Ending.returned (.bool a) = .returned (.bool b) := by rw [h]

end Go.Proofs.YtegogmbcjjjjjaaDoor

namespace Go.Proofs.YtegogmbcjjjjjaaDoor
open Go.Lib

/-- A rune of a text, with where it stands. -/
structure Sp where
  rune : Nat
  at_ : Nat
  size : Nat
  line : Nat
  col : Nat
  bad : Bool

/-- The line behind a rune. -/
def nl (l r : Nat) : Nat := if r = 10 then l + 1 else l
/-- The column behind a rune. -/
def nc (c r : Nat) : Nat := if r = 10 then 1 else c + 1
/-- Whether a rune of this number and width stands for a byte that belongs to none. -/
def badOf (r k : Nat) : Bool := ((r : Int) == 65533) && ((k : Int) == 1)

/-- The rune that stands at a place. -/
def spotAt (s : ByteArray) (pos l c : Nat) : Sp :=
  ⟨(Utf8.decode s pos).1, pos, (Utf8.decode s pos).2, l, c, badOf (Utf8.decode s pos).1 (Utf8.decode s pos).2⟩

/-- The runes from a place on. -/
def spotsFrom (s : ByteArray) : Nat → Nat → Nat → Nat → List Sp
  | 0, _, _, _ => []
  | f + 1, pos, l, c => if pos < s.size then spotAt s pos l c :: spotsFrom s f (pos + (Utf8.decode s pos).2) (nl l (Utf8.decode s pos).1) (nc c (Utf8.decode s pos).1) else []

/-- All runes of a text. -/
def spots (s : ByteArray) : List Sp := spotsFrom s s.size 0 1 1

/-- What follows a rune: the byte's place, the line, the column. -/
def step (p : Nat × Nat × Nat) (x : Sp) : Nat × Nat × Nat := (p.1 + x.size, nl p.2.1 x.rune, nc p.2.2 x.rune)

/-- Where what follows all of these stands. -/
def placeOf (L : List Sp) : Nat × Nat × Nat := L.foldl step (0, 1, 1)

theorem dN_facts (n b0 b1 b2 b3 : Nat) (hn : 1 ≤ n) (h0 : b0 < 256) : 1 ≤ (decodeN n b0 b1 b2 b3).2 ∧ (decodeN n b0 b1 b2 b3).2 ≤ n ∧ (decodeN n b0 b1 b2 b3).2 ≤ 4 ∧ (decodeN n b0 b1 b2 b3).1 ≤ 1114111 := by
  unfold decodeN
  repeat' split
  all_goals simp only
  all_goals omega

theorem dN_bad (n b0 b1 b2 b3 : Nat) (h : (decodeN n b0 b1 b2 b3).1 = 65533) : 128 ≤ b0 := by
  rcases Nat.lt_or_ge b0 128 with h0 | h0
  · simp [decodeN, h0] at h; omega
  · exact h0

theorem decode_pos (s : ByteArray) (pos : Nat) (h : pos < s.size) : 1 ≤ (Utf8.decode s pos).2 ∧ pos + (Utf8.decode s pos).2 ≤ s.size ∧ (Utf8.decode s pos).2 ≤ 4 ∧ (Utf8.decode s pos).1 ≤ 1114111 := by
  rw [decode_at]
  obtain ⟨a, b, c, d⟩ := dN_facts (s.size - pos) (s.get! pos).toNat (s.get! (pos + 1)).toNat (s.get! (pos + 2)).toNat (s.get! (pos + 3)).toNat (by omega) (UInt8.toNat_lt _)
  exact ⟨a, by omega, c, d⟩

theorem spots_end (s : ByteArray) (f pos l c : Nat) (h : ¬ pos < s.size) : spotsFrom s f pos l c = [] := by
  cases f <;> simp [spotsFrom, h]

theorem spots_more (s : ByteArray) (f pos l c : Nat) (h : pos < s.size) : spotsFrom s (f + 1) pos l c = spotAt s pos l c :: spotsFrom s f (pos + (Utf8.decode s pos).2) (nl l (Utf8.decode s pos).1) (nc c (Utf8.decode s pos).1) := by
  simp [spotsFrom, h]

/-- How many runes are still looked for does not matter, if they are enough. -/
theorem spots_fuel (s : ByteArray) : ∀ (f g pos l c : Nat), s.size ≤ pos + f → s.size ≤ pos + g → spotsFrom s f pos l c = spotsFrom s g pos l c
  | 0, g, pos, l, c, hf, hg => by rw [spots_end s g pos l c (by omega), spots_end s 0 pos l c (by omega)]
  | f + 1, 0, pos, l, c, hf, hg => by rw [spots_end s 0 pos l c (by omega), spots_end s (f + 1) pos l c (by omega)]
  | f + 1, g + 1, pos, l, c, hf, hg => by
    by_cases h : pos < s.size
    · have := decode_pos s pos h
      rw [spots_more s f pos l c h, spots_more s g pos l c h, spots_fuel s f g _ _ _ (by omega) (by omega)]
    · rw [spots_end s _ pos l c h, spots_end s _ pos l c h]

/-- Each rune stands where those ahead of it end, and is what the decoding says. -/
theorem spots_get (s : ByteArray) : ∀ (f pos l c i : Nat) (x : Sp), (spotsFrom s f pos l c)[i]? = some x →
    (x.at_, x.line, x.col) = ((spotsFrom s f pos l c).take i).foldl step (pos, l, c) ∧ x.at_ < s.size ∧ x = spotAt s x.at_ x.line x.col
  | 0, pos, l, c, i, x, h => by simp [spotsFrom] at h
  | f + 1, pos, l, c, i, x, h => by
    by_cases hp : pos < s.size
    · rw [spots_more s f pos l c hp] at h ⊢
      cases i with
      | zero =>
        simp only [List.getElem?_cons_zero, Option.some.injEq] at h
        subst h
        exact ⟨rfl, hp, rfl⟩
      | succ i =>
        simp only [List.getElem?_cons_succ] at h
        have ih := spots_get s f _ _ _ i x h
        refine ⟨?_, ih.2⟩
        rw [ih.1]
        rfl
    · rw [spots_end s _ pos l c hp] at h
      simp at h

/-- Behind all runes stands the text's end. -/
theorem spots_fold (s : ByteArray) : ∀ (f pos l c : Nat), s.size ≤ pos + f → pos ≤ s.size → ((spotsFrom s f pos l c).foldl step (pos, l, c)).1 = s.size
  | 0, pos, l, c, hf, hp => by simp [spotsFrom]; omega
  | f + 1, pos, l, c, hf, hp => by
    by_cases h : pos < s.size
    · have := decode_pos s pos h
      rw [spots_more s f pos l c h]
      exact spots_fold s f (pos + (Utf8.decode s pos).2) (nl l (Utf8.decode s pos).1) (nc c (Utf8.decode s pos).1) (by omega) (by omega)
    · rw [spots_end s _ pos l c h]
      simp; omega

theorem placeOf_spots (s : ByteArray) : (placeOf (spots s)).1 = s.size := spots_fold s s.size 0 1 1 (by omega) (by omega)

theorem placeOf_append (A B : List Sp) : placeOf (A ++ B) = B.foldl step (placeOf A) := by simp [placeOf, List.foldl_append]

theorem placeOf_snoc (A : List Sp) (x : Sp) : placeOf (A ++ [x]) = step (placeOf A) x := by simp [placeOf, List.foldl_append]

/-- The i-th rune stands where the first i runes end. -/
theorem spots_at (s : ByteArray) (i : Nat) (x : Sp) (h : (spots s)[i]? = some x) :
    x.at_ = (placeOf ((spots s).take i)).1 ∧ x.line = (placeOf ((spots s).take i)).2.1 ∧ x.col = (placeOf ((spots s).take i)).2.2 ∧ x.at_ < s.size ∧ x = spotAt s x.at_ x.line x.col := by
  obtain ⟨h1, h2, h3⟩ := spots_get s _ _ _ _ i x h
  have e : (x.at_, x.line, x.col) = placeOf ((spots s).take i) := h1
  exact ⟨by rw [← e], by rw [← e], by rw [← e], h2, h3⟩

theorem take_succ_get {α : Type} (L : List α) (i : Nat) (x : α) (h : L[i]? = some x) : L.take (i + 1) = L.take i ++ [x] := by
  rw [List.take_add_one, h]; rfl

theorem place_succ (s : ByteArray) (i : Nat) (x : Sp) (h : (spots s)[i]? = some x) : placeOf ((spots s).take (i + 1)) = step (placeOf ((spots s).take i)) x := by
  rw [take_succ_get _ _ _ h, placeOf_snoc]

/-- Lines and columns are at most one more than the bytes ahead. -/
theorem fold_le : ∀ (L : List Sp) (p : Nat × Nat × Nat), (∀ x ∈ L, 1 ≤ x.size) → p.2.1 ≤ p.1 + 1 → p.2.2 ≤ p.1 + 1 → (L.foldl step p).2.1 ≤ (L.foldl step p).1 + 1 ∧ (L.foldl step p).2.2 ≤ (L.foldl step p).1 + 1 ∧ L.length + p.1 ≤ (L.foldl step p).1
  | [], p, _, h1, h2 => by simp; omega
  | x :: L, p, hx, h1, h2 => by
    have hk := hx x (List.mem_cons_self ..)
    have ih := fold_le L (step p x) (fun y hy => hx y (List.mem_cons_of_mem _ hy)) (by simp only [step, nl]; split <;> omega) (by simp only [step, nc]; split <;> omega)
    refine ⟨ih.1, ih.2.1, ?_⟩
    have := ih.2.2
    simp only [List.length_cons, List.foldl_cons]
    simp only [step] at this ⊢
    omega

theorem spots_size (s : ByteArray) (x : Sp) (h : x ∈ spots s) : 1 ≤ x.size := by
  obtain ⟨i, hi⟩ := List.getElem?_of_mem h
  obtain ⟨_, _, _, h4, h5⟩ := spots_at s i x hi
  rw [h5]
  exact (decode_pos s _ h4).1

theorem place_le (s : ByteArray) (i : Nat) : (placeOf ((spots s).take i)).2.1 ≤ (placeOf ((spots s).take i)).1 + 1 ∧ (placeOf ((spots s).take i)).2.2 ≤ (placeOf ((spots s).take i)).1 + 1 ∧ ((spots s).take i).length + 0 ≤ (placeOf ((spots s).take i)).1 :=
  fold_le _ (0, 1, 1) (fun x hx => spots_size s x (List.mem_of_mem_take hx)) (by simp) (by simp)

theorem place_all (s : ByteArray) : (placeOf (spots s)).2.1 ≤ s.size + 1 ∧ (placeOf (spots s)).2.2 ≤ s.size + 1 ∧ (spots s).length ≤ s.size := by
  have h := fold_le (spots s) (0, 1, 1) (fun x hx => spots_size s x hx) (by simp) (by simp)
  have e := placeOf_spots s
  unfold placeOf at e ⊢
  rw [e] at h
  exact ⟨h.1, h.2.1, by have := h.2.2; omega⟩

/-- Bounds of the i-th rune. -/
theorem spot_le (s : ByteArray) (i : Nat) (x : Sp) (h : (spots s)[i]? = some x) : x.at_ + x.size ≤ s.size ∧ 1 ≤ x.size ∧ x.size ≤ 4 ∧ x.line ≤ s.size ∧ x.col ≤ s.size ∧ x.rune ≤ 1114111 := by
  obtain ⟨h1, h2, h3, h4, h5⟩ := spots_at s i x h
  have hp := place_le s i
  have hd := decode_pos s x.at_ h4
  have e1 : x.size = (Utf8.decode s x.at_).2 := by rw [h5]; rfl
  have e2 : x.rune = (Utf8.decode s x.at_).1 := by rw [h5]; rfl
  rw [e1, e2]
  omega

theorem place_bound (s : ByteArray) (i : Nat) : (placeOf ((spots s).take i)).1 ≤ s.size ∧ (placeOf ((spots s).take i)).2.1 ≤ s.size + 1 ∧ (placeOf ((spots s).take i)).2.2 ≤ s.size + 1 := by
  have h := place_le s i
  have h1 : (placeOf ((spots s).take i)).1 ≤ s.size := by
    cases hx : (spots s)[i]? with
    | some x =>
      obtain ⟨e1, _, _, h4, _⟩ := spots_at s i x hx
      omega
    | none =>
      have hl : (spots s).length ≤ i := List.getElem?_eq_none_iff.1 hx
      rw [List.take_of_length_le hl, placeOf_spots]
      omega
  omega

end Go.Proofs.YtegogmbcjjjjjaaDoor

namespace Go.Proofs.YtegogmbcjjjjjaaDoor

/-- The registers' words. -/
def regsT : List ByteArray := [⟨#[114, 97, 120]⟩, ⟨#[114, 98, 120]⟩, ⟨#[114, 99, 120]⟩, ⟨#[114, 100, 120]⟩, ⟨#[114, 115, 105]⟩, ⟨#[114, 100, 105]⟩, ⟨#[114, 56]⟩, ⟨#[114, 57]⟩]
/-- The words of what is no jump on a condition. -/
def opsT : List ByteArray := [⟨#[]⟩, ⟨#[109, 111, 118]⟩, ⟨#[97, 100, 100]⟩, ⟨#[115, 117, 98]⟩, ⟨#[97, 110, 100]⟩, ⟨#[111, 114]⟩, ⟨#[120, 111, 114]⟩, ⟨#[99, 109, 112]⟩, ⟨#[120, 99, 104, 103]⟩, ⟨#[99, 109, 112, 120, 99, 104, 103]⟩, ⟨#[106, 109, 112]⟩, ⟨#[]⟩, ⟨#[109, 102, 101, 110, 99, 101]⟩, ⟨#[110, 111, 112]⟩, ⟨#[104, 108, 116]⟩]
/-- The words of jumps, by condition. -/
def jumpsT : List ByteArray := [⟨#[]⟩, ⟨#[106, 101]⟩, ⟨#[106, 110, 101]⟩, ⟨#[106, 108]⟩, ⟨#[106, 108, 101]⟩, ⟨#[106, 103]⟩, ⟨#[106, 103, 101]⟩, ⟨#[106, 98]⟩, ⟨#[106, 98, 101]⟩, ⟨#[106, 97]⟩, ⟨#[106, 97, 101]⟩]

/-- Where a text stands first, counted on from a number; -1. -/
def firstAt (s : ByteArray) : List ByteArray → Nat → Int
  | [], _ => -1
  | t :: T, k => if (t.data.toList == s.data.toList) = true then k else firstAt s T (k + 1)

theorem first_drop (s : ByteArray) (T : List ByteArray) (i : Nat) (t : ByteArray) (h : T[i]? = some t) : firstAt s (T.drop i) i = if (t.data.toList == s.data.toList) = true then (i : Int) else firstAt s (T.drop (i + 1)) (i + 1) := by
  obtain ⟨hi, ht⟩ := List.getElem?_eq_some_iff.1 h
  rw [List.drop_eq_getElem_cons hi, ht]
  rfl

theorem first_ge (s : ByteArray) : ∀ (T : List ByteArray) (k : Nat), firstAt s T k = -1 ∨ (k : Int) ≤ firstAt s T k ∧ firstAt s T k < k + T.length
  | [], k => .inl rfl
  | t :: T, k => by
    simp only [firstAt, List.length_cons]
    split
    · right; omega
    · have := first_ge s T (k + 1); omega

/-- The register that a text is the word of. -/
def regF (s : ByteArray) : Int × Bool := if 0 ≤ firstAt s regsT 0 then (firstAt s regsT 0, true) else (0, false)

/-- What a text says that an instruction does, and the condition. -/
def opF (s : ByteArray) : Int × Int × Bool :=
  if s.data.toList.isEmpty = true then (0, 0, false)
  else if 0 ≤ firstAt s opsT 0 then (firstAt s opsT 0, 0, true)
  else if 0 ≤ firstAt s jumpsT 0 then (11, firstAt s jumpsT 0, true)
  else (0, 0, false)

def symT : ByteArray := ⟨#[115, 121, 109]⟩
def threadT : ByteArray := ⟨#[116, 104, 114, 101, 97, 100]⟩
def lockT : ByteArray := ⟨#[108, 111, 99, 107]⟩

/-- Whether a text is a word of the language. -/
def wordF (s : ByteArray) : Bool := s.data.toList == symT.data.toList || s.data.toList == threadT.data.toList || s.data.toList == lockT.data.toList || (regF s).2 || (opF s).2.2

/-- The text at a place; empty, if there is none. -/
def textAt (T : List ByteArray) (i : Int) : ByteArray := if 0 ≤ i ∧ i < T.length then T.getD i.toNat ⟨#[]⟩ else ⟨#[]⟩

def regTextF (r : Int) : ByteArray := textAt regsT r
def opTextF (op cond : Int) : ByteArray := if op = 11 then textAt jumpsT cond else if cond = 0 then textAt opsT op else ⟨#[]⟩

/-- A text that is not empty does not stand where an empty one does. -/
theorem first_zero (s : ByteArray) (T : List ByteArray) (h : ¬ s.data.toList.isEmpty = true) : firstAt s (⟨#[]⟩ :: T) 0 ≠ 0 := by
  have e : ((⟨#[]⟩ : ByteArray).data.toList == s.data.toList) = false := by
    have : (⟨#[]⟩ : ByteArray).data.toList = [] := rfl
    rw [this]
    cases hs : s.data.toList with
    | nil => rw [hs] at h; exact absurd rfl h
    | cons a l => rfl
  have := first_ge s T (0 + 1)
  intro h0
  rw [firstAt, e] at h0
  simp only [Bool.false_eq_true, if_false] at h0
  omega

theorem ops_pos (s : ByteArray) (h : ¬ s.data.toList.isEmpty = true) : (0 ≤ firstAt s opsT 0) ↔ 0 < firstAt s opsT 0 := by
  have : firstAt s opsT 0 ≠ 0 := first_zero s opsT.tail h
  omega

theorem jumps_pos (s : ByteArray) (h : ¬ s.data.toList.isEmpty = true) : (0 ≤ firstAt s jumpsT 0) ↔ 0 < firstAt s jumpsT 0 := by
  have : firstAt s jumpsT 0 ≠ 0 := first_zero s jumpsT.tail h
  omega

end Go.Proofs.YtegogmbcjjjjjaaDoor

namespace Go.Proofs.YtegogmbcjjjjjaaDoor
open Go.RowKit

/-- A table of texts in memory. -/
def Tab (w : World) (g : Nat) (T : List ByteArray) : Prop := ∀ i t, T[i]? = some t → w.cell? ⟨g, i, none⟩ = some (.string t)

theorem Tab.later {w w' : World} {g : Nat} {T : List ByteArray} (h : Tab w g T) (hl : Later w w') : Tab w' g T := fun i t ht => cell_later (h i t ht) hl

theorem same_true {t s : ByteArray} (h : (t.data.toList == s.data.toList) = true) : (t.toList == s.toList) = true := by rw [ByteArray.toList_eq, ByteArray.toList_eq]; exact h
theorem same_false {t s : ByteArray} (h : ¬ (t.data.toList == s.data.toList) = true) : (t.toList == s.toList) = false := by rw [ByteArray.toList_eq, ByteArray.toList_eq]; exact Bool.eq_false_iff.2 h

end Go.Proofs.YtegogmbcjjjjjaaDoor

namespace Go.Proofs.YtegogmbcjjjjjaaDoor
open Go.RowKit

theorem setCell_block {w : World} {B : Nat} {cs : Array Value} {t : TypeId} {fz : Nat × Nat} (h : w.heap[B]? = some (.cells cs t fz)) (j : Nat) (v : Value) :
    (w.setCell ⟨B, j, none⟩ v).heap[B]? = some (.cells (cs.setIfInBounds j v) t fz) := by
  show (w.heap.modify B _)[B]? = _
  rw [Array.getElem?_modify, if_pos rfl, h]
  rfl

theorem at_new (w : World) (o : Obj) : (w.alloc o).heap[w.heap.size]? = some o := by
  show (w.heap.push o)[w.heap.size]? = _
  simp

theorem box1_facts {w : World} {B : Nat} {a : Value} {t : TypeId} (h : w.heap[B]? = some (.cells #[a] t)) : w.cell? ⟨B, 0, none⟩ = some a ∧ w.frozen? ⟨B, 0, none⟩ = false := by
  simp [World.cell?, World.frozen?, h]

theorem box2_facts {w : World} {B : Nat} {a b : Value} {t : TypeId} (h : w.heap[B]? = some (.cells #[a, b] t)) :
    w.cell? ⟨B, 0, none⟩ = some a ∧ w.cell? ⟨B, 1, none⟩ = some b ∧ w.frozen? ⟨B, 0, none⟩ = false ∧ w.frozen? ⟨B, 1, none⟩ = false := by
  simp [World.cell?, World.frozen?, h]

theorem box3_facts {w : World} {B : Nat} {a b c : Value} {t : TypeId} (h : w.heap[B]? = some (.cells #[a, b, c] t)) :
    w.cell? ⟨B, 0, none⟩ = some a ∧ w.cell? ⟨B, 1, none⟩ = some b ∧ w.cell? ⟨B, 2, none⟩ = some c ∧ w.frozen? ⟨B, 0, none⟩ = false ∧ w.frozen? ⟨B, 1, none⟩ = false ∧ w.frozen? ⟨B, 2, none⟩ = false := by
  simp [World.cell?, World.frozen?, h]

theorem box3_stored {w : World} {B : Nat} {a b c : Value} {t : TypeId} (h : w.heap[B]? = some (.cells #[a, b, c] t)) (x y z : Value) :
    (((w.setCell ⟨B, 0, none⟩ x).setCell ⟨B, 1, none⟩ y).setCell ⟨B, 2, none⟩ z).heap[B]? = some (.cells #[x, y, z] t) := by
  rw [setCell_block (setCell_block (setCell_block h 0 x) 1 y) 2 z]
  rfl

theorem four_new (w : World) (t : TypeId) (a b c d : Value) : (w.alloc (.cells #[a, b, c, d] t)).cell? ⟨w.heap.size, 0, none⟩ = some a ∧ (w.alloc (.cells #[a, b, c, d] t)).cell? ⟨w.heap.size, 1, none⟩ = some b ∧ (w.alloc (.cells #[a, b, c, d] t)).cell? ⟨w.heap.size, 2, none⟩ = some c ∧ (w.alloc (.cells #[a, b, c, d] t)).cell? ⟨w.heap.size, 3, none⟩ = some d := by
  refine ⟨?_, ?_, ?_, ?_⟩ <;> simp

theorem box4_facts {w : World} {B : Nat} {a b c d : Value} {t : TypeId} (h : w.heap[B]? = some (.cells #[a, b, c, d] t)) :
    w.cell? ⟨B, 0, none⟩ = some a ∧ w.cell? ⟨B, 1, none⟩ = some b ∧ w.cell? ⟨B, 2, none⟩ = some c ∧ w.cell? ⟨B, 3, none⟩ = some d ∧ w.frozen? ⟨B, 0, none⟩ = false ∧ w.frozen? ⟨B, 1, none⟩ = false ∧ w.frozen? ⟨B, 2, none⟩ = false ∧ w.frozen? ⟨B, 3, none⟩ = false := by
  simp [World.cell?, World.frozen?, h]

theorem box4_stored {w : World} {B : Nat} {a b c d : Value} {t : TypeId} (h : w.heap[B]? = some (.cells #[a, b, c, d] t)) (x y z u : Value) :
    ((((w.setCell ⟨B, 0, none⟩ x).setCell ⟨B, 1, none⟩ y).setCell ⟨B, 2, none⟩ z).setCell ⟨B, 3, none⟩ u).heap[B]? = some (.cells #[x, y, z, u] t) := by
  rw [setCell_block (setCell_block (setCell_block (setCell_block h 0 x) 1 y) 2 z) 3 u]
  rfl

/-- A block that was there is there in a later world. -/
theorem heap_later {w w' : World} (h : Later w w') {B : Nat} {o : Obj} (hb : w.heap[B]? = some o) : w'.heap[B]? = some o := by
  have hlt : B < w.heap.size := by
    rcases Nat.lt_or_ge B w.heap.size with h' | h'
    · exact h'
    · rw [Array.getElem?_eq_none h'] at hb; cases hb
  rw [h.block B hlt]; exact hb

theorem two_new2 (w : World) (o p : Obj) : ((w.alloc o).alloc p).heap[w.heap.size]? = some o ∧ ((w.alloc o).alloc p).heap[w.heap.size + 1]? = some p := by
  have e1 : (w.alloc o).heap.size = w.heap.size + 1 := by simp
  refine ⟨heap_later (Later.alloc (Later.refl _) p) (at_new w o), ?_⟩
  have h := at_new (w.alloc o) p
  rw [e1] at h
  exact h

end Go.Proofs.YtegogmbcjjjjjaaDoor

namespace Go.Proofs.YtegogmbcjjjjjaaDoor
open Go.Lib

/-- Whether a text is read: it is the text of the number that it spells. -/
def okOf (l : List UInt8) : Bool := match atoiAll l with | .ok v => decide (itoa v = l) | _ => false
/-- What a text is read as; 0, if it is not read. -/
def valOf (l : List UInt8) : Int := match atoiAll l with | .ok v => if itoa v = l then v else 0 | _ => 0

/-- What a row of digits spells, behind what stands ahead of it. -/
def spell (acc : Nat) : List UInt8 → Nat
  | [] => acc
  | c :: r => spell (acc * 10 + (c.toNat - 48)) r

/-- Digits alone. -/
def Digs (l : List UInt8) : Prop := ∀ c ∈ l, 48 ≤ c.toNat ∧ c.toNat ≤ 57

theorem spell_append (l : List UInt8) (c : UInt8) : ∀ acc, spell acc (l ++ [c]) = spell acc l * 10 + (c.toNat - 48) := by
  induction l with
  | nil => intro acc; rfl
  | cons x r ih => intro acc; exact ih _

theorem spell_ge (l : List UInt8) : ∀ acc, acc ≤ spell acc l := by
  induction l with
  | nil => intro acc; exact Nat.le_refl _
  | cons x r ih => intro acc; exact Nat.le_trans (by omega) (ih _)

theorem digit_toNat {d : Nat} (h : d < 10) : (UInt8.ofNat (48 + d)).toNat = 48 + d := by
  rw [UInt8.toNat_ofNat']
  omega

theorem dec_big {u : Nat} (h : ¬ u < 10) : decDigits u = decDigits (u / 10) ++ [UInt8.ofNat (48 + u % 10)] := by
  rw [decDigits, dif_neg h]

theorem dec_digs (u : Nat) : Digs (decDigits u) := by
  induction u using Nat.strongRecOn with
  | _ u ih =>
    by_cases h : u < 10
    · rw [decDigits_one h]
      intro c hc
      obtain rfl := List.mem_singleton.1 hc
      rw [digit_toNat h]; omega
    · rw [dec_big h]
      intro c hc
      rcases List.mem_append.1 hc with h1 | h1
      · exact ih _ (by omega) c h1
      · obtain rfl := List.mem_singleton.1 h1
        rw [digit_toNat (by omega)]; omega

theorem spell_dec (u : Nat) : spell 0 (decDigits u) = u := by
  induction u using Nat.strongRecOn with
  | _ u ih =>
    by_cases h : u < 10
    · have e := digit_toNat h
      have e1 : spell 0 [UInt8.ofNat (48 + u)] = 0 * 10 + ((UInt8.ofNat (48 + u)).toNat - 48) := rfl
      rw [decDigits_one h, e1, e, Nat.add_sub_cancel_left, Nat.zero_mul, Nat.zero_add]
    · rw [dec_big h, spell_append, ih _ (by omega), digit_toNat (by omega)]
      omega

theorem dec_ne_nil (u : Nat) : decDigits u ≠ [] := by
  intro h
  have := decDigits_length u
  rw [h] at this
  have := nDigits_pos u
  simp at *
  omega

/-- A text that begins with 0 is that of 0. -/
theorem dec_head (u : Nat) : ∀ r, decDigits u = 48 :: r → u = 0 ∧ r = [] := by
  induction u using Nat.strongRecOn with
  | _ u ih =>
    intro r h
    by_cases hu : u < 10
    · rw [decDigits_one hu] at h
      simp only [List.cons.injEq] at h
      have := congrArg UInt8.toNat h.1
      rw [digit_toNat hu] at this
      have e : (48 : UInt8).toNat = 48 := rfl
      exact ⟨by omega, h.2.symm⟩
    · rw [dec_big hu] at h
      match hd : decDigits (u / 10), h with
      | [], _ => exact absurd hd (dec_ne_nil _)
      | c :: r', h =>
        simp only [List.cons_append, List.cons.injEq] at h
        obtain ⟨rfl, _⟩ := h
        have := ih (u / 10) (by omega) r' hd
        omega

/-- Digits, not none, with no needless 0 ahead, are the text of what they spell. -/
theorem dec_spell : ∀ (n : Nat) (l : List UInt8), l.length = n → Digs l → l ≠ [] → (∀ r, l = 48 :: r → r = []) → decDigits (spell 0 l) = l := by
  intro n
  induction n with
  | zero => intro l hl _ hne; exact absurd (List.length_eq_zero_iff.1 hl) hne
  | succ n ih =>
    intro l hl hd hne hz
    obtain ⟨r, c, rfl⟩ : ∃ r c, l = r ++ [c] := ⟨l.dropLast, l.getLast hne, (List.dropLast_concat_getLast hne).symm⟩
    have hc := hd c (by simp)
    have hcc : UInt8.ofNat (48 + (c.toNat - 48)) = c := by
      rw [show 48 + (c.toNat - 48) = c.toNat by omega]; simp
    cases r with
    | nil =>
      have e1 : spell 0 ([] ++ [c]) = c.toNat - 48 := by
        show 0 * 10 + (c.toNat - 48) = _
        rw [Nat.zero_mul, Nat.zero_add]
      rw [e1, decDigits_one (i := c.toNat - 48) (by omega), hcc]
      rfl
    | cons x r =>
      have hlen : (x :: r).length = n := by simp at hl ⊢; omega
      have hx : x ≠ 48 := by
        rintro rfl
        have := hz (r ++ [c]) rfl
        simp at this
      have hr := ih (x :: r) hlen (fun d hd' => hd d (by simp at hd' ⊢; rcases hd' with h | h <;> simp [h])) (by simp) (fun r' e => by simp only [List.cons.injEq] at e; exact absurd e.1 hx)
      have hpos : spell 0 (x :: r) ≠ 0 := by
        intro h0
        rw [h0, decDigits_one (by omega)] at hr
        simp only [List.cons.injEq] at hr
        exact hx hr.1.symm
      rw [spell_append, dec_big (by omega), show (spell 0 (x :: r) * 10 + (c.toNat - 48)) / 10 = spell 0 (x :: r) by omega,
        show (spell 0 (x :: r) * 10 + (c.toNat - 48)) % 10 = c.toNat - 48 by omega, hr, hcc]

theorem parse_digs (l : List UInt8) : ∀ acc, Digs l → spell acc l < 18446744073709551616 → parseUint10 acc l = .ok (spell acc l) := by
  induction l with
  | nil => intro acc _ _; rfl
  | cons c r ih =>
    intro acc hd hv
    have hc := hd c (by simp)
    have hge := spell_ge r (acc * 10 + (c.toNat - 48))
    have e1 : spell acc (c :: r) = spell (acc * 10 + (c.toNat - 48)) r := rfl
    rw [e1] at hv ⊢
    have h1 : ¬ 1844674407370955162 ≤ acc := by omega
    have h2 : ¬ 18446744073709551616 ≤ acc * 10 + (c.toNat - 48) := by omega
    have e2 : parseUint10 acc (c :: r) = parseUint10 (acc * 10 + (c.toNat - 48)) r := by
      simp only [parseUint10, hc, h1, h2, and_self, if_true, if_false]
    rw [e2]
    exact ih _ (fun d h => hd d (by simp [h])) hv

theorem parse_dec (u : Nat) (h : u < 18446744073709551616) : parseMag (decDigits u) = .ok u := by
  rw [parseMag, if_neg (dec_ne_nil u), parse_digs _ _ (dec_digs u) (by rw [spell_dec]; exact h), spell_dec]

/-- A number's text is read as the number. -/
theorem atoi_itoa (n : Int) (h0 : -9223372036854775808 ≤ n) (h1 : n ≤ 9223372036854775807) : atoiAll (itoa n) = .ok n := by
  by_cases hneg : n < 0
  · obtain ⟨u, rfl⟩ : ∃ u : Nat, n = -(u : Int) := ⟨n.natAbs, by omega⟩
    rw [itoa_neg u (by omega), atoiAll_minus, parse_dec u (by omega)]
    simp only [signed]
    rw [if_neg (by omega)]
  · obtain ⟨u, rfl⟩ : ∃ u : Nat, n = u := ⟨n.toNat, by omega⟩
    rw [itoa_nonneg]
    match hd : decDigits u with
    | [] => exact absurd hd (dec_ne_nil u)
    | c :: r =>
      have hc := dec_digs u c (by rw [hd]; simp)
      rw [atoiAll_plain c r (by omega) (by omega), ← hd, parse_dec u (by omega)]
      simp only [signless]
      rw [if_neg (by omega)]

theorem ok_itoa (n : Int) (h0 : -9223372036854775808 ≤ n) (h1 : n ≤ 9223372036854775807) : okOf (itoa n) = true := by
  simp [okOf, atoi_itoa n h0 h1]
theorem val_itoa (n : Int) (h0 : -9223372036854775808 ≤ n) (h1 : n ≤ 9223372036854775807) : valOf (itoa n) = n := by
  simp [valOf, atoi_itoa n h0 h1]

/-- What is read is the text of a number of 64 bits. -/
theorem ok_text {l : List UInt8} (h : okOf l = true) : itoa (valOf l) = l ∧ -9223372036854775808 ≤ valOf l ∧ valOf l ≤ 9223372036854775807 := by
  unfold okOf at h
  unfold valOf
  split at h
  · rename_i v hv
    have e : itoa v = l := of_decide_eq_true h
    simp only [e, if_true]
    exact ⟨trivial, atoiAll_bounds hv⟩
  · cases h

theorem val_none {l : List UInt8} (h : okOf l = false) : valOf l = 0 := by
  unfold okOf at h
  unfold valOf
  split at h
  · rename_i v hv
    have e : ¬ itoa v = l := of_decide_eq_false h
    simp [e]
  · rfl

/-- What is the text of no number of 64 bits is not read. -/
theorem ok_none {l : List UInt8} (h : ∀ v, -9223372036854775808 ≤ v → v ≤ 9223372036854775807 → itoa v ≠ l) : okOf l = false := by
  cases ho : okOf l with
  | false => rfl
  | true => obtain ⟨e, a, b⟩ := ok_text ho; exact absurd e (h _ a b)

theorem itoa_ne_nil (n : Int) : itoa n ≠ [] := by
  unfold itoa
  split
  · simp
  · exact dec_ne_nil _

/-- The bytes of a text are digits, and the first one may be a minus. -/
theorem itoa_bytes (n : Int) : ∀ c ∈ itoa n, c.toNat = 45 ∨ (48 ≤ c.toNat ∧ c.toNat ≤ 57) := by
  intro c hc
  unfold itoa at hc
  split at hc
  · rcases List.mem_cons.1 hc with rfl | h
    · exact Or.inl rfl
    · exact Or.inr (dec_digs _ c h)
  · exact Or.inr (dec_digs _ c hc)

/-! ### A text that is bent -/

/-- With a byte ahead that is neither a digit nor a minus, or at the end: not read. -/
theorem bent_byte (l : List UInt8) (b : UInt8) (hb : b ∈ l) (h : b.toNat = 43 ∨ b.toNat = 32) : okOf l = false :=
  ok_none fun v _ _ e => by
    have := itoa_bytes v b (by rw [e]; exact hb)
    omega

theorem bent_zero (n : Int) : okOf (48 :: itoa n) = false :=
  ok_none fun v _ _ e => by
    unfold itoa at e
    split at e
    · simp at e
    · obtain ⟨_, h⟩ := dec_head _ _ e
      exact itoa_ne_nil n h

theorem minus_pos (n : Int) (h : 0 < n) : (45 :: itoa n) = itoa (-n) := by
  obtain ⟨u, rfl⟩ : ∃ u : Nat, n = u := ⟨n.toNat, by omega⟩
  rw [itoa_nonneg, itoa_neg u (by omega)]

theorem bent_minus (n : Int) (h : n ≤ 0) : okOf (45 :: itoa n) = false :=
  ok_none fun v _ _ e => by
    by_cases hv : v < 0
    · obtain ⟨u, rfl⟩ : ∃ u : Nat, v = -(u : Int) := ⟨v.natAbs, by omega⟩
      rw [itoa_neg u (by omega)] at e
      simp only [List.cons.injEq, true_and] at e
      by_cases hn : n < 0
      · obtain ⟨k, rfl⟩ : ∃ k : Nat, n = -(k : Int) := ⟨n.natAbs, by omega⟩
        rw [itoa_neg k (by omega)] at e
        have := dec_digs u 45 (by rw [e]; simp)
        have e45 : (45 : UInt8).toNat = 45 := rfl
        omega
      · have : n = 0 := by omega
        subst this
        have e0 : itoa 0 = 48 :: [] := by rw [show (0 : Int) = ((0 : Nat) : Int) from rfl, itoa_nonneg, decDigits_one (by omega)]; rfl
        rw [e0] at e
        have := (dec_head _ _ e).1
        omega
    · obtain ⟨u, rfl⟩ : ∃ u : Nat, v = u := ⟨v.toNat, by omega⟩
      rw [itoa_nonneg] at e
      have := dec_digs u 45 (by rw [e]; simp)
      have e45 : (45 : UInt8).toNat = 45 := rfl
      omega

/-! ### The order -/

/-- Which of two lists of bytes comes first. -/
def before : List UInt8 → List UInt8 → Bool
  | [], [] => false
  | [], _ :: _ => true
  | _ :: _, [] => false
  | a :: r, b :: s => decide (a.toNat < b.toNat) || (a.toNat == b.toNat && before r s)

theorem spell_lt : ∀ (l r : List UInt8) (a b : Nat), l.length = r.length → Digs l → Digs r → a < b → spell a l < spell b r
  | [], [], a, b, _, _, _, h => h
  | c :: l, d :: r, a, b, hl, hc, hd, h => by
    have h1 := hc c (by simp)
    have h2 := hd d (by simp)
    exact spell_lt l r _ _ (by simpa using hl) (fun x hx => hc x (by simp [hx])) (fun x hx => hd x (by simp [hx])) (by omega)

theorem before_spell : ∀ (l r : List UInt8) (a : Nat), l.length = r.length → Digs l → Digs r → before l r = decide (spell a l < spell a r)
  | [], [], a, _, _, _ => (decide_eq_false (Nat.lt_irrefl a)).symm
  | c :: l, d :: r, a, hl, hc, hd => by
    have h1 := hc c (by simp)
    have h2 := hd d (by simp)
    have hl' : l.length = r.length := by simpa using hl
    have hc' : Digs l := fun x hx => hc x (by simp [hx])
    have hd' : Digs r := fun x hx => hd x (by simp [hx])
    have e1 : before (c :: l) (d :: r) = (decide (c.toNat < d.toNat) || (c.toNat == d.toNat && before l r)) := rfl
    have e2 : spell a (c :: l) = spell (a * 10 + (c.toNat - 48)) l := rfl
    have e3 : spell a (d :: r) = spell (a * 10 + (d.toNat - 48)) r := rfl
    have e4 : decide (spell a (c :: l) < spell a (d :: r)) = decide (spell (a * 10 + (c.toNat - 48)) l < spell (a * 10 + (d.toNat - 48)) r) := by simp only [e2, e3]
    rw [e1, e4]
    clear e1 e2 e3 e4
    rcases Nat.lt_trichotomy c.toNat d.toNat with h | h | h
    · have := spell_lt l r (a * 10 + (c.toNat - 48)) (a * 10 + (d.toNat - 48)) hl' hc' hd' (by omega)
      simp [h, this]
    · rw [before_spell l r (a * 10 + (c.toNat - 48)) hl' hc' hd', h]
      simp
    · have := spell_lt r l (a * 10 + (d.toNat - 48)) (a * 10 + (c.toNat - 48)) hl'.symm hd' hc' (by omega)
      have e1 : ¬ c.toNat < d.toNat := by omega
      have e2 : (c.toNat == d.toNat) = false := by simp; omega
      have e3 : ¬ spell (a * 10 + (c.toNat - 48)) l < spell (a * 10 + (d.toNat - 48)) r := by omega
      simp [e1, e2, e3]

theorem nDigits_mono {u v : Nat} (h : u ≤ v) : nDigits u ≤ nDigits v := by
  induction v using Nat.strongRecOn generalizing u with
  | _ v ih =>
    by_cases hu : u < 10
    · rw [nDigits_small hu]; exact nDigits_pos v
    · rw [nDigits_big hu, nDigits_big (u := v) (by omega)]
      have := ih (v / 10) (by omega) (u := u / 10) (by omega)
      omega

/-- Of two numbers the lesser one's text is shorter, or as long and comes first. -/
theorem order_dec (u v : Nat) : decide (u < v) = (decide ((decDigits u).length < (decDigits v).length) || (((decDigits u).length == (decDigits v).length) && before (decDigits u) (decDigits v))) := by
  rcases Nat.lt_trichotomy (decDigits u).length (decDigits v).length with h | h | h
  · have hlt : u < v := by
      rcases Nat.lt_or_ge u v with h' | h'
      · exact h'
      · have := nDigits_mono h'
        rw [decDigits_length, decDigits_length] at h
        omega
    simp [h, hlt]
  · rw [before_spell _ _ 0 h (dec_digs u) (dec_digs v), spell_dec, spell_dec, h]
    simp
  · have hlt : ¬ u < v := by
      intro h'
      have := nDigits_mono (Nat.le_of_lt h')
      rw [decDigits_length, decDigits_length] at h
      omega
    have e1 : ¬ (decDigits u).length < (decDigits v).length := by omega
    have e2 : ((decDigits u).length == (decDigits v).length) = false := by simp; omega
    rw [decide_eq_false hlt, decide_eq_false e1, e2]
    rfl

/-! ### What the document's own reader takes -/

/-- Digits with no needless 0 ahead, below the end: the text of a number. -/
theorem read_plain {l : List UInt8} (hd : Digs l) (hne : l ≠ []) (hz : ∀ r, l = 48 :: r → r = []) (hv : spell 0 l < 9223372036854775808) : okOf l = true ∧ valOf l = (spell 0 l : Nat) := by
  have e : itoa ((spell 0 l : Nat) : Int) = l := by rw [itoa_nonneg, dec_spell _ l rfl hd hne hz]
  have a := ok_itoa ((spell 0 l : Nat) : Int) (by omega) (by omega)
  have b := val_itoa ((spell 0 l : Nat) : Int) (by omega) (by omega)
  rw [e] at a b
  exact ⟨a, b⟩

/-- .. and behind a minus. -/
theorem read_minus {l : List UInt8} (hd : Digs l) (hne : l ≠ []) (hz : ∀ r, l ≠ 48 :: r) (hv : spell 0 l ≤ 9223372036854775808) : okOf (45 :: l) = true ∧ valOf (45 :: l) = -((spell 0 l : Nat) : Int) := by
  have e := dec_spell _ l rfl hd hne (fun r h => absurd h (hz r))
  have hp : 1 ≤ spell 0 l := by
    rcases Nat.eq_zero_or_pos (spell 0 l) with h0 | h0
    · rw [h0, decDigits_one (by omega)] at e
      exact absurd e.symm (hz [])
    · exact h0
  have e2 : itoa (-((spell 0 l : Nat) : Int)) = 45 :: l := by rw [itoa_neg _ hp, e]
  have a := ok_itoa (-((spell 0 l : Nat) : Int)) (by omega) (by omega)
  have b := val_itoa (-((spell 0 l : Nat) : Int)) (by omega) (by omega)
  rw [e2] at a b
  exact ⟨a, b⟩

/-- What a text that is read looks like, if it begins with no minus. -/
theorem plain_read {l : List UInt8} (h : okOf l = true) (hm : ∀ r, l ≠ 45 :: r) : Digs l ∧ l ≠ [] ∧ l.length ≤ 19 ∧ (∀ r, l = 48 :: r → r = []) ∧ spell 0 l < 9223372036854775808 := by
  obtain ⟨e, a, b⟩ := ok_text h
  generalize valOf l = v at e a b
  by_cases hv : v < 0
  · obtain ⟨u, rfl⟩ : ∃ u : Nat, v = -(u : Int) := ⟨v.natAbs, by omega⟩
    rw [itoa_neg u (by omega)] at e
    exact absurd e.symm (hm _)
  · obtain ⟨u, rfl⟩ : ∃ u : Nat, v = u := ⟨v.toNat, by omega⟩
    rw [itoa_nonneg] at e
    subst e
    refine ⟨dec_digs u, dec_ne_nil u, ?_, fun r hr => (dec_head u r hr).2, by rw [spell_dec]; omega⟩
    rw [decDigits_length]
    have h19 : nDigits 9223372036854775807 = 19 := nDigits_unique 18 _ (by decide) (by decide)
    have := nDigits_mono (u := u) (v := 9223372036854775807) (by omega)
    omega

/-- .. and behind a minus. -/
theorem minus_read {l : List UInt8} (h : okOf (45 :: l) = true) : Digs l ∧ l ≠ [] ∧ l.length ≤ 19 ∧ (∀ r, l ≠ 48 :: r) ∧ spell 0 l ≤ 9223372036854775808 := by
  obtain ⟨e, a, b⟩ := ok_text h
  generalize valOf (45 :: l) = v at e a b
  by_cases hv : v < 0
  · obtain ⟨u, rfl⟩ : ∃ u : Nat, v = -(u : Int) := ⟨v.natAbs, by omega⟩
    rw [itoa_neg u (by omega)] at e
    simp only [List.cons.injEq, true_and] at e
    subst e
    refine ⟨dec_digs u, dec_ne_nil u, ?_, fun r hr => by have := (dec_head u r hr).1; omega, by rw [spell_dec]; omega⟩
    rw [decDigits_length]
    have h19 : nDigits 9223372036854775808 = 19 := nDigits_unique 18 _ (by decide) (by decide)
    have := nDigits_mono (u := u) (v := 9223372036854775808) (by omega)
    omega
  · obtain ⟨u, rfl⟩ : ∃ u : Nat, v = u := ⟨v.toNat, by omega⟩
    rw [itoa_nonneg] at e
    have := dec_digs u 45 (by rw [e]; simp)
    have e45 : (45 : UInt8).toNat = 45 := rfl
    omega

end Go.Proofs.YtegogmbcjjjjjaaDoor

namespace Go.Proofs.YtegogmbcjjjjjaaDoor
open Go.Lib

/-- A rune with its bytes. -/
structure Mk where
  r : Nat
  b : List UInt8

/-- Whether it stands for a byte that belongs to none. -/
def Mk.bad (x : Mk) : Bool := badOf x.r x.b.length

/-- The first rune. -/
def mk1 (l : List UInt8) : Mk := ⟨(decodeL l).1, l.take (decodeL l).2⟩

def marksF : Nat → List UInt8 → List Mk
  | 0, _ => []
  | _ + 1, [] => []
  | f + 1, b :: l => mk1 (b :: l) :: marksF f ((b :: l).drop (decodeL (b :: l)).2)

/-- All runes of a text. -/
def marks (l : List UInt8) : List Mk := marksF l.length l

/-- The bytes of runes. -/
def bytes (M : List Mk) : List UInt8 := M.flatMap Mk.b

theorem bytes_nil : bytes [] = [] := rfl
theorem bytes_cons (x : Mk) (M : List Mk) : bytes (x :: M) = x.b ++ bytes M := rfl
theorem bytes_append (A B : List Mk) : bytes (A ++ B) = bytes A ++ bytes B := by simp [bytes]

theorem dL_pos (l : List UInt8) (h : l ≠ []) : 1 ≤ (decodeL l).2 ∧ (decodeL l).2 ≤ l.length ∧ (decodeL l).2 ≤ 4 ∧ (decodeL l).1 ≤ 1114111 := by
  rw [decodeL_N]
  have : 1 ≤ l.length := by cases l with | nil => exact absurd rfl h | cons => simp
  exact dN_facts _ _ _ _ _ this (UInt8.toNat_lt _)

theorem marksF_fuel : ∀ (f g : Nat) (l : List UInt8), l.length ≤ f → l.length ≤ g → marksF f l = marksF g l
  | 0, 0, l, _, _ => rfl
  | 0, g + 1, [], _, _ => rfl
  | f + 1, 0, [], _, _ => rfl
  | f + 1, g + 1, [], _, _ => rfl
  | f + 1, g + 1, b :: l, hf, hg => by
    have h := dL_pos (b :: l) (by simp)
    show _ :: _ = _ :: _
    rw [marksF_fuel f g _ (by rw [List.length_drop]; omega) (by rw [List.length_drop]; omega)]

theorem marks_nil : marks [] = [] := rfl

theorem marks_cons (l : List UInt8) (h : l ≠ []) : marks l = mk1 l :: marks (l.drop (decodeL l).2) := by
  cases l with
  | nil => exact absurd rfl h
  | cons b l =>
    have hp := dL_pos (b :: l) h
    show _ :: marksF l.length _ = _ :: marksF _ _
    rw [marksF_fuel l.length _ _ (by rw [List.length_drop]; simp only [List.length_cons] at *; omega) (Nat.le_refl _)]

theorem mk1_len (l : List UInt8) (h : l ≠ []) : (mk1 l).b.length = (decodeL l).2 := by
  have := dL_pos l h
  show (l.take _).length = _
  rw [List.length_take]; omega

/-- Induction over a text's runes. -/
theorem marks_ind {P : List UInt8 → Prop} (h0 : P []) (h1 : ∀ l, l ≠ [] → P (l.drop (decodeL l).2) → P l) (l : List UInt8) : P l := by
  induction hn : l.length using Nat.strongRecOn generalizing l with
  | _ n ih =>
    by_cases hl : l = []
    · subst hl; exact h0
    · have := dL_pos l hl
      exact h1 l hl (ih _ (by rw [List.length_drop]; omega) _ rfl)

theorem marks_bytes (l : List UInt8) : bytes (marks l) = l := by
  induction l using marks_ind with
  | h0 => rfl
  | h1 l hl ih =>
    rw [marks_cons l hl, bytes_cons, ih]
    exact List.take_append_drop _ _

theorem marks_pos (l : List UInt8) : ∀ x ∈ marks l, 1 ≤ x.b.length ∧ x.b.length ≤ 4 ∧ x.r ≤ 1114111 := by
  induction l using marks_ind with
  | h0 => intro x hx; simp [marks_nil] at hx
  | h1 l hl ih =>
    intro x hx
    rw [marks_cons l hl] at hx
    rcases List.mem_cons.1 hx with rfl | h
    · have := dL_pos l hl
      rw [mk1_len l hl]
      exact ⟨this.1, this.2.2⟩
    · exact ih x h

/-- A rune that is not bad hangs on its own bytes alone. -/
theorem dN_fix (n m b0 b1 b2 b3 c1 c2 c3 : Nat) (hm : (decodeN n b0 b1 b2 b3).2 ≤ m) (h1 : 1 < (decodeN n b0 b1 b2 b3).2 → c1 = b1) (h2 : 2 < (decodeN n b0 b1 b2 b3).2 → c2 = b2) (h3 : 3 < (decodeN n b0 b1 b2 b3).2 → c3 = b3)
    (hb : ¬ ((decodeN n b0 b1 b2 b3).1 = 65533 ∧ (decodeN n b0 b1 b2 b3).2 = 1)) : decodeN m b0 c1 c2 c3 = decodeN n b0 b1 b2 b3 := by
  unfold decodeN at hb hm h1 h2 h3 ⊢
  by_cases k0 : b0 < 128
  · rw [if_pos k0, if_pos k0]
  · rw [if_neg k0] at hb hm h1 h2 h3 ⊢
    rw [if_neg k0]
    by_cases k1 : b0 / 32 = 6 ∧ (1 < n ∧ b1 / 64 = 2)
    · rw [if_pos k1] at hb hm h1 h2 h3 ⊢
      by_cases j1 : b0 % 32 * 64 + b1 % 64 ≥ 128
      · rw [if_pos j1] at hb hm h1 h2 h3
        have := h1 (by simp); subst this
        simp only at hm
        rw [if_pos ⟨k1.1, by omega, k1.2.2⟩]
      · rw [if_neg j1] at hb; exact absurd ⟨rfl, rfl⟩ hb
    · rw [if_neg k1] at hb hm h1 h2 h3 ⊢
      by_cases k2 : b0 / 16 = 14 ∧ (1 < n ∧ b1 / 64 = 2) ∧ (2 < n ∧ b2 / 64 = 2)
      · rw [if_pos k2] at hb hm h1 h2 h3 ⊢
        split at hm
        · rename_i j2
          rw [if_pos j2] at hb h1 h2 h3
          have := h1 (by simp); subst this
          have := h2 (by simp); subst this
          simp only at hm
          rw [if_neg (by omega), if_pos ⟨k2.1, ⟨by omega, k2.2.1.2⟩, by omega, k2.2.2.2⟩]
        · rename_i j2
          rw [if_neg j2] at hb; exact absurd ⟨rfl, rfl⟩ hb
      · rw [if_neg k2] at hb hm h1 h2 h3 ⊢
        by_cases k3 : b0 / 8 = 30 ∧ (1 < n ∧ b1 / 64 = 2) ∧ (2 < n ∧ b2 / 64 = 2) ∧ (3 < n ∧ b3 / 64 = 2)
        · rw [if_pos k3] at hb hm h1 h2 h3 ⊢
          split at hm
          · rename_i j3
            rw [if_pos j3] at hb h1 h2 h3
            have := h1 (by simp); subst this
            have := h2 (by simp); subst this
            have := h3 (by simp); subst this
            simp only at hm
            rw [if_neg (by omega), if_neg (by omega), if_pos ⟨k3.1, ⟨by omega, k3.2.1.2⟩, ⟨by omega, k3.2.2.1.2⟩, by omega, k3.2.2.2.2⟩]
          · rename_i j3
            rw [if_neg j3] at hb; exact absurd ⟨rfl, rfl⟩ hb
        · rw [if_neg k3] at hb; exact absurd ⟨rfl, rfl⟩ hb

/-- A rune that is read so wherever its bytes stand. -/
def Wf (x : Mk) : Prop := x.b ≠ [] ∧ ∀ t, decodeL (x.b ++ t) = (x.r, x.b.length)

theorem badOf_false' {r k : Nat} (h : badOf r k = false) : ¬ (r = 65533 ∧ k = 1) := by
  rintro ⟨rfl, rfl⟩
  exact absurd h (by decide)

theorem getD_take (l : List UInt8) (k i : Nat) (t : List UInt8) (hi : i < k) (hk : k ≤ l.length) : (l.take k ++ t).getD i 0 = l.getD i 0 := by
  rw [List.getD_eq_getElem?_getD, List.getD_eq_getElem?_getD, List.getElem?_append_left (by rw [List.length_take]; omega), List.getElem?_take, if_pos hi]

theorem wf_mk1 (l : List UInt8) (h : l ≠ []) (hb : (mk1 l).bad = false) : Wf (mk1 l) := by
  have hp := dL_pos l h
  have hl := mk1_len l h
  have hb' := badOf_false' hb
  rw [hl] at hb'
  refine ⟨fun e => by rw [e] at hl; simp at hl; omega, fun t => ?_⟩
  rw [hl]
  show decodeL (l.take (decodeL l).2 ++ t) = ((decodeL l).1, (decodeL l).2)
  have hb2 : ¬ ((decodeL l).1 = 65533 ∧ (decodeL l).2 = 1) := hb'
  generalize hk : (decodeL l).2 = k at *
  have key : decodeL (l.take k ++ t) = decodeL l := by
    rw [decodeL_N] at hk hb2
    rw [decodeL_N, decodeL_N, getD_take l k 0 t (by omega) (by omega)]
    refine dN_fix _ _ _ _ _ _ _ _ _ (by rw [hk, List.length_append, List.length_take]; omega) ?_ ?_ ?_ (by rw [hk]; exact hb2)
    · rw [hk]; intro h1; rw [getD_take l k 1 t h1 (by omega)]
    · rw [hk]; intro h1; rw [getD_take l k 2 t h1 (by omega)]
    · rw [hk]; intro h1; rw [getD_take l k 3 t h1 (by omega)]
  rw [key, ← hk]

theorem wf_marks (l : List UInt8) : ∀ x ∈ marks l, x.bad = false → Wf x := by
  induction l using marks_ind with
  | h0 => intro x hx; simp [marks_nil] at hx
  | h1 l hl ih =>
    intro x hx hb
    rw [marks_cons l hl] at hx
    rcases List.mem_cons.1 hx with rfl | h
    · exact wf_mk1 l hl hb
    · exact ih x h hb

theorem marks_wf (x : Mk) (t : List UInt8) (h : Wf x) : marks (x.b ++ t) = x :: marks t := by
  have hd := h.2 t
  rw [marks_cons _ (by intro e; exact h.1 (List.append_eq_nil_iff.1 e).1)]
  unfold mk1
  rw [hd]
  simp

theorem marks_wfs (A : List Mk) (t : List UInt8) (h : ∀ x ∈ A, Wf x) : marks (bytes A ++ t) = A ++ marks t := by
  induction A with
  | nil => rfl
  | cons x A ih =>
    rw [bytes_cons, List.append_assoc, marks_wf x _ (h x (by simp)), ih (fun y hy => h y (by simp [hy]))]
    rfl

theorem marks_of_wfs (A : List Mk) (h : ∀ x ∈ A, Wf x) : marks (bytes A) = A := by
  have := marks_wfs A [] h
  rw [List.append_nil, marks_nil, List.append_nil] at this
  exact this

/-- A byte below 128 is a rune of its own. -/
theorem wf_byte (b : UInt8) (h : b.toNat < 128) : Wf ⟨b.toNat, [b]⟩ := by
  refine ⟨by simp, fun t => ?_⟩
  rw [decodeL_N]
  simp [decodeN, h]

/-! ### Their places -/

/-- The runes, with where each stands. -/
def ann : Nat → Nat → Nat → List Mk → List Sp
  | _, _, _, [] => []
  | p, l, c, x :: R => ⟨x.r, p, x.b.length, l, c, x.bad⟩ :: ann (p + x.b.length) (nl l x.r) (nc c x.r) R

theorem decodeL_drop (s : ByteArray) (pos : Nat) : decodeL (s.data.toList.drop pos) = Utf8.decode s pos := by
  rw [decodeL_N, decode_N]
  simp only [List.length_drop, List.getD_eq_getElem?_getD, List.getElem?_drop, Nat.add_zero]

theorem size_len (s : ByteArray) : s.data.toList.length = s.size := Array.length_toList

theorem marks_at (s : ByteArray) (pos : Nat) (h : pos < s.size) : marks (s.data.toList.drop pos) = ⟨(Utf8.decode s pos).1, (s.data.toList.drop pos).take (Utf8.decode s pos).2⟩ :: marks (s.data.toList.drop (pos + (Utf8.decode s pos).2)) := by
  have hne : s.data.toList.drop pos ≠ [] := by
    intro e
    have := congrArg List.length e
    rw [List.length_drop, size_len] at this
    simp at this; omega
  rw [marks_cons _ hne, List.drop_drop]
  unfold mk1
  rw [decodeL_drop]

theorem take_len (s : ByteArray) (pos : Nat) (h : pos < s.size) : ((s.data.toList.drop pos).take (Utf8.decode s pos).2).length = (Utf8.decode s pos).2 := by
  have := decode_pos s pos h
  rw [List.length_take, List.length_drop, size_len]; omega

theorem spots_ann (s : ByteArray) : ∀ (f pos l c : Nat), s.size ≤ pos + f → spotsFrom s f pos l c = ann pos l c (marks (s.data.toList.drop pos))
  | 0, pos, l, c, hf => by
    rw [List.drop_of_length_le (by rw [size_len]; omega)]
    rfl
  | f + 1, pos, l, c, hf => by
    by_cases h : pos < s.size
    · have hd := decode_pos s pos h
      rw [spots_more s f pos l c h, marks_at s pos h, spots_ann s f _ _ _ (by omega)]
      simp only [ann, spotAt, Mk.bad, take_len s pos h]
    · rw [spots_end s _ pos l c h, List.drop_of_length_le (by rw [size_len]; omega)]
      rfl

theorem spots_marks (s : ByteArray) : spots s = ann 0 1 1 (marks s.data.toList) := by
  have := spots_ann s s.size 0 1 1 (by omega)
  simpa [spots] using this

theorem ann_length : ∀ (M : List Mk) (p l c : Nat), (ann p l c M).length = M.length
  | [], _, _, _ => rfl
  | x :: M, p, l, c => by simp [ann, ann_length M]

/-- The line and column behind runes. -/
def adv (l c : Nat) : List Mk → Nat × Nat
  | [] => (l, c)
  | x :: R => adv (nl l x.r) (nc c x.r) R

theorem adv_append : ∀ (A B : List Mk) (l c : Nat), adv l c (A ++ B) = adv (adv l c A).1 (adv l c A).2 B
  | [], _, _, _ => rfl
  | _ :: A, B, _, _ => adv_append A B _ _

theorem ann_append : ∀ (A B : List Mk) (p l c : Nat), ann p l c (A ++ B) = ann p l c A ++ ann (p + (bytes A).length) (adv l c A).1 (adv l c A).2 B
  | [], _, _, _, _ => rfl
  | x :: A, B, p, l, c => by
    have ih := ann_append A B (p + x.b.length) (nl l x.r) (nc c x.r)
    rw [List.cons_append]
    simp only [ann]
    rw [ih, bytes_cons, List.length_append, Nat.add_assoc]
    rfl

theorem place_ann : ∀ (M : List Mk) (p l c : Nat), (ann p l c M).foldl step (p, l, c) = (p + (bytes M).length, (adv l c M).1, (adv l c M).2)
  | [], _, _, _ => rfl
  | x :: M, p, l, c => by
    show (ann _ _ _ M).foldl step (p + x.b.length, nl l x.r, nc c x.r) = _
    rw [place_ann M, bytes_cons, List.length_append, Nat.add_assoc]
    rfl

theorem end_marks (s : ByteArray) : (placeOf (spots s)).2 = adv 1 1 (marks s.data.toList) := by
  rw [spots_marks]
  show ((ann 0 1 1 _).foldl step (0, 1, 1)).2 = _
  rw [place_ann]

end Go.Proofs.YtegogmbcjjjjjaaDoor

namespace Go.Proofs.YtegogmbcjjjjjaaDoor
open Go.Lib

/-- Which numbers may stand in a word. -/
def letterF (r : Int) : Bool := decide ((97 ≤ r ∧ r ≤ 122) ∨ (65 ≤ r ∧ r ≤ 90) ∨ r = 95 ∨ (161 ≤ r ∧ r ≤ 1114111))
def digitF (r : Int) : Bool := decide (48 ≤ r ∧ r ≤ 57)
def blankF (r : Int) : Bool := decide (r = 32 ∨ r = 9)

structure Tok where
  kind : Nat
  line : Nat
  col : Nat
  text : ByteArray

/-- What is told: tokens, or what is wrong and where. -/
abbrev Out : Type := Except (Nat × Nat × Nat) (List Tok)
abbrev Out.ok (T : List Tok) : Out := Except.ok T
abbrev Out.bad (code line col : Nat) : Out := Except.error (code, line, col)

/-- A text of bytes. -/
def ofL (l : List UInt8) : ByteArray := ⟨l.toArray⟩

theorem ofL_list (l : List UInt8) : (ofL l).data.toList = l := by simp [ofL]
theorem ofL_size (l : List UInt8) : (ofL l).size = l.length := by
  show l.toArray.size = _
  simp
theorem ofL_self (s : ByteArray) : ofL s.data.toList = s := by
  apply ByteArray.ext
  simp [ofL]

/-- It goes on a word, or a number. -/
def wordy (x : Mk) : Bool := !x.bad && (letterF x.r || digitF x.r)

/-- What begins with this rune: 5 is a gap, 0 nothing. -/
def kindF (r : Nat) : Nat :=
  if blankF r = true then 5 else if r = 59 then 5 else if r = 10 then 4 else if r = 44 ∨ r = 91 ∨ r = 93 ∨ r = 58 then 3 else if letterF r = true then 1 else if digitF r = true ∨ r = 45 then 2 else 0

/-- How many runes behind the first one belong to it. -/
def moreF (r : Nat) (R : List Mk) : Nat :=
  if r = 59 then (R.takeWhile fun x => x.r != 10).length else if kindF r = 1 ∨ kindF r = 2 then (R.takeWhile wordy).length else 0

/-- Its bytes. -/
def textF (x : Mk) (R : List Mk) : List UInt8 := x.b ++ bytes (R.take (moreF x.r R))

/-- What is wrong with it. -/
def wrongF (k n : Nat) (t : List UInt8) : Nat :=
  if k = 0 then 1 else if k = 1 then (if 16 < n + 1 then 3 else 0) else if k = 2 then (if okOf t = true then 0 else 2) else 0

/-- Behind what is told already; so many runes of what was taken are still to come. -/
def tk : List Tok → Nat → List Mk → Nat → Nat → Out
  | D, _, [], l, c => .ok (D ++ [⟨4, l, c, ofL []⟩])
  | D, n + 1, x :: R, l, c => if x.bad = true then .bad 1 l c else tk D n R (nl l x.r) (nc c x.r)
  | D, 0, x :: R, l, c => if x.bad = true then .bad 1 l c else
      if wrongF (kindF x.r) (moreF x.r R) (textF x R) = 0 then
        tk (if kindF x.r = 5 then D else D ++ [⟨kindF x.r, l, c, ofL (textF x R)⟩]) (moreF x.r R) R (nl l x.r) (nc c x.r)
      else .bad (wrongF (kindF x.r) (moreF x.r R) (textF x R)) l c

/-- What a text is taken apart to. -/
def tokens (s : ByteArray) : Out := tk [] 0 (marks s.data.toList) 1 1

theorem tk_bad (D : List Tok) (n : Nat) (x : Mk) (R : List Mk) (l c : Nat) (h : x.bad = true) : tk D n (x :: R) l c = .bad 1 l c := by
  cases n <;> simp [tk, h]
theorem tk_skip (D : List Tok) (n : Nat) (x : Mk) (R : List Mk) (l c : Nat) (h : x.bad = false) : tk D (n + 1) (x :: R) l c = tk D n R (nl l x.r) (nc c x.r) := by
  simp [tk, h]
theorem tk_wrong (D : List Tok) (x : Mk) (R : List Mk) (l c : Nat) (h : x.bad = false) (hw : wrongF (kindF x.r) (moreF x.r R) (textF x R) ≠ 0) :
    tk D 0 (x :: R) l c = .bad (wrongF (kindF x.r) (moreF x.r R) (textF x R)) l c := by
  simp [tk, h, hw]
theorem tk_new (D : List Tok) (x : Mk) (R : List Mk) (l c : Nat) (h : x.bad = false) (hw : wrongF (kindF x.r) (moreF x.r R) (textF x R) = 0) :
    tk D 0 (x :: R) l c = tk (if kindF x.r = 5 then D else D ++ [⟨kindF x.r, l, c, ofL (textF x R)⟩]) (moreF x.r R) R (nl l x.r) (nc c x.r) := by
  simp [tk, h, hw]

/-- Runes that are not bad are gone by. -/
theorem tk_past (D : List Tok) : ∀ (A B : List Mk) (l c : Nat), (∀ x ∈ A, x.bad = false) → tk D A.length (A ++ B) l c = tk D 0 B (adv l c A).1 (adv l c A).2
  | [], B, l, c, _ => rfl
  | x :: A, B, l, c, h => by
    rw [List.length_cons, List.cons_append, tk_skip D _ x _ l c (h x (by simp)), tk_past D A B _ _ (fun y hy => h y (by simp [hy]))]
    rfl

/-- Of a remark: the first bad one is told. -/
theorem tk_first (D : List Tok) : ∀ (A : List Mk) (x : Mk) (B : List Mk) (n l c : Nat), (∀ y ∈ A, y.bad = false) → x.bad = true → A.length ≤ n → tk D n (A ++ x :: B) l c = .bad 1 (adv l c A).1 (adv l c A).2
  | [], x, B, n, l, c, _, hx, _ => tk_bad D n x B l c hx
  | y :: A, x, B, n, l, c, h, hx, hn => by
    obtain ⟨m, rfl⟩ : ∃ m, n = m + 1 := ⟨n - 1, by simp at hn; omega⟩
    rw [List.cons_append, tk_skip D m y _ l c (h y (by simp)), tk_first D A x B m _ _ (fun z hz => h z (by simp [hz])) hx (by simp at hn; omega)]
    rfl

/-- At the end nothing is asked any more. -/
theorem tk_rest (D : List Tok) : ∀ (A : List Mk) (n l c : Nat), (∀ y ∈ A, y.bad = false) → A.length ≤ n → tk D n A l c = .ok (D ++ [⟨4, (adv l c A).1, (adv l c A).2, ofL []⟩])
  | [], n, l, c, _, _ => by cases n <;> rfl
  | y :: A, n, l, c, h, hn => by
    obtain ⟨m, rfl⟩ : ∃ m, n = m + 1 := ⟨n - 1, by simp at hn; omega⟩
    rw [tk_skip D m y _ l c (h y (by simp)), tk_rest D A m _ _ (fun z hz => h z (by simp [hz])) (by simp at hn; omega)]
    rfl

theorem moreF_le (r : Nat) (R : List Mk) : moreF r R ≤ R.length := by
  unfold moreF
  split
  · exact (List.takeWhile_prefix _).length_le
  · split
    · exact (List.takeWhile_prefix _).length_le
    · exact Nat.zero_le _

theorem wordy_good {x : Mk} (h : wordy x = true) : x.bad = false := by
  unfold wordy at h
  cases hb : x.bad
  · rfl
  · rw [hb] at h; cases h

/-! ### Bytes of runes -/

theorem dN_low (n b0 b1 b2 b3 : Nat) (h0 : b0 < 256) (h : (decodeN n b0 b1 b2 b3).1 < 128) : b0 < 128 ∧ (decodeN n b0 b1 b2 b3).1 = b0 ∧ (decodeN n b0 b1 b2 b3).2 = 1 := by
  rcases Nat.lt_or_ge b0 128 with k | k
  · simp [decodeN, k]
  · exfalso
    unfold decodeN at h
    rw [if_neg (by omega)] at h
    repeat' split at h
    all_goals simp only at h
    all_goals omega

theorem dN_high (n b0 b1 b2 b3 : Nat) (h0 : b0 < 256) (h : ¬ (decodeN n b0 b1 b2 b3).1 < 128) : 128 ≤ b0 ∧ (1 < (decodeN n b0 b1 b2 b3).2 → 128 ≤ b1) ∧ (2 < (decodeN n b0 b1 b2 b3).2 → 128 ≤ b2) ∧ (3 < (decodeN n b0 b1 b2 b3).2 → 128 ≤ b3) := by
  rcases Nat.lt_or_ge b0 128 with k | k
  · exact absurd (by simp [decodeN, k]) h
  · refine ⟨k, ?_⟩
    unfold decodeN
    rw [if_neg (by omega)]
    repeat' split
    all_goals simp only
    all_goals omega

/-- A rune below 128 is its one byte. -/
theorem mark_low (l : List UInt8) (h : l ≠ []) (hr : (mk1 l).r < 128) : ∃ b : UInt8, (mk1 l).b = [b] ∧ b.toNat = (mk1 l).r ∧ l.head? = some b := by
  cases l with
  | nil => exact absurd rfl h
  | cons b l =>
    have hd : (decodeL (b :: l)).1 < 128 := hr
    rw [decodeL_N] at hd
    obtain ⟨h1, h2, h3⟩ := dN_low _ _ _ _ _ (UInt8.toNat_lt _) hd
    refine ⟨b, ?_, ?_, rfl⟩
    · show (b :: l).take (decodeL (b :: l)).2 = _
      rw [decodeL_N, h3]
      rfl
    · show _ = (decodeL (b :: l)).1
      rw [decodeL_N, h2]
      rfl

/-- A rune from 128 on has bytes from 128 on. -/
theorem mark_high (l : List UInt8) (h : l ≠ []) (hr : ¬ (mk1 l).r < 128) : ∀ b ∈ (mk1 l).b, 128 ≤ b.toNat := by
  have hd : ¬ (decodeL l).1 < 128 := hr
  have hp := dL_pos l h
  rw [decodeL_N] at hd
  obtain ⟨h0, h1, h2, h3⟩ := dN_high _ _ _ _ _ (UInt8.toNat_lt _) hd
  rw [← decodeL_N] at h1 h2 h3
  intro b hb
  have hb' : b ∈ l.take (decodeL l).2 := hb
  obtain ⟨i, hi⟩ := List.getElem?_of_mem hb'
  rw [List.getElem?_take] at hi
  split at hi
  · rename_i hlt
    have hg : l.getD i 0 = b := by rw [List.getD_eq_getElem?_getD, hi]; rfl
    rw [← hg]
    obtain rfl | rfl | rfl | rfl : i = 0 ∨ i = 1 ∨ i = 2 ∨ i = 3 := by omega
    · exact h0
    · exact h1 (by omega)
    · exact h2 (by omega)
    · exact h3 (by omega)
  · cases hi

theorem takeWhile_all {α : Type} (p : α → Bool) : ∀ (A B : List α), (∀ x ∈ A, p x = true) → (A ++ B).takeWhile p = A ++ B.takeWhile p
  | [], B, _ => rfl
  | x :: A, B, h => by
    rw [List.cons_append, List.takeWhile_cons, h x (by simp), if_pos rfl, takeWhile_all p A B (fun y hy => h y (by simp [hy]))]
    rfl

theorem bytes10 (l : List UInt8) : l.takeWhile (fun b => b != 10) = bytes ((marks l).takeWhile fun x => x.r != 10) := by
  induction l using marks_ind with
  | h0 => rfl
  | h1 l hl ih =>
    have e : l = (mk1 l).b ++ l.drop (decodeL l).2 := (List.take_append_drop _ _).symm
    have tw : l.takeWhile (fun b => b != 10) = ((mk1 l).b ++ l.drop (decodeL l).2).takeWhile (fun b => b != 10) := by rw [← e]
    rw [tw, marks_cons l hl, List.takeWhile_cons]
    by_cases hr : (mk1 l).r = 10
    · obtain ⟨b, h1, h2, h3⟩ := mark_low l hl (by omega)
      have hb : b = 10 := by
        apply UInt8.toNat_inj.1
        rw [h2, hr]
        rfl
      rw [h1, hb, hr]
      rfl
    · have hn : ∀ b ∈ (mk1 l).b, (b != 10) = true := by
        intro b hb
        by_cases hlow : (mk1 l).r < 128
        · obtain ⟨b', h1, h2, h3⟩ := mark_low l hl hlow
          rw [h1] at hb
          obtain rfl := List.mem_singleton.1 hb
          simp only [bne_iff_ne, ne_eq]
          rintro rfl
          exact hr h2.symm
        · have := mark_high l hl hlow b hb
          simp only [bne_iff_ne, ne_eq]
          rintro rfl
          exact absurd this (by decide)
      rw [takeWhile_all _ _ _ hn, ih]
      have : ((mk1 l).r != 10) = true := by simp [hr]
      rw [if_pos this, bytes_cons]

theorem take_takeWhile {α : Type} (p : α → Bool) (R : List α) : R.take (R.takeWhile p).length = R.takeWhile p :=
  (List.prefix_iff_eq_take.1 (List.takeWhile_prefix p)).symm

end Go.Proofs.YtegogmbcjjjjjaaDoor

namespace Go.Proofs.YtegogmbcjjjjjaaDoor
open Go.Lib

theorem get_at' (s : ByteArray) (i : Nat) (h : i < s.size) : s.data[i]? = some (s.get! i) := by
  have h' : i < s.data.size := h
  rw [Array.getElem?_eq_getElem h']
  show _ = some (s.data[i]!)
  rw [getElem!_pos s.data i h']

theorem extract_data (s : ByteArray) (a b : Nat) : (s.extract a b).data = s.data.extract a b := by simp

theorem extract_eq (s : ByteArray) (pos k : Nat) (cs : Array UInt8) (hk : cs.size = k) (h : pos + k ≤ s.size) (hc : ∀ j, j < k → cs[j]? = some (s.get! (pos + j))) : s.extract pos (pos + k) = ⟨cs⟩ := by
  have hd : (s.extract pos (pos + k)).data = cs := by
    rw [extract_data]
    apply Array.ext_getElem?
    intro j
    rw [Array.getElem?_extract]
    have hs : s.data.size = s.size := rfl
    by_cases hj : j < k
    · rw [if_pos (by omega), hc j hj, get_at' s (pos + j) (by omega)]
    · rw [if_neg (by omega), Array.getElem?_eq_none (by omega)]
  rw [← hd]

theorem byte_eq (n : Nat) (x : UInt8) (h : n = x.toNat) : UInt8.ofNat n = x := by
  subst h; simp

theorem valid_nat (n : Nat) (h : n < 55296 ∨ (57344 ≤ n ∧ n ≤ 1114111)) : Utf8.valid (n : Int) = true := by
  simp only [Utf8.valid, Bool.or_eq_true, Bool.and_eq_true, decide_eq_true_eq]
  omega

theorem enc_ok (s : ByteArray) (pos : Nat) (h : pos < s.size) (hb : ¬ ((Utf8.decode s pos).1 = 65533 ∧ (Utf8.decode s pos).2 = 1)) :
    Utf8.encode ((Utf8.decode s pos).1 : Nat) = s.extract pos (pos + (Utf8.decode s pos).2) := by
  have hd := decode_pos s pos h
  have e1 : pos + 1 ≤ s.size → s.extract pos (pos + 1) = ⟨#[s.get! pos]⟩ := fun hk => extract_eq s pos 1 _ rfl hk (fun j hj => by
    match j, hj with
    | 0, _ => rfl)
  have e2 : pos + 2 ≤ s.size → s.extract pos (pos + 2) = ⟨#[s.get! pos, s.get! (pos + 1)]⟩ := fun hk => extract_eq s pos 2 _ rfl hk (fun j hj => by
    match j, hj with
    | 0, _ => rfl
    | 1, _ => rfl)
  have e3 : pos + 3 ≤ s.size → s.extract pos (pos + 3) = ⟨#[s.get! pos, s.get! (pos + 1), s.get! (pos + 2)]⟩ := fun hk => extract_eq s pos 3 _ rfl hk (fun j hj => by
    match j, hj with
    | 0, _ => rfl
    | 1, _ => rfl
    | 2, _ => rfl)
  have e4 : pos + 4 ≤ s.size → s.extract pos (pos + 4) = ⟨#[s.get! pos, s.get! (pos + 1), s.get! (pos + 2), s.get! (pos + 3)]⟩ := fun hk => extract_eq s pos 4 _ rfl hk (fun j hj => by
    match j, hj with
    | 0, _ => rfl
    | 1, _ => rfl
    | 2, _ => rfl
    | 3, _ => rfl)
  rw [decode_at] at hb hd ⊢
  have t0 := (s.get! pos).toNat_lt
  have t1 := (s.get! (pos + 1)).toNat_lt
  have t2 := (s.get! (pos + 2)).toNat_lt
  have t3 := (s.get! (pos + 3)).toNat_lt
  generalize s.get! pos = x0 at *
  generalize s.get! (pos + 1) = x1 at *
  generalize s.get! (pos + 2) = x2 at *
  generalize s.get! (pos + 3) = x3 at *
  unfold decodeN at hb hd ⊢
  split
  · rename_i c0
    rw [if_pos c0] at hd
    rw [e1 (by simp only at hd; omega)]
    simp only [Utf8.encode, valid_nat x0.toNat (by omega), if_true, Int.toNat_natCast, if_pos c0]
    rw [byte_eq _ x0 rfl]
  · rename_i c0
    rw [if_neg c0] at hb hd
    split
    · rename_i c1
      rw [if_pos c1] at hb hd
      split
      · rename_i c2
        rw [if_pos c2] at hd
        rw [e2 (by simp only at hd; omega)]
        simp only [Utf8.encode, valid_nat (x0.toNat % 32 * 64 + x1.toNat % 64) (by omega), if_true, Int.toNat_natCast]
        rw [if_neg (by omega), if_pos (by omega), byte_eq _ x0 (by omega), byte_eq _ x1 (by omega)]
      · rename_i c2
        rw [if_neg c2] at hb
        exact absurd ⟨rfl, rfl⟩ hb
    · rename_i c1
      rw [if_neg c1] at hb hd
      split
      · rename_i c2
        rw [if_pos c2] at hb hd
        split
        · rename_i c3
          rw [if_pos c3] at hd
          rw [e3 (by simp only at hd; omega)]
          simp only [Utf8.encode, valid_nat (x0.toNat % 16 * 4096 + x1.toNat % 64 * 64 + x2.toNat % 64) (by omega), if_true, Int.toNat_natCast]
          rw [if_neg (by omega), if_neg (by omega), if_pos (by omega), byte_eq _ x0 (by omega), byte_eq _ x1 (by omega), byte_eq _ x2 (by omega)]
        · rename_i c3
          rw [if_neg c3] at hb
          exact absurd ⟨rfl, rfl⟩ hb
      · rename_i c2
        rw [if_neg c2] at hb hd
        split
        · rename_i c3
          rw [if_pos c3] at hb hd
          split
          · rename_i c4
            rw [if_pos c4] at hd
            rw [e4 (by simp only at hd; omega)]
            simp only [Utf8.encode, valid_nat (x0.toNat % 8 * 262144 + x1.toNat % 64 * 4096 + x2.toNat % 64 * 64 + x3.toNat % 64) (by omega), if_true, Int.toNat_natCast]
            rw [if_neg (by omega), if_neg (by omega), if_neg (by omega), byte_eq _ x0 (by omega), byte_eq _ x1 (by omega), byte_eq _ x2 (by omega), byte_eq _ x3 (by omega)]
          · rename_i c4
            rw [if_neg c4] at hb
            exact absurd ⟨rfl, rfl⟩ hb
        · rename_i c3
          rw [if_neg c3] at hb
          exact absurd ⟨rfl, rfl⟩ hb

theorem bad_byte (s : ByteArray) (pos : Nat) (h : pos < s.size) (hb : (Utf8.decode s pos).1 = 65533) (_h1 : (Utf8.decode s pos).2 = 1) : 128 ≤ (s[pos]'h).toNat := by
  rw [decode_at] at hb
  have := dN_bad _ _ _ _ _ hb
  have e : s.get! pos = s[pos]'h := by
    show s.data[pos]! = s.data[pos]
    rw [getElem!_pos s.data pos h]
  rw [← e]; exact this

theorem badOf_true {r k : Nat} (h : badOf r k = true) : r = 65533 ∧ k = 1 := by
  simp only [badOf, Bool.and_eq_true, beq_iff_eq] at h
  omega

theorem badOf_false {r k : Nat} (h : badOf r k = false) : ¬ (r = 65533 ∧ k = 1) := by
  intro ⟨a, b⟩
  subst a; subst b
  simp [badOf] at h

end Go.Proofs.YtegogmbcjjjjjaaDoor

set_option linter.unusedVariables false
namespace Go.Proofs.YtegogmbcjjjjjaaDoor
open Go.RowKit

theorem iterPos_of {w : World} {k : Nat} {s : ByteArray} {p : Nat} (h : w.heap[k]? = some (.stringIter s p)) : w.iterPos k = p := by simp [World.iterPos, h]

/-- The six cells of a rune. -/
def Sp.cells (x : Sp) : List Value := [.int .i32 (x.rune : Nat), .int .i64 (x.at_ : Nat), .int .i64 (x.size : Nat), .int .i64 (x.line : Nat), .int .i64 (x.col : Nat), .bool x.bad]

/-- The cells of a row of runes. -/
def flat (L : List Sp) : List Value := L.flatMap Sp.cells

theorem flat_append (A B : List Sp) : flat (A ++ B) = flat A ++ flat B := by simp [flat]
theorem flat_one (x : Sp) : flat [x] = x.cells := by simp [flat]
theorem flat_length : ∀ L : List Sp, (flat L).length = L.length * 6
  | [] => rfl
  | x :: L => by
    have : flat (x :: L) = x.cells ++ flat L := rfl
    rw [this, List.length_append, flat_length L, List.length_cons]
    simp [Sp.cells]; omega

theorem flat_get : ∀ (L : List Sp) (i : Nat) (x : Sp), L[i]? = some x → ∀ k, k < 6 → (flat L)[i * 6 + k]? = x.cells[k]?
  | [], i, x, h => by simp at h
  | y :: L, 0, x, h => fun k hk => by
    simp only [List.getElem?_cons_zero, Option.some.injEq] at h
    subst h
    show (y.cells ++ flat L)[0 * 6 + k]? = _
    rw [List.getElem?_append_left (by simp [Sp.cells]; omega)]
    simp
  | y :: L, i + 1, x, h => fun k hk => by
    simp only [List.getElem?_cons_succ] at h
    show (y.cells ++ flat L)[(i + 1) * 6 + k]? = _
    rw [List.getElem?_append_right (by simp [Sp.cells]; omega), ← flat_get L i x h k hk]
    congr 1
    simp [Sp.cells]; omega

/-- A row that stands in memory, for its readers. -/
def Row (w : World) (a : Option Addr) (L : List Sp) : Prop := ∀ j u, (flat L)[j]? = some u → ∃ g, a = some ⟨g, 0, none⟩ ∧ w.cell? ⟨g, j, none⟩ = some u

theorem Row.later {w w' : World} {a : Option Addr} {L : List Sp} (h : Row w a L) (hl : Later w w') : Row w' a L := fun j u hj =>
  let ⟨g, e, hc⟩ := h j u hj
  ⟨g, e, cell_later hc hl⟩

theorem ownsRow_later {w w' : World} {base : Nat} {e : TypeId} {size : Nat} {v : Value} {n : Nat} {xs : List Value} (h : w.ownsRow base e size v n xs) (hl : Later w w') : w'.ownsRow base e size v n xs := by
  obtain ⟨h1, h2⟩ := h
  refine ⟨h1, ?_⟩
  rcases h2 with h2 | ⟨g, cap, cur, a, b, c, d⟩
  · exact .inl h2
  · exact .inr ⟨g, cap, cur, a, b, (hl.block _ (lt_of_block c)).trans c, d⟩

/-- What the maker of a row leaves, its readers find. -/
theorem row_of_owns {w : World} {base : Nat} {e : TypeId} {v : Value} {L : List Sp} (h : w.ownsRow base e 6 v L.length (flat L)) : ∃ a cap, v = .slice a L.length cap ∧ Row w a L := by
  obtain ⟨h1, h2⟩ := h
  have hh : w.ownsRow base e 6 v L.length (flat L) := ⟨h1, h2⟩
  rcases h2 with ⟨rfl, h0⟩ | ⟨g, cap, cur, rfl, hb, hc, hn, hm, hs, ht⟩
  · obtain rfl : L = [] := List.length_eq_zero_iff.1 h0
    exact ⟨none, 0, rfl, fun j u hj => by simp [flat] at hj⟩
  · refine ⟨some ⟨g, 0, none⟩, cap, rfl, fun j u hj => ⟨g, rfl, ?_⟩⟩
    have hlt : j < L.length * 6 := by rw [← flat_length]; exact (List.getElem?_eq_some_iff.1 hj).1
    rw [hh.cellAt j hlt]
    exact hj

/-- The six cells of the i-th rune. -/
theorem Row.get {w : World} {a : Option Addr} {L : List Sp} (h : Row w a L) {i : Nat} {x : Sp} (hx : L[i]? = some x) : ∃ g, a = some ⟨g, 0, none⟩ ∧
    w.cell? ⟨g, i * 6, none⟩ = some (.int .i32 (x.rune : Nat)) ∧ w.cell? ⟨g, i * 6 + 1, none⟩ = some (.int .i64 (x.at_ : Nat)) ∧ w.cell? ⟨g, i * 6 + 2, none⟩ = some (.int .i64 (x.size : Nat)) ∧
    w.cell? ⟨g, i * 6 + 3, none⟩ = some (.int .i64 (x.line : Nat)) ∧ w.cell? ⟨g, i * 6 + 4, none⟩ = some (.int .i64 (x.col : Nat)) ∧ w.cell? ⟨g, i * 6 + 5, none⟩ = some (.bool x.bad) := by
  have f := flat_get L i x hx
  obtain ⟨g, e, c0⟩ := h (i * 6 + 0) _ (by rw [f 0 (by omega)]; rfl)
  subst e
  have c : ∀ k u, k < 6 → x.cells[k]? = some u → w.cell? ⟨g, i * 6 + k, none⟩ = some u := fun k u hk hu => by
    obtain ⟨g', e, c⟩ := h (i * 6 + k) u (by rw [f k hk]; exact hu)
    cases e
    exact c
  exact ⟨g, rfl, c0, c 1 _ (by omega) rfl, c 2 _ (by omega) rfl, c 3 _ (by omega) rfl, c 4 _ (by omega) rfl, c 5 _ (by omega) rfl⟩

theorem cell_six_new (w : World) (a b c d e f : Value) (t : TypeId) : ∀ j u, [a, b, c, d, e, f][j]? = some u → (w.alloc (.cells #[a, b, c, d, e, f] t)).cell? ((⟨w.heap.size, 0, none⟩ : Addr).add j) = some u := by
  intro j u hj
  match j, hj with
  | 0, hj => simp at hj; subst hj; simp [Addr.add]
  | 1, hj => simp at hj; subst hj; simp [Addr.add]
  | 2, hj => simp at hj; subst hj; simp [Addr.add]
  | 3, hj => simp at hj; subst hj; simp [Addr.add]
  | 4, hj => simp at hj; subst hj; simp [Addr.add]
  | 5, hj => simp at hj; subst hj; simp [Addr.add]
  | j + 6, hj => simp at hj

end Go.Proofs.YtegogmbcjjjjjaaDoor

namespace Go.Proofs.YtegogmbcjjjjjaaDoor
open Go.RowKit

/-- A number's text. -/
def txt (n : Int) : ByteArray := ⟨(Lib.itoa n).toArray⟩

theorem txt_list (n : Int) : (txt n).data.toList = Lib.itoa n := by simp [txt]
theorem txt_eq {n : Int} {s : ByteArray} (h : Lib.itoa n = s.data.toList) : txt n = s := by
  cases s with
  | mk d => cases d with
    | mk l => simp only [txt]; exact congrArg (fun x => ByteArray.mk (Array.mk x)) h
theorem txt_ne {n : Int} {s : ByteArray} (h : ¬ Lib.itoa n = s.data.toList) : txt n ≠ s := fun e => h (by rw [← e, txt_list])
theorem txt_size (n : Int) (h0 : -9223372036854775808 ≤ n) (h1 : n ≤ 9223372036854775807) : (txt n).size ≤ 21 := by
  have := Lib.itoa_length_le n h0 h1
  show (Lib.itoa n).toArray.size ≤ 21
  simpa using this

end Go.Proofs.YtegogmbcjjjjjaaDoor
