/-
  A text's runes, each with its bytes, over lists of bytes; and that these are the runes of the other telling, with their places. Nothing runs here. Conditions: as each theorem names them.
-/
import Derived.Test.YtginggelbfbcfaaDoorPlain
import Derived.Lib.TrimUEq
namespace Go.Proofs.YtginggelbfbcfaaDoor
open Go.Lib

/-- A rune with its bytes. -/
structure Mk where
  r : Nat
  b : List UInt8

/-- Whether it stands for a byte that belongs to none. -/
def Mk.bad (x : Mk) : Bool := badOf x.r x.b.length

/-- The first rune. -/
def mk1 (l : List UInt8) : Mk := ⟨(decodeL l).1, l.take (decodeL l).2⟩

def marksF : Nat → List UInt8 → List Mk
  | 0, _ => []
  | _ + 1, [] => []
  | f + 1, b :: l => mk1 (b :: l) :: marksF f ((b :: l).drop (decodeL (b :: l)).2)

/-- All runes of a text. -/
def marks (l : List UInt8) : List Mk := marksF l.length l

/-- The bytes of runes. -/
def bytes (M : List Mk) : List UInt8 := M.flatMap Mk.b

theorem bytes_nil : bytes [] = [] := rfl
theorem bytes_cons (x : Mk) (M : List Mk) : bytes (x :: M) = x.b ++ bytes M := rfl
theorem bytes_append (A B : List Mk) : bytes (A ++ B) = bytes A ++ bytes B := by simp [bytes]

theorem dL_pos (l : List UInt8) (h : l ≠ []) : 1 ≤ (decodeL l).2 ∧ (decodeL l).2 ≤ l.length ∧ (decodeL l).2 ≤ 4 ∧ (decodeL l).1 ≤ 1114111 := by
  rw [decodeL_N]
  have : 1 ≤ l.length := by cases l with | nil => exact absurd rfl h | cons => simp
  exact dN_facts _ _ _ _ _ this (UInt8.toNat_lt _)

theorem marksF_fuel : ∀ (f g : Nat) (l : List UInt8), l.length ≤ f → l.length ≤ g → marksF f l = marksF g l
  | 0, 0, l, _, _ => rfl
  | 0, g + 1, [], _, _ => rfl
  | f + 1, 0, [], _, _ => rfl
  | f + 1, g + 1, [], _, _ => rfl
  | f + 1, g + 1, b :: l, hf, hg => by
    have h := dL_pos (b :: l) (by simp)
    show _ :: _ = _ :: _
    rw [marksF_fuel f g _ (by rw [List.length_drop]; omega) (by rw [List.length_drop]; omega)]

theorem marks_nil : marks [] = [] := rfl

theorem marks_cons (l : List UInt8) (h : l ≠ []) : marks l = mk1 l :: marks (l.drop (decodeL l).2) := by
  cases l with
  | nil => exact absurd rfl h
  | cons b l =>
    have hp := dL_pos (b :: l) h
    show _ :: marksF l.length _ = _ :: marksF _ _
    rw [marksF_fuel l.length _ _ (by rw [List.length_drop]; simp only [List.length_cons] at *; omega) (Nat.le_refl _)]

theorem mk1_len (l : List UInt8) (h : l ≠ []) : (mk1 l).b.length = (decodeL l).2 := by
  have := dL_pos l h
  show (l.take _).length = _
  rw [List.length_take]; omega

/-- Induction over a text's runes. -/
theorem marks_ind {P : List UInt8 → Prop} (h0 : P []) (h1 : ∀ l, l ≠ [] → P (l.drop (decodeL l).2) → P l) (l : List UInt8) : P l := by
  induction hn : l.length using Nat.strongRecOn generalizing l with
  | _ n ih =>
    by_cases hl : l = []
    · subst hl; exact h0
    · have := dL_pos l hl
      exact h1 l hl (ih _ (by rw [List.length_drop]; omega) _ rfl)

theorem marks_bytes (l : List UInt8) : bytes (marks l) = l := by
  induction l using marks_ind with
  | h0 => rfl
  | h1 l hl ih =>
    rw [marks_cons l hl, bytes_cons, ih]
    exact List.take_append_drop _ _

theorem marks_pos (l : List UInt8) : ∀ x ∈ marks l, 1 ≤ x.b.length ∧ x.b.length ≤ 4 ∧ x.r ≤ 1114111 := by
  induction l using marks_ind with
  | h0 => intro x hx; simp [marks_nil] at hx
  | h1 l hl ih =>
    intro x hx
    rw [marks_cons l hl] at hx
    rcases List.mem_cons.1 hx with rfl | h
    · have := dL_pos l hl
      rw [mk1_len l hl]
      exact ⟨this.1, this.2.2⟩
    · exact ih x h

/-- A rune that is not bad hangs on its own bytes alone. -/
theorem dN_fix (n m b0 b1 b2 b3 c1 c2 c3 : Nat) (hm : (decodeN n b0 b1 b2 b3).2 ≤ m) (h1 : 1 < (decodeN n b0 b1 b2 b3).2 → c1 = b1) (h2 : 2 < (decodeN n b0 b1 b2 b3).2 → c2 = b2) (h3 : 3 < (decodeN n b0 b1 b2 b3).2 → c3 = b3)
    (hb : ¬ ((decodeN n b0 b1 b2 b3).1 = 65533 ∧ (decodeN n b0 b1 b2 b3).2 = 1)) : decodeN m b0 c1 c2 c3 = decodeN n b0 b1 b2 b3 := by
  unfold decodeN at hb hm h1 h2 h3 ⊢
  by_cases k0 : b0 < 128
  · rw [if_pos k0, if_pos k0]
  · rw [if_neg k0] at hb hm h1 h2 h3 ⊢
    rw [if_neg k0]
    by_cases k1 : b0 / 32 = 6 ∧ (1 < n ∧ b1 / 64 = 2)
    · rw [if_pos k1] at hb hm h1 h2 h3 ⊢
      by_cases j1 : b0 % 32 * 64 + b1 % 64 ≥ 128
      · rw [if_pos j1] at hb hm h1 h2 h3
        have := h1 (by simp); subst this
        simp only at hm
        rw [if_pos ⟨k1.1, by omega, k1.2.2⟩]
      · rw [if_neg j1] at hb; exact absurd ⟨rfl, rfl⟩ hb
    · rw [if_neg k1] at hb hm h1 h2 h3 ⊢
      by_cases k2 : b0 / 16 = 14 ∧ (1 < n ∧ b1 / 64 = 2) ∧ (2 < n ∧ b2 / 64 = 2)
      · rw [if_pos k2] at hb hm h1 h2 h3 ⊢
        split at hm
        · rename_i j2
          rw [if_pos j2] at hb h1 h2 h3
          have := h1 (by simp); subst this
          have := h2 (by simp); subst this
          simp only at hm
          rw [if_neg (by omega), if_pos ⟨k2.1, ⟨by omega, k2.2.1.2⟩, by omega, k2.2.2.2⟩]
        · rename_i j2
          rw [if_neg j2] at hb; exact absurd ⟨rfl, rfl⟩ hb
      · rw [if_neg k2] at hb hm h1 h2 h3 ⊢
        by_cases k3 : b0 / 8 = 30 ∧ (1 < n ∧ b1 / 64 = 2) ∧ (2 < n ∧ b2 / 64 = 2) ∧ (3 < n ∧ b3 / 64 = 2)
        · rw [if_pos k3] at hb hm h1 h2 h3 ⊢
          split at hm
          · rename_i j3
            rw [if_pos j3] at hb h1 h2 h3
            have := h1 (by simp); subst this
            have := h2 (by simp); subst this
            have := h3 (by simp); subst this
            simp only at hm
            rw [if_neg (by omega), if_neg (by omega), if_pos ⟨k3.1, ⟨by omega, k3.2.1.2⟩, ⟨by omega, k3.2.2.1.2⟩, by omega, k3.2.2.2.2⟩]
          · rename_i j3
            rw [if_neg j3] at hb; exact absurd ⟨rfl, rfl⟩ hb
        · rw [if_neg k3] at hb; exact absurd ⟨rfl, rfl⟩ hb

/-- A rune that is read so wherever its bytes stand. -/
def Wf (x : Mk) : Prop := x.b ≠ [] ∧ ∀ t, decodeL (x.b ++ t) = (x.r, x.b.length)

theorem badOf_false' {r k : Nat} (h : badOf r k = false) : ¬ (r = 65533 ∧ k = 1) := by
  rintro ⟨rfl, rfl⟩
  exact absurd h (by decide)

theorem getD_take (l : List UInt8) (k i : Nat) (t : List UInt8) (hi : i < k) (hk : k ≤ l.length) : (l.take k ++ t).getD i 0 = l.getD i 0 := by
  rw [List.getD_eq_getElem?_getD, List.getD_eq_getElem?_getD, List.getElem?_append_left (by rw [List.length_take]; omega), List.getElem?_take, if_pos hi]

theorem wf_mk1 (l : List UInt8) (h : l ≠ []) (hb : (mk1 l).bad = false) : Wf (mk1 l) := by
  have hp := dL_pos l h
  have hl := mk1_len l h
  have hb' := badOf_false' hb
  rw [hl] at hb'
  refine ⟨fun e => by rw [e] at hl; simp at hl; omega, fun t => ?_⟩
  rw [hl]
  show decodeL (l.take (decodeL l).2 ++ t) = ((decodeL l).1, (decodeL l).2)
  have hb2 : ¬ ((decodeL l).1 = 65533 ∧ (decodeL l).2 = 1) := hb'
  generalize hk : (decodeL l).2 = k at *
  have key : decodeL (l.take k ++ t) = decodeL l := by
    rw [decodeL_N] at hk hb2
    rw [decodeL_N, decodeL_N, getD_take l k 0 t (by omega) (by omega)]
    refine dN_fix _ _ _ _ _ _ _ _ _ (by rw [hk, List.length_append, List.length_take]; omega) ?_ ?_ ?_ (by rw [hk]; exact hb2)
    · rw [hk]; intro h1; rw [getD_take l k 1 t h1 (by omega)]
    · rw [hk]; intro h1; rw [getD_take l k 2 t h1 (by omega)]
    · rw [hk]; intro h1; rw [getD_take l k 3 t h1 (by omega)]
  rw [key, ← hk]

theorem wf_marks (l : List UInt8) : ∀ x ∈ marks l, x.bad = false → Wf x := by
  induction l using marks_ind with
  | h0 => intro x hx; simp [marks_nil] at hx
  | h1 l hl ih =>
    intro x hx hb
    rw [marks_cons l hl] at hx
    rcases List.mem_cons.1 hx with rfl | h
    · exact wf_mk1 l hl hb
    · exact ih x h hb

theorem marks_wf (x : Mk) (t : List UInt8) (h : Wf x) : marks (x.b ++ t) = x :: marks t := by
  have hd := h.2 t
  rw [marks_cons _ (by intro e; exact h.1 (List.append_eq_nil_iff.1 e).1)]
  unfold mk1
  rw [hd]
  simp

theorem marks_wfs (A : List Mk) (t : List UInt8) (h : ∀ x ∈ A, Wf x) : marks (bytes A ++ t) = A ++ marks t := by
  induction A with
  | nil => rfl
  | cons x A ih =>
    rw [bytes_cons, List.append_assoc, marks_wf x _ (h x (by simp)), ih (fun y hy => h y (by simp [hy]))]
    rfl

theorem marks_of_wfs (A : List Mk) (h : ∀ x ∈ A, Wf x) : marks (bytes A) = A := by
  have := marks_wfs A [] h
  rw [List.append_nil, marks_nil, List.append_nil] at this
  exact this

/-- A byte below 128 is a rune of its own. -/
theorem wf_byte (b : UInt8) (h : b.toNat < 128) : Wf ⟨b.toNat, [b]⟩ := by
  refine ⟨by simp, fun t => ?_⟩
  rw [decodeL_N]
  simp [decodeN, h]

/-! ### Their places -/

/-- The runes, with where each stands. -/
def ann : Nat → Nat → Nat → List Mk → List Sp
  | _, _, _, [] => []
  | p, l, c, x :: R => ⟨x.r, p, x.b.length, l, c, x.bad⟩ :: ann (p + x.b.length) (nl l x.r) (nc c x.r) R

theorem decodeL_drop (s : ByteArray) (pos : Nat) : decodeL (s.data.toList.drop pos) = Utf8.decode s pos := by
  rw [decodeL_N, decode_N]
  simp only [List.length_drop, List.getD_eq_getElem?_getD, List.getElem?_drop, Nat.add_zero]

theorem size_len (s : ByteArray) : s.data.toList.length = s.size := Array.length_toList

theorem marks_at (s : ByteArray) (pos : Nat) (h : pos < s.size) : marks (s.data.toList.drop pos) = ⟨(Utf8.decode s pos).1, (s.data.toList.drop pos).take (Utf8.decode s pos).2⟩ :: marks (s.data.toList.drop (pos + (Utf8.decode s pos).2)) := by
  have hne : s.data.toList.drop pos ≠ [] := by
    intro e
    have := congrArg List.length e
    rw [List.length_drop, size_len] at this
    simp at this; omega
  rw [marks_cons _ hne, List.drop_drop]
  unfold mk1
  rw [decodeL_drop]

theorem take_len (s : ByteArray) (pos : Nat) (h : pos < s.size) : ((s.data.toList.drop pos).take (Utf8.decode s pos).2).length = (Utf8.decode s pos).2 := by
  have := decode_pos s pos h
  rw [List.length_take, List.length_drop, size_len]; omega

theorem spots_ann (s : ByteArray) : ∀ (f pos l c : Nat), s.size ≤ pos + f → spotsFrom s f pos l c = ann pos l c (marks (s.data.toList.drop pos))
  | 0, pos, l, c, hf => by
    rw [List.drop_of_length_le (by rw [size_len]; omega)]
    rfl
  | f + 1, pos, l, c, hf => by
    by_cases h : pos < s.size
    · have hd := decode_pos s pos h
      rw [spots_more s f pos l c h, marks_at s pos h, spots_ann s f _ _ _ (by omega)]
      simp only [ann, spotAt, Mk.bad, take_len s pos h]
    · rw [spots_end s _ pos l c h, List.drop_of_length_le (by rw [size_len]; omega)]
      rfl

theorem spots_marks (s : ByteArray) : spots s = ann 0 1 1 (marks s.data.toList) := by
  have := spots_ann s s.size 0 1 1 (by omega)
  simpa [spots] using this

theorem ann_length : ∀ (M : List Mk) (p l c : Nat), (ann p l c M).length = M.length
  | [], _, _, _ => rfl
  | x :: M, p, l, c => by simp [ann, ann_length M]

/-- The line and column behind runes. -/
def adv (l c : Nat) : List Mk → Nat × Nat
  | [] => (l, c)
  | x :: R => adv (nl l x.r) (nc c x.r) R

theorem adv_append : ∀ (A B : List Mk) (l c : Nat), adv l c (A ++ B) = adv (adv l c A).1 (adv l c A).2 B
  | [], _, _, _ => rfl
  | _ :: A, B, _, _ => adv_append A B _ _

theorem ann_append : ∀ (A B : List Mk) (p l c : Nat), ann p l c (A ++ B) = ann p l c A ++ ann (p + (bytes A).length) (adv l c A).1 (adv l c A).2 B
  | [], _, _, _, _ => rfl
  | x :: A, B, p, l, c => by
    have ih := ann_append A B (p + x.b.length) (nl l x.r) (nc c x.r)
    rw [List.cons_append]
    simp only [ann]
    rw [ih, bytes_cons, List.length_append, Nat.add_assoc]
    rfl

theorem place_ann : ∀ (M : List Mk) (p l c : Nat), (ann p l c M).foldl step (p, l, c) = (p + (bytes M).length, (adv l c M).1, (adv l c M).2)
  | [], _, _, _ => rfl
  | x :: M, p, l, c => by
    show (ann _ _ _ M).foldl step (p + x.b.length, nl l x.r, nc c x.r) = _
    rw [place_ann M, bytes_cons, List.length_append, Nat.add_assoc]
    rfl

theorem end_marks (s : ByteArray) : (placeOf (spots s)).2 = adv 1 1 (marks s.data.toList) := by
  rw [spots_marks]
  show ((ann 0 1 1 _).foldl step (0, 1, 1)).2 = _
  rw [place_ann]

end Go.Proofs.YtginggelbfbcfaaDoor
