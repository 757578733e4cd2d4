/-
  What a text is taken apart to, or where it is wrong, as a plain recursion over its runes. Nothing runs here. Conditions: as each theorem names them.
-/
import Derived.Test.YtginggelbfbcfaaDoorMarks
import Derived.Test.YtginggelbfbcfaaDoorNumPlain
namespace Go.Proofs.YtginggelbfbcfaaDoor
open Go.Lib

/-- Which numbers may stand in a word. -/
def letterF (r : Int) : Bool := decide ((97 ≤ r ∧ r ≤ 122) ∨ (65 ≤ r ∧ r ≤ 90) ∨ r = 95 ∨ (161 ≤ r ∧ r ≤ 1114111))
def digitF (r : Int) : Bool := decide (48 ≤ r ∧ r ≤ 57)
def blankF (r : Int) : Bool := decide (r = 32 ∨ r = 9)

structure Tok where
  kind : Nat
  line : Nat
  col : Nat
  text : ByteArray

/-- What is told: tokens, or what is wrong and where. -/
abbrev Out : Type := Except (Nat × Nat × Nat) (List Tok)
abbrev Out.ok (T : List Tok) : Out := Except.ok T
abbrev Out.bad (code line col : Nat) : Out := Except.error (code, line, col)

/-- A text of bytes. -/
def ofL (l : List UInt8) : ByteArray := ⟨l.toArray⟩

theorem ofL_list (l : List UInt8) : (ofL l).data.toList = l := by simp [ofL]
theorem ofL_size (l : List UInt8) : (ofL l).size = l.length := by
  show l.toArray.size = _
  simp
theorem ofL_self (s : ByteArray) : ofL s.data.toList = s := by
  apply ByteArray.ext
  simp [ofL]

/-- It goes on a word, or a number. -/
def wordy (x : Mk) : Bool := !x.bad && (letterF x.r || digitF x.r)

/-- What begins with this rune: 5 is a gap, 0 nothing. -/
def kindF (r : Nat) : Nat :=
  if blankF r = true then 5 else if r = 59 then 5 else if r = 10 then 4 else if r = 44 ∨ r = 91 ∨ r = 93 ∨ r = 58 then 3 else if letterF r = true then 1 else if digitF r = true ∨ r = 45 then 2 else 0

/-- How many runes behind the first one belong to it. -/
def moreF (r : Nat) (R : List Mk) : Nat :=
  if r = 59 then (R.takeWhile fun x => x.r != 10).length else if kindF r = 1 ∨ kindF r = 2 then (R.takeWhile wordy).length else 0

/-- Its bytes. -/
def textF (x : Mk) (R : List Mk) : List UInt8 := x.b ++ bytes (R.take (moreF x.r R))

/-- What is wrong with it. -/
def wrongF (k n : Nat) (t : List UInt8) : Nat :=
  if k = 0 then 1 else if k = 1 then (if 16 < n + 1 then 3 else 0) else if k = 2 then (if okOf t = true then 0 else 2) else 0

/-- Behind what is told already; so many runes of what was taken are still to come. -/
def tk : List Tok → Nat → List Mk → Nat → Nat → Out
  | D, _, [], l, c => .ok (D ++ [⟨4, l, c, ofL []⟩])
  | D, n + 1, x :: R, l, c => if x.bad = true then .bad 1 l c else tk D n R (nl l x.r) (nc c x.r)
  | D, 0, x :: R, l, c => if x.bad = true then .bad 1 l c else
      if wrongF (kindF x.r) (moreF x.r R) (textF x R) = 0 then
        tk (if kindF x.r = 5 then D else D ++ [⟨kindF x.r, l, c, ofL (textF x R)⟩]) (moreF x.r R) R (nl l x.r) (nc c x.r)
      else .bad (wrongF (kindF x.r) (moreF x.r R) (textF x R)) l c

/-- What a text is taken apart to. -/
def tokens (s : ByteArray) : Out := tk [] 0 (marks s.data.toList) 1 1

theorem tk_bad (D : List Tok) (n : Nat) (x : Mk) (R : List Mk) (l c : Nat) (h : x.bad = true) : tk D n (x :: R) l c = .bad 1 l c := by
  cases n <;> simp [tk, h]
theorem tk_skip (D : List Tok) (n : Nat) (x : Mk) (R : List Mk) (l c : Nat) (h : x.bad = false) : tk D (n + 1) (x :: R) l c = tk D n R (nl l x.r) (nc c x.r) := by
  simp [tk, h]
theorem tk_wrong (D : List Tok) (x : Mk) (R : List Mk) (l c : Nat) (h : x.bad = false) (hw : wrongF (kindF x.r) (moreF x.r R) (textF x R) ≠ 0) :
    tk D 0 (x :: R) l c = .bad (wrongF (kindF x.r) (moreF x.r R) (textF x R)) l c := by
  simp [tk, h, hw]
theorem tk_new (D : List Tok) (x : Mk) (R : List Mk) (l c : Nat) (h : x.bad = false) (hw : wrongF (kindF x.r) (moreF x.r R) (textF x R) = 0) :
    tk D 0 (x :: R) l c = tk (if kindF x.r = 5 then D else D ++ [⟨kindF x.r, l, c, ofL (textF x R)⟩]) (moreF x.r R) R (nl l x.r) (nc c x.r) := by
  simp [tk, h, hw]

/-- Runes that are not bad are gone by. -/
theorem tk_past (D : List Tok) : ∀ (A B : List Mk) (l c : Nat), (∀ x ∈ A, x.bad = false) → tk D A.length (A ++ B) l c = tk D 0 B (adv l c A).1 (adv l c A).2
  | [], B, l, c, _ => rfl
  | x :: A, B, l, c, h => by
    rw [List.length_cons, List.cons_append, tk_skip D _ x _ l c (h x (by simp)), tk_past D A B _ _ (fun y hy => h y (by simp [hy]))]
    rfl

/-- Of a remark: the first bad one is told. -/
theorem tk_first (D : List Tok) : ∀ (A : List Mk) (x : Mk) (B : List Mk) (n l c : Nat), (∀ y ∈ A, y.bad = false) → x.bad = true → A.length ≤ n → tk D n (A ++ x :: B) l c = .bad 1 (adv l c A).1 (adv l c A).2
  | [], x, B, n, l, c, _, hx, _ => tk_bad D n x B l c hx
  | y :: A, x, B, n, l, c, h, hx, hn => by
    obtain ⟨m, rfl⟩ : ∃ m, n = m + 1 := ⟨n - 1, by simp at hn; omega⟩
    rw [List.cons_append, tk_skip D m y _ l c (h y (by simp)), tk_first D A x B m _ _ (fun z hz => h z (by simp [hz])) hx (by simp at hn; omega)]
    rfl

/-- At the end nothing is asked any more. -/
theorem tk_rest (D : List Tok) : ∀ (A : List Mk) (n l c : Nat), (∀ y ∈ A, y.bad = false) → A.length ≤ n → tk D n A l c = .ok (D ++ [⟨4, (adv l c A).1, (adv l c A).2, ofL []⟩])
  | [], n, l, c, _, _ => by cases n <;> rfl
  | y :: A, n, l, c, h, hn => by
    obtain ⟨m, rfl⟩ : ∃ m, n = m + 1 := ⟨n - 1, by simp at hn; omega⟩
    rw [tk_skip D m y _ l c (h y (by simp)), tk_rest D A m _ _ (fun z hz => h z (by simp [hz])) (by simp at hn; omega)]
    rfl

theorem moreF_le (r : Nat) (R : List Mk) : moreF r R ≤ R.length := by
  unfold moreF
  split
  · exact (List.takeWhile_prefix _).length_le
  · split
    · exact (List.takeWhile_prefix _).length_le
    · exact Nat.zero_le _

theorem wordy_good {x : Mk} (h : wordy x = true) : x.bad = false := by
  unfold wordy at h
  cases hb : x.bad
  · rfl
  · rw [hb] at h; cases h

/-! ### Bytes of runes -/

theorem dN_low (n b0 b1 b2 b3 : Nat) (h0 : b0 < 256) (h : (decodeN n b0 b1 b2 b3).1 < 128) : b0 < 128 ∧ (decodeN n b0 b1 b2 b3).1 = b0 ∧ (decodeN n b0 b1 b2 b3).2 = 1 := by
  rcases Nat.lt_or_ge b0 128 with k | k
  · simp [decodeN, k]
  · exfalso
    unfold decodeN at h
    rw [if_neg (by omega)] at h
    repeat' split at h
    all_goals simp only at h
    all_goals omega

theorem dN_high (n b0 b1 b2 b3 : Nat) (h0 : b0 < 256) (h : ¬ (decodeN n b0 b1 b2 b3).1 < 128) : 128 ≤ b0 ∧ (1 < (decodeN n b0 b1 b2 b3).2 → 128 ≤ b1) ∧ (2 < (decodeN n b0 b1 b2 b3).2 → 128 ≤ b2) ∧ (3 < (decodeN n b0 b1 b2 b3).2 → 128 ≤ b3) := by
  rcases Nat.lt_or_ge b0 128 with k | k
  · exact absurd (by simp [decodeN, k]) h
  · refine ⟨k, ?_⟩
    unfold decodeN
    rw [if_neg (by omega)]
    repeat' split
    all_goals simp only
    all_goals omega

/-- A rune below 128 is its one byte. -/
theorem mark_low (l : List UInt8) (h : l ≠ []) (hr : (mk1 l).r < 128) : ∃ b : UInt8, (mk1 l).b = [b] ∧ b.toNat = (mk1 l).r ∧ l.head? = some b := by
  cases l with
  | nil => exact absurd rfl h
  | cons b l =>
    have hd : (decodeL (b :: l)).1 < 128 := hr
    rw [decodeL_N] at hd
    obtain ⟨h1, h2, h3⟩ := dN_low _ _ _ _ _ (UInt8.toNat_lt _) hd
    refine ⟨b, ?_, ?_, rfl⟩
    · show (b :: l).take (decodeL (b :: l)).2 = _
      rw [decodeL_N, h3]
      rfl
    · show _ = (decodeL (b :: l)).1
      rw [decodeL_N, h2]
      rfl

/-- A rune from 128 on has bytes from 128 on. -/
theorem mark_high (l : List UInt8) (h : l ≠ []) (hr : ¬ (mk1 l).r < 128) : ∀ b ∈ (mk1 l).b, 128 ≤ b.toNat := by
  have hd : ¬ (decodeL l).1 < 128 := hr
  have hp := dL_pos l h
  rw [decodeL_N] at hd
  obtain ⟨h0, h1, h2, h3⟩ := dN_high _ _ _ _ _ (UInt8.toNat_lt _) hd
  rw [← decodeL_N] at h1 h2 h3
  intro b hb
  have hb' : b ∈ l.take (decodeL l).2 := hb
  obtain ⟨i, hi⟩ := List.getElem?_of_mem hb'
  rw [List.getElem?_take] at hi
  split at hi
  · rename_i hlt
    have hg : l.getD i 0 = b := by rw [List.getD_eq_getElem?_getD, hi]; rfl
    rw [← hg]
    obtain rfl | rfl | rfl | rfl : i = 0 ∨ i = 1 ∨ i = 2 ∨ i = 3 := by omega
    · exact h0
    · exact h1 (by omega)
    · exact h2 (by omega)
    · exact h3 (by omega)
  · cases hi

theorem takeWhile_all {α : Type} (p : α → Bool) : ∀ (A B : List α), (∀ x ∈ A, p x = true) → (A ++ B).takeWhile p = A ++ B.takeWhile p
  | [], B, _ => rfl
  | x :: A, B, h => by
    rw [List.cons_append, List.takeWhile_cons, h x (by simp), if_pos rfl, takeWhile_all p A B (fun y hy => h y (by simp [hy]))]
    rfl

theorem bytes10 (l : List UInt8) : l.takeWhile (fun b => b != 10) = bytes ((marks l).takeWhile fun x => x.r != 10) := by
  induction l using marks_ind with
  | h0 => rfl
  | h1 l hl ih =>
    have e : l = (mk1 l).b ++ l.drop (decodeL l).2 := (List.take_append_drop _ _).symm
    have tw : l.takeWhile (fun b => b != 10) = ((mk1 l).b ++ l.drop (decodeL l).2).takeWhile (fun b => b != 10) := by rw [← e]
    rw [tw, marks_cons l hl, List.takeWhile_cons]
    by_cases hr : (mk1 l).r = 10
    · obtain ⟨b, h1, h2, h3⟩ := mark_low l hl (by omega)
      have hb : b = 10 := by
        apply UInt8.toNat_inj.1
        rw [h2, hr]
        rfl
      rw [h1, hb, hr]
      rfl
    · have hn : ∀ b ∈ (mk1 l).b, (b != 10) = true := by
        intro b hb
        by_cases hlow : (mk1 l).r < 128
        · obtain ⟨b', h1, h2, h3⟩ := mark_low l hl hlow
          rw [h1] at hb
          obtain rfl := List.mem_singleton.1 hb
          simp only [bne_iff_ne, ne_eq]
          rintro rfl
          exact hr h2.symm
        · have := mark_high l hl hlow b hb
          simp only [bne_iff_ne, ne_eq]
          rintro rfl
          exact absurd this (by decide)
      rw [takeWhile_all _ _ _ hn, ih]
      have : ((mk1 l).r != 10) = true := by simp [hr]
      rw [if_pos this, bytes_cons]

theorem take_takeWhile {α : Type} (p : α → Bool) (R : List α) : R.take (R.takeWhile p).length = R.takeWhile p :=
  (List.prefix_iff_eq_take.1 (List.takeWhile_prefix p)).symm

end Go.Proofs.YtginggelbfbcfaaDoor
