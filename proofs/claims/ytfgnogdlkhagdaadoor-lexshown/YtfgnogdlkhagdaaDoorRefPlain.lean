/-
  What the document's own reader of tokens needs of a text's runes, place by place. Nothing runs here. Conditions: as each theorem names them.
-/
import Derived.Test.YtfgnogdlkhagdaaDoorLexTokens
namespace Go.Proofs.YtfgnogdlkhagdaaDoor
open Go.Lib (decodeL)
set_option linter.unusedVariables false

/-- The rune behind so many others, with its place. -/
theorem spot_split (s : ByteArray) (A : List Mk) (q : Mk) (B : List Mk) (h : marks s.data.toList = A ++ q :: B) :
    (spots s)[A.length]? = some ⟨q.r, (bytes A).length, q.b.length, (adv 1 1 A).1, (adv 1 1 A).2, q.bad⟩ := by
  rw [spots_marks, h, ann_append, List.getElem?_append_right (by rw [ann_length]; exact Nat.le_refl _), ann_length, Nat.sub_self]
  simp [ann]

theorem spots_len (s : ByteArray) : (spots s).length = (marks s.data.toList).length := by
  rw [spots_marks, ann_length]

/-- The bytes between two places. -/
theorem ext_bytes (s : ByteArray) (A V Q : List Mk) (h : marks s.data.toList = A ++ (V ++ Q)) : s.extract (bytes A).length (bytes (A ++ V)).length = ofL (bytes V) := by
  have hb := marks_bytes s.data.toList
  rw [h, bytes_append, bytes_append] at hb
  rw [ext_ofL, ← hb, bytes_append, List.length_append, List.drop_left, Nat.add_sub_cancel_left, List.take_left]

theorem bytes_le (s : ByteArray) (A B : List Mk) (h : marks s.data.toList = A ++ B) : (bytes A).length ≤ s.size ∧ A.length ≤ (bytes A).length := by
  have hb := congrArg List.length (marks_bytes s.data.toList)
  rw [h, bytes_append, List.length_append, size_len] at hb
  refine ⟨by omega, ?_⟩
  have hp := marks_pos s.data.toList
  rw [h] at hp
  have : ∀ (C : List Mk), (∀ x ∈ C, 1 ≤ x.b.length) → C.length ≤ (bytes C).length := by
    intro C
    induction C with
    | nil => intro _; simp
    | cons x C ih =>
      intro hC
      have h1 := hC x (by simp)
      have h2 := ih (fun y hy => hC y (by simp [hy]))
      rw [bytes_cons, List.length_append, List.length_cons]
      omega
  exact this A (fun x hx => (hp x (by simp [hx])).1)

theorem takeWhile_stop {α : Type} (p : α → Bool) (P Q : List α) (hP : ∀ x ∈ P, p x = true) (hQ : ∀ x, Q.head? = some x → p x = false) : (P ++ Q).takeWhile p = P := by
  rw [takeWhile_all p P Q hP]
  cases Q with
  | nil => simp
  | cons q Q =>
    rw [List.takeWhile_cons, hQ q rfl]
    simp

/-- What was taken, and all that follows. -/
theorem tk_piece (D : List Tok) (x : Mk) (P Q : List Mk) (l c : Nat) (hb : x.bad = false) (hP : ∀ y ∈ P, y.bad = false) (hm : moreF x.r (P ++ Q) = P.length) (hw : wrongF (kindF x.r) P.length (x.b ++ bytes P) = 0) :
    tk D 0 (x :: (P ++ Q)) l c = tk (if kindF x.r = 5 then D else D ++ [⟨kindF x.r, l, c, ofL (x.b ++ bytes P)⟩]) 0 Q (adv l c (x :: P)).1 (adv l c (x :: P)).2 := by
  have ht : textF x (P ++ Q) = x.b ++ bytes P := by
    unfold textF
    rw [hm, List.take_left]
  have h := tk_new D x (P ++ Q) l c hb (by rw [hm, ht]; exact hw)
  rw [h, hm, ht, tk_past _ P Q _ _ hP]
  rfl

theorem tk_piece_wrong (D : List Tok) (x : Mk) (P Q : List Mk) (l c : Nat) (hb : x.bad = false) (hm : moreF x.r (P ++ Q) = P.length) (hw : wrongF (kindF x.r) P.length (x.b ++ bytes P) ≠ 0) :
    tk D 0 (x :: (P ++ Q)) l c = .bad (wrongF (kindF x.r) P.length (x.b ++ bytes P)) l c := by
  have ht : textF x (P ++ Q) = x.b ++ bytes P := by
    unfold textF
    rw [hm, List.take_left]
  have h := tk_wrong D x (P ++ Q) l c hb (by rw [hm, ht]; exact hw)
  rw [h, hm, ht]

/-- Of a remark that has a bad rune. -/
theorem tk_remark_bad (D : List Tok) (x : Mk) (P : List Mk) (q : Mk) (Q : List Mk) (l c : Nat) (hb : x.bad = false) (hr : x.r = 59) (hP : ∀ y ∈ P, (y.r != 10) = true ∧ y.bad = false) (hq : (q.r != 10) = true) (hqb : q.bad = true) :
    tk D 0 (x :: (P ++ q :: Q)) l c = .bad 1 (adv l c (x :: P)).1 (adv l c (x :: P)).2 := by
  have hk : kindF x.r = 5 := by rw [hr]; rfl
  have hm : P.length ≤ moreF x.r (P ++ q :: Q) := by
    unfold moreF
    rw [if_pos hr, takeWhile_all _ P _ (fun y hy => (hP y hy).1), List.length_append]
    omega
  rw [tk_new D x _ l c hb (by rw [hk]; rfl), if_pos hk, tk_first D P q Q _ _ _ (fun y hy => (hP y hy).2) hqb hm]
  rfl

/-- So many runes are taken behind the first one. -/
structure Taken (MM A : List Mk) (x : Mk) (kk : Nat) (P Q : List Mk) (p : Mk → Bool) : Prop where
  all : MM = A ++ x :: (P ++ Q)
  len : kk = A.length + 1 + P.length
  good : ∀ y ∈ P, p y = true ∧ y.bad = false

theorem Taken.start {MM A : List Mk} {x : Mk} {R : List Mk} {p : Mk → Bool} (h : MM = A ++ x :: R) : Taken MM A x (A.length + 1) [] R p :=
  ⟨h, rfl, fun y hy => by simp at hy⟩

theorem Taken.more {MM A : List Mk} {x : Mk} {kk : Nat} {P : List Mk} {q : Mk} {Q : List Mk} {p : Mk → Bool} (h : Taken MM A x kk P (q :: Q) p) (hq : p q = true) (hb : q.bad = false) : Taken MM A x (kk + 1) (P ++ [q]) Q p :=
  ⟨by rw [h.all]; simp, by rw [h.len]; simp; omega, fun y hy => by
    rcases List.mem_append.1 hy with h1 | h1
    · exact h.good y h1
    · obtain rfl := List.mem_singleton.1 h1
      exact ⟨hq, hb⟩⟩

/-- The rune that comes next. -/
theorem Taken.next {s : ByteArray} {A : List Mk} {x : Mk} {kk : Nat} {P : List Mk} {q : Mk} {Q : List Mk} {p : Mk → Bool} (h : Taken (marks s.data.toList) A x kk P (q :: Q) p) :
    (spots s)[kk]? = some ⟨q.r, (bytes (A ++ x :: P)).length, q.b.length, (adv 1 1 (A ++ x :: P)).1, (adv 1 1 (A ++ x :: P)).2, q.bad⟩ := by
  have e : kk = (A ++ x :: P).length := by rw [h.len, List.length_append, List.length_cons]; omega
  rw [e]
  exact spot_split s (A ++ x :: P) q Q (by rw [h.all]; simp)

theorem Taken.none {MM A : List Mk} {x : Mk} {kk : Nat} {P : List Mk} {p : Mk → Bool} (h : Taken MM A x kk P [] p) : kk = MM.length := by
  rw [h.all, h.len]; simp; omega

theorem Taken.lt {MM A : List Mk} {x : Mk} {kk : Nat} {P : List Mk} {q : Mk} {Q : List Mk} {p : Mk → Bool} (h : Taken MM A x kk P (q :: Q) p) : kk < MM.length := by
  rw [h.all, h.len]; simp; omega

theorem Taken.le {MM A : List Mk} {x : Mk} {kk : Nat} {P Q : List Mk} {p : Mk → Bool} (h : Taken MM A x kk P Q p) : A.length < kk ∧ kk ≤ MM.length ∧ kk - A.length = P.length + 1 := by
  rw [h.all, h.len]; simp; omega

theorem Taken.alen {MM A : List Mk} {x : Mk} {kk : Nat} {P Q : List Mk} {p : Mk → Bool} (h : Taken MM A x kk P Q p) : (A ++ x :: P).length = kk := by
  rw [h.len, List.length_append, List.length_cons]; omega

theorem Taken.same {MM A : List Mk} {x : Mk} {kk : Nat} {P Q R : List Mk} {p : Mk → Bool} (h : Taken MM A x kk P Q p) (hm : MM = A ++ x :: R) : R = P ++ Q := by
  have := h.all
  rw [hm] at this
  have := List.append_cancel_left this
  exact (List.cons.inj this).2

/-- Whether the next rune, if there is one, is of this kind. -/
def headIs (p : Mk → Bool) (Q : List Mk) : Bool := match Q with | [] => false | q :: _ => p q

theorem headIs_false {p : Mk → Bool} {Q : List Mk} (h : headIs p Q = false) : ∀ q, Q.head? = some q → p q = false := by
  intro q hq
  cases Q with
  | nil => cases hq
  | cons y Q =>
    simp only [List.head?_cons, Option.some.injEq] at hq
    subst hq
    exact h

theorem headIs_true {p : Mk → Bool} {Q : List Mk} (h : headIs p Q = true) : ∃ q Q', Q = q :: Q' ∧ p q = true := by
  cases Q with
  | nil => cases h
  | cons y Q => exact ⟨y, Q, rfl, h⟩

/-- The last rune that is taken ends where what is taken ends. -/
theorem Taken.last {s : ByteArray} {A : List Mk} {x : Mk} {kk : Nat} {P Q : List Mk} {p : Mk → Bool} (h : Taken (marks s.data.toList) A x kk P Q p) :
    ∃ e y, kk = e + 1 ∧ (spots s)[e]? = some y ∧ y.at_ + y.size = (bytes (A ++ x :: P)).length := by
  obtain ⟨E, y, hE⟩ : ∃ E y, x :: P = E ++ [y] := by
    rcases List.eq_nil_or_concat (x :: P) with h0 | ⟨E, y, h1⟩
    · cases h0
    · exact ⟨E, y, by rw [h1, List.concat_eq_append]⟩
  have hl : P.length = E.length := by
    have := congrArg List.length hE
    simpa using this
  have hm : marks s.data.toList = (A ++ E) ++ y :: Q := by
    rw [h.all]
    have : A ++ x :: (P ++ Q) = A ++ ((x :: P) ++ Q) := by simp
    rw [this, hE]
    simp
  have hs := spot_split s (A ++ E) y Q hm
  refine ⟨(A ++ E).length, _, by rw [h.len, List.length_append]; omega, hs, ?_⟩
  show (bytes (A ++ E)).length + y.b.length = _
  rw [hE, ← List.append_assoc, bytes_append (A ++ E) [y], List.length_append]
  simp [bytes]

/-- The bytes that are taken. -/
theorem Taken.text {s : ByteArray} {A : List Mk} {x : Mk} {kk : Nat} {P Q : List Mk} {p : Mk → Bool} (h : Taken (marks s.data.toList) A x kk P Q p) :
    s.extract (bytes A).length (bytes (A ++ x :: P)).length = ofL (x.b ++ bytes P) ∧ (bytes A).length ≤ (bytes (A ++ x :: P)).length ∧ (bytes (A ++ x :: P)).length ≤ s.size ∧ (ofL (x.b ++ bytes P)).size ≤ s.size := by
  have h1 := ext_bytes s A (x :: P) Q (by rw [h.all]; simp)
  have h2 := (bytes_le s (A ++ x :: P) Q (by rw [h.all]; simp)).1
  have h3 : (bytes (A ++ x :: P)).length = (bytes A).length + (x.b ++ bytes P).length := by rw [bytes_append, List.length_append, bytes_cons]
  exact ⟨h1, by omega, h2, by rw [ofL_size]; omega⟩

theorem adv_snoc (A : List Mk) (x : Mk) (P : List Mk) : adv (adv 1 1 A).1 (adv 1 1 A).2 (x :: P) = adv 1 1 (A ++ x :: P) := (adv_append A (x :: P) 1 1).symm

/-- Behind what was taken. -/
theorem Taken.rest {MM A : List Mk} {x : Mk} {kk : Nat} {P Q : List Mk} {p : Mk → Bool} (h : Taken MM A x kk P Q p) {D : List Tok} {o : Out} (ht : tk D 0 (x :: (P ++ Q)) (adv 1 1 A).1 (adv 1 1 A).2 = o) (hb : x.bad = false) (hm : moreF x.r (P ++ Q) = P.length) (hw : wrongF (kindF x.r) P.length (x.b ++ bytes P) = 0) :
    tk (if kindF x.r = 5 then D else D ++ [⟨kindF x.r, (adv 1 1 A).1, (adv 1 1 A).2, ofL (x.b ++ bytes P)⟩]) 0 Q (adv 1 1 (A ++ x :: P)).1 (adv 1 1 (A ++ x :: P)).2 = o := by
  rw [← ht, tk_piece D x P Q _ _ hb (fun y hy => (h.good y hy).2) hm hw, adv_snoc]

theorem more_remark {x : Mk} {P Q : List Mk} (hr : x.r = 59) (hP : ∀ y ∈ P, (y.r != 10) = true ∧ y.bad = false) (hQ : ∀ q, Q.head? = some q → (q.r != 10) = false) : moreF x.r (P ++ Q) = P.length := by
  unfold moreF
  rw [if_pos hr, takeWhile_stop _ P Q (fun y hy => (hP y hy).1) hQ]

theorem more_word {x : Mk} {P Q : List Mk} (hr : x.r ≠ 59) (hk : kindF x.r = 1 ∨ kindF x.r = 2) (hP : ∀ y ∈ P, wordy y = true ∧ y.bad = false) (hQ : ∀ q, Q.head? = some q → wordy q = false) : moreF x.r (P ++ Q) = P.length := by
  unfold moreF
  rw [if_neg hr, if_pos hk, takeWhile_stop _ P Q (fun y hy => (hP y hy).1) hQ]

theorem more_none {x : Mk} {Q : List Mk} (hr : x.r ≠ 59) (hk : kindF x.r ≠ 1 ∧ kindF x.r ≠ 2) : moreF x.r ([] ++ Q) = ([] : List Mk).length := by
  unfold moreF
  rw [if_neg hr, if_neg (by omega)]
  rfl

end Go.Proofs.YtfgnogdlkhagdaaDoor
