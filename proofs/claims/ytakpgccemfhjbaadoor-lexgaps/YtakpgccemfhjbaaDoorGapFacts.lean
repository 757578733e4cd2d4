/-
  Tokens that are set apart by blanks and remarks are the same tokens. Nothing runs here. Conditions: as each theorem names them.
-/
import Derived.Test.YtakpgccemfhjbaaDoorLexFacts
namespace Go.Proofs.YtakpgccemfhjbaaDoor
open Go.Lib
set_option linter.unusedVariables false

/-- A token that was taken out of some text. -/
def TokOk (t : Tok) : Prop := ∃ x P, (∀ y ∈ x :: P, Wf y) ∧ t.text = ofL (bytes (x :: P)) ∧ t.kind = kindF x.r ∧ kindF x.r ≠ 5 ∧ x.bad = false ∧ (∀ y ∈ P, wordy y = true) ∧ (kindF x.r ≠ 1 ∧ kindF x.r ≠ 2 → P = []) ∧ wrongF (kindF x.r) P.length (bytes (x :: P)) = 0

theorem kind_59 {r : Nat} (h : kindF r ≠ 5) : r ≠ 59 := by
  rintro rfl
  exact h rfl

theorem bytes_take (R : List Mk) (n : Nat) : (bytes (R.take n)).length ≤ (bytes R).length := by
  conv => rhs; rw [← List.take_append_drop n R]
  rw [bytes_append, List.length_append]
  omega

theorem tk_toks (MM : List Mk) (hwf : ∀ x ∈ MM, x.bad = false → Wf x) : ∀ (M : List Mk) (n l c : Nat) (D T : List Tok), (∀ x ∈ M, x ∈ MM) → tk D n M l c = .ok T →
    ∃ T' e, T = D ++ T' ++ [e] ∧ e.kind = 4 ∧ e.text = ofL [] ∧ ∀ t ∈ T', TokOk t ∧ t.text.size ≤ (bytes M).length
  | [], n, l, c, D, T, hm, h => by
    have h' : Out.ok (D ++ [⟨4, l, c, ofL []⟩]) = .ok T := by cases n <;> exact h
    cases h'
    exact ⟨[], ⟨4, l, c, ofL []⟩, by simp, rfl, rfl, fun t ht => by simp at ht⟩
  | x :: R, n, l, c, D, T, hm, h => by
    have hR : ∀ y ∈ R, y ∈ MM := fun y hy => hm y (by simp [hy])
    have hlen : (bytes R).length ≤ (bytes (x :: R)).length := by rw [bytes_cons, List.length_append]; omega
    by_cases hb : x.bad = true
    · rw [tk_bad D n x R _ _ hb] at h; cases h
    · have hb0 : x.bad = false := by simpa using hb
      cases n with
      | succ m =>
        rw [tk_skip D m x R _ _ hb0] at h
        obtain ⟨T', e, h1, h2, h3, h4⟩ := tk_toks MM hwf R m _ _ D T hR h
        exact ⟨T', e, h1, h2, h3, fun t ht => ⟨(h4 t ht).1, Nat.le_trans (h4 t ht).2 hlen⟩⟩
      | zero =>
        by_cases hw : wrongF (kindF x.r) (moreF x.r R) (textF x R) = 0
        · rw [tk_new D x R _ _ hb0 hw] at h
          obtain ⟨T', e, h1, h2, h3, h4⟩ := tk_toks MM hwf R _ _ _ _ T hR h
          by_cases hk : kindF x.r = 5
          · rw [if_pos hk] at h1
            exact ⟨T', e, h1, h2, h3, fun t ht => ⟨(h4 t ht).1, Nat.le_trans (h4 t ht).2 hlen⟩⟩
          · rw [if_neg hk] at h1
            refine ⟨⟨kindF x.r, l, c, ofL (textF x R)⟩ :: T', e, by rw [h1]; simp, h2, h3, ?_⟩
            intro t ht
            rcases List.mem_cons.1 ht with rfl | ht
            · refine ⟨⟨x, R.take (moreF x.r R), ?_, rfl, rfl, hk, hb0, ?_, ?_, ?_⟩, ?_⟩
              · intro y hy
                rcases List.mem_cons.1 hy with rfl | hy
                · exact hwf _ (hm _ (by simp)) hb0
                · have hyR := List.mem_of_mem_take hy
                  have hwd : wordy y = true := by
                    unfold moreF at hy
                    rw [if_neg (kind_59 hk)] at hy
                    by_cases hk12 : kindF x.r = 1 ∨ kindF x.r = 2
                    · rw [if_pos hk12, take_takeWhile] at hy
                      exact List.all_eq_true.1 List.all_takeWhile y hy
                    · rw [if_neg hk12] at hy; simp at hy
                  exact hwf y (hR y hyR) (wordy_good hwd)
              · intro y hy
                unfold moreF at hy
                rw [if_neg (kind_59 hk)] at hy
                by_cases hk12 : kindF x.r = 1 ∨ kindF x.r = 2
                · rw [if_pos hk12, take_takeWhile] at hy
                  exact List.all_eq_true.1 List.all_takeWhile y hy
                · rw [if_neg hk12] at hy; simp at hy
              · intro hk12
                unfold moreF
                rw [if_neg (kind_59 hk), if_neg (by omega)]
                rfl
              · rw [List.length_take, Nat.min_eq_left (moreF_le _ _)]
                exact hw
              · show (ofL (textF x R)).size ≤ _
                rw [ofL_size, bytes_cons, List.length_append]
                unfold textF
                rw [List.length_append]
                have := bytes_take R (moreF x.r R)
                omega
            · exact ⟨(h4 t ht).1, Nat.le_trans (h4 t ht).2 hlen⟩
        · rw [tk_wrong D x R _ _ hb0 hw] at h; cases h

/-- What stands ahead of a line's end, and behind each token. -/
def preL : Nat → List UInt8
  | 1 => [32]
  | 2 => [59, 195, 169, 91, 9]
  | 3 => [9, 59, 59]
  | _ => []
def postL : Nat → List UInt8
  | 0 => [32]
  | 1 => [9]
  | 2 => [32, 32]
  | _ => [32, 9]

def segL (a b : Nat) (i : Nat) (t : Tok) : List UInt8 := (if t.kind = 4 then preL ((a + i) % 4) else []) ++ (t.text.data.toList ++ postL ((b + i) % 4))

/-- The text that is made of tokens: all but the last one. -/
def gapL (a b : Nat) : Nat → List Tok → List UInt8
  | _, [] => []
  | _, [_] => []
  | i, t :: u :: T => segL a b i t ++ gapL a b (i + 1) (u :: T)

theorem marks_byte (b : UInt8) (h : b.toNat < 128) (X : List UInt8) : marks (b :: X) = ⟨b.toNat, [b]⟩ :: marks X := marks_wf ⟨b.toNat, [b]⟩ X (wf_byte b h)

theorem byte_good (b : UInt8) (h : b.toNat < 128) : (⟨b.toNat, [b]⟩ : Mk).bad = false := by
  unfold Mk.bad badOf
  have : (((b.toNat : Nat) : Int) == 65533) = false := by simp; omega
  rw [this]
  rfl

/-- A blank is gone by. -/
theorem tk_blank (D : List Tok) (b : UInt8) (hb : b = 32 ∨ b = 9) (X : List UInt8) (l c : Nat) : ∃ l' c', tk D 0 (marks (b :: X)) l c = tk D 0 (marks X) l' c' := by
  have hlt : b.toNat < 128 := by rcases hb with rfl | rfl <;> decide
  have hk : kindF b.toNat = 5 := by rcases hb with rfl | rfl <;> decide
  have h59 : b.toNat ≠ 59 := by rcases hb with rfl | rfl <;> decide
  rw [marks_byte b hlt]
  have h := tk_piece D ⟨b.toNat, [b]⟩ [] (marks X) l c (byte_good b hlt) (fun y hy => by simp at hy) (more_none h59 (by show kindF b.toNat ≠ 1 ∧ kindF b.toNat ≠ 2; omega)) (by show wrongF (kindF b.toNat) _ _ = 0; rw [hk]; rfl)
  rw [List.nil_append, if_pos (show kindF (⟨b.toNat, [b]⟩ : Mk).r = 5 from hk)] at h
  exact ⟨_, _, h⟩

/-- A remark is gone by, if no rune of it is bad and its line ends behind it. -/
theorem tk_rem (D : List Tok) (P : List Mk) (hP : ∀ y ∈ P, Wf y ∧ (y.r != 10) = true ∧ y.bad = false) (X : List UInt8) (hX : X = [] ∨ X.head? = some 10) (l c : Nat) :
    ∃ l' c', tk D 0 (marks (59 :: (bytes P ++ X))) l c = tk D 0 (marks X) l' c' := by
  rw [marks_byte 59 (by decide), marks_wfs P X (fun y hy => (hP y hy).1)]
  have hk : kindF (59 : UInt8).toNat = 5 := by decide
  have h := tk_piece D ⟨(59 : UInt8).toNat, [59]⟩ P (marks X) l c (byte_good 59 (by decide)) (fun y hy => (hP y hy).2.2) (more_remark rfl (fun y hy => (hP y hy).2) ?_) (by show wrongF (kindF (59 : UInt8).toNat) _ _ = 0; rw [hk]; rfl)
  · rw [if_pos (show kindF (⟨(59 : UInt8).toNat, [59]⟩ : Mk).r = 5 from hk)] at h
    exact ⟨_, _, h⟩
  · intro q hq
    rcases hX with rfl | hX
    · rw [marks_nil] at hq; cases hq
    · cases X with
      | nil => cases hX
      | cons b X =>
        simp only [List.head?_cons, Option.some.injEq] at hX
        subst hX
        rw [marks_byte 10 (by decide)] at hq
        simp only [List.head?_cons, Option.some.injEq] at hq
        subst hq
        decide

theorem tk_post (D : List Tok) (j : Nat) (X : List UInt8) (l c : Nat) : ∃ l' c', tk D 0 (marks (postL j ++ X)) l c = tk D 0 (marks X) l' c' := by
  match j with
  | 0 => exact tk_blank D 32 (Or.inl rfl) X l c
  | 1 => exact tk_blank D 9 (Or.inr rfl) X l c
  | 2 =>
    obtain ⟨l1, c1, h1⟩ := tk_blank D 32 (Or.inl rfl) (32 :: X) l c
    obtain ⟨l2, c2, h2⟩ := tk_blank D 32 (Or.inl rfl) X l1 c1
    exact ⟨l2, c2, h1.trans h2⟩
  | j + 3 =>
    obtain ⟨l1, c1, h1⟩ := tk_blank D 32 (Or.inl rfl) (9 :: X) l c
    obtain ⟨l2, c2, h2⟩ := tk_blank D 9 (Or.inr rfl) X l1 c1
    exact ⟨l2, c2, h1.trans h2⟩

theorem wf_e9 : Wf ⟨233, [195, 169]⟩ := by
  refine ⟨by simp, fun t => ?_⟩
  rw [decodeL_N]
  simp [decodeN]

theorem tk_pre (D : List Tok) (j : Nat) (X : List UInt8) (hX : X.head? = some 10) (l c : Nat) : ∃ l' c', tk D 0 (marks (preL j ++ X)) l c = tk D 0 (marks X) l' c' := by
  match j with
  | 0 => exact ⟨l, c, rfl⟩
  | 1 => exact tk_blank D 32 (Or.inl rfl) X l c
  | 2 =>
    exact tk_rem D [⟨233, [195, 169]⟩, ⟨91, [91]⟩, ⟨9, [9]⟩] (fun y hy => by
      simp only [List.mem_cons, List.not_mem_nil, or_false] at hy
      rcases hy with rfl | rfl | rfl
      · exact ⟨wf_e9, by decide, by decide⟩
      · exact ⟨wf_byte 91 (by decide), by decide, by decide⟩
      · exact ⟨wf_byte 9 (by decide), by decide, by decide⟩) X (Or.inr hX) l c
  | 3 =>
    obtain ⟨l1, c1, h1⟩ := tk_blank D 9 (Or.inr rfl) (59 :: (bytes [⟨59, [59]⟩] ++ X)) l c
    obtain ⟨l2, c2, h2⟩ := tk_rem D [⟨59, [59]⟩] (fun y hy => by
      obtain rfl := List.mem_singleton.1 hy
      exact ⟨wf_byte 59 (by decide), by decide, by decide⟩) X (Or.inr hX) l1 c1
    exact ⟨l2, c2, h1.trans h2⟩
  | j + 4 => exact ⟨l, c, rfl⟩

theorem post_head (j : Nat) (X : List UInt8) : ∃ b Y, postL j ++ X = b :: Y ∧ (b = 32 ∨ b = 9) := by
  match j with
  | 0 => exact ⟨32, _, rfl, Or.inl rfl⟩
  | 1 => exact ⟨9, _, rfl, Or.inr rfl⟩
  | 2 => exact ⟨32, _, rfl, Or.inl rfl⟩
  | j + 3 => exact ⟨32, _, rfl, Or.inl rfl⟩

/-- A token is taken again, if a blank stands behind it. -/
theorem tk_tok (D : List Tok) (t : Tok) (ht : TokOk t) (X : List UInt8) (hX : ∃ b Y, X = b :: Y ∧ (b = 32 ∨ b = 9)) (l c : Nat) :
    ∃ l' c', tk D 0 (marks (t.text.data.toList ++ X)) l c = tk (D ++ [⟨t.kind, l, c, t.text⟩]) 0 (marks X) l' c' := by
  obtain ⟨x, P, h1, h2, h3, h4, h5, h6, h7, h8⟩ := ht
  rw [h2, ofL_list, marks_wfs _ X h1, h3]
  have hq : ∀ q, (marks X).head? = some q → wordy q = false := by
    obtain ⟨b, Y, rfl, hb⟩ := hX
    have hlt : b.toNat < 128 := by rcases hb with rfl | rfl <;> decide
    rw [marks_byte b hlt]
    intro q hq
    simp only [List.head?_cons, Option.some.injEq] at hq
    subst hq
    rcases hb with rfl | rfl <;> decide
  have hm : moreF x.r (P ++ marks X) = P.length := by
    by_cases hk : kindF x.r = 1 ∨ kindF x.r = 2
    · exact more_word (kind_59 h4) hk (fun y hy => ⟨h6 y hy, wordy_good (h6 y hy)⟩) hq
    · have := h7 (by omega)
      subst this
      exact more_none (kind_59 h4) (by omega)
  have h := tk_piece D x P (marks X) l c h5 (fun y hy => wordy_good (h6 y hy)) hm h8
  rw [if_neg h4] at h
  exact ⟨_, _, h⟩

theorem kind4 {t : Tok} (ht : TokOk t) (hk : t.kind = 4) : t.text.data.toList.head? = some 10 := by
  obtain ⟨x, P, h1, h2, h3, h4, h5, h6, h7, h8⟩ := ht
  have hP := h7 (by omega)
  subst hP
  have hr : x.r = 10 := by
    rw [hk] at h3
    unfold kindF at h3
    repeat' split at h3
    all_goals first | assumption | omega
  have hw := h1 x (by simp)
  have hd := hw.2 []
  rw [List.append_nil, hr] at hd
  have h9 := mark_low x.b hw.1 (by show (decodeL x.b).1 < 128; rw [hd]; show (10 : Nat) < 128; decide)
  obtain ⟨b, e1, e2, e3⟩ := h9
  rw [h2, ofL_list]
  show (x.b ++ bytes []).head? = _
  rw [bytes_nil, List.append_nil, e3]
  congr 1
  apply UInt8.toNat_inj.1
  rw [e2]
  show (decodeL x.b).1 = _
  rw [hd]
  rfl

/-- The same kinds and texts. -/
def Same (A B : List Tok) : Prop := A.map (fun t => (t.kind, t.text)) = B.map (fun t => (t.kind, t.text))

theorem gaps_ok (a b : Nat) : ∀ (T : List Tok) (e : Tok) (i : Nat) (D : List Tok) (l c : Nat), (∀ t ∈ T, TokOk t) → e.kind = 4 → e.text = ofL [] →
    ∃ T2, tk D 0 (marks (gapL a b i (T ++ [e]) ++ [59])) l c = .ok (D ++ T2) ∧ Same T2 (T ++ [e])
  | [], e, i, D, l, c, _, hk, ht => by
    obtain ⟨l', c', h⟩ := tk_rem D [] (fun y hy => by simp at hy) [] (Or.inl rfl) l c
    refine ⟨[⟨4, l', c', ofL []⟩], ?_, ?_⟩
    · exact h
    · simp [Same, hk, ht]
  | t :: T, e, i, D, l, c, hT, hk, ht => by
    have htok := hT t (by simp)
    obtain ⟨u, U, hU⟩ : ∃ u U, T ++ [e] = u :: U := by
      cases T with
      | nil => exact ⟨e, [], rfl⟩
      | cons u T => exact ⟨u, T ++ [e], rfl⟩
    have hg : gapL a b i (t :: T ++ [e]) ++ [59] = (if t.kind = 4 then preL ((a + i) % 4) else []) ++ (t.text.data.toList ++ (postL ((b + i) % 4) ++ (gapL a b (i + 1) (T ++ [e]) ++ [59]))) := by
      rw [List.cons_append, hU]
      show segL a b i t ++ gapL a b (i + 1) (u :: U) ++ [59] = _
      unfold segL
      simp only [List.append_assoc]
    rw [hg]
    obtain ⟨l1, c1, h1⟩ : ∃ l1 c1, tk D 0 (marks ((if t.kind = 4 then preL ((a + i) % 4) else []) ++ (t.text.data.toList ++ (postL ((b + i) % 4) ++ (gapL a b (i + 1) (T ++ [e]) ++ [59]))))) l c = tk D 0 (marks (t.text.data.toList ++ (postL ((b + i) % 4) ++ (gapL a b (i + 1) (T ++ [e]) ++ [59])))) l1 c1 := by
      by_cases h4 : t.kind = 4
      · rw [if_pos h4]
        have hh := kind4 htok h4
        refine tk_pre D _ _ ?_ l c
        cases hl : t.text.data.toList with
        | nil => rw [hl] at hh; cases hh
        | cons y Y => rw [hl] at hh; exact hh
      · rw [if_neg h4]
        exact ⟨l, c, rfl⟩
    obtain ⟨l2, c2, h2⟩ := tk_tok D t htok _ (post_head ((b + i) % 4) (gapL a b (i + 1) (T ++ [e]) ++ [59])) l1 c1
    obtain ⟨l3, c3, h3⟩ := tk_post (D ++ [⟨t.kind, l1, c1, t.text⟩]) ((b + i) % 4) (gapL a b (i + 1) (T ++ [e]) ++ [59]) l2 c2
    obtain ⟨T2, h5, h6⟩ := gaps_ok a b T e (i + 1) (D ++ [⟨t.kind, l1, c1, t.text⟩]) l3 c3 (fun t' ht' => hT t' (by simp [ht'])) hk ht
    refine ⟨⟨t.kind, l1, c1, t.text⟩ :: T2, ?_, ?_⟩
    · rw [h1, h2, h3, h5]; simp
    · unfold Same at h6 ⊢
      rw [List.map_cons, h6]
      simp

/-- The tokens of a text, set apart. -/
theorem tokens_gaps (s : ByteArray) (T : List Tok) (h : tokens s = .ok T) (a b : Nat) (t : ByteArray) (ht : t.data.toList = gapL a b 0 T ++ [59]) : ∃ T2, tokens t = .ok T2 ∧ Same T2 T := by
  obtain ⟨T', e, h1, h2, h3, h4⟩ := tk_toks (marks s.data.toList) (wf_marks s.data.toList) _ _ _ _ _ _ (fun x hx => hx) h
  rw [List.nil_append] at h1
  subst h1
  obtain ⟨T2, h5, h6⟩ := gaps_ok a b T' e 0 [] 1 1 (fun t ht => (h4 t ht).1) h2 h3
  unfold tokens
  rw [ht]
  rw [List.nil_append] at h5
  exact ⟨T2, h5, h6⟩

theorem post_len (j : Nat) : (postL j).length ≤ 2 := by
  unfold postL
  split <;> simp
theorem pre_len (j : Nat) : (preL j).length ≤ 5 := by
  unfold preL
  split <;> simp

theorem gap_len (a b m : Nat) : ∀ (T : List Tok) (i : Nat), (∀ t ∈ T, t.text.size ≤ m) → (gapL a b i T).length ≤ T.length * (m + 7)
  | [], i, _ => by simp [gapL]
  | [t], i, _ => by simp [gapL]
  | t :: u :: T, i, h => by
    have ih := gap_len a b m (u :: T) (i + 1) (fun t ht => h t (by simp at ht ⊢; exact Or.inr ht))
    have h1 := h t (by simp)
    have h2 := post_len ((b + i) % 4)
    have h3 := pre_len ((a + i) % 4)
    show (segL a b i t ++ gapL a b (i + 1) (u :: T)).length ≤ _
    have h4 : (segL a b i t).length ≤ m + 7 := by
      unfold segL
      rw [List.length_append, List.length_append, size_len]
      split
      · omega
      · rw [List.length_nil]; omega
    rw [List.length_append]
    simp only [List.length_cons] at ih ⊢
    rw [Nat.succ_mul]
    omega

theorem tokens_texts (s : ByteArray) (T : List Tok) (h : tokens s = .ok T) : ∀ t ∈ T, t.text.size ≤ s.size := by
  obtain ⟨T', e, h1, h2, h3, h4⟩ := tk_toks (marks s.data.toList) (wf_marks s.data.toList) _ _ _ _ _ _ (fun x hx => hx) h
  rw [List.nil_append] at h1
  subst h1
  intro t ht
  rcases List.mem_append.1 ht with ht | ht
  · have := (h4 t ht).2
    rw [marks_bytes, size_len] at this
    exact this
  · obtain rfl := List.mem_singleton.1 ht
    rw [h3, ofL_size]; simp

end Go.Proofs.YtakpgccemfhjbaaDoor
