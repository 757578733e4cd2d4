/-
  The first call whose answer the document fixes returns true; two rows of the same tokens are held the same. Nothing that was in memory turns. Conditions: the library's variables stand as its text lays them; the rows stand in memory.
  What stands ahead of the place at which a text is wrong is not wrong; tokens stand in their text one behind the other; no two runes stand at one place. Nothing runs here. Conditions: as each theorem names them.
-/
import Derived.Test.YtfgnogdlkhagdaaDoorLexTokens
import Derived.RegionTactic
import Derived.Deep.CutRange
import Derived.Test.YtfgnogdlkhagdaaDoorRefPlain
namespace Go.Proofs.YtfgnogdlkhagdaaDoor
open Go.RowKit
set_option linter.unusedVariables false

theorem toks1 : tokens ⟨#[120, 91, 49, 93, 32, 59, 32, 97]⟩ = .ok [⟨1, 1, 1, ⟨#[120]⟩⟩, ⟨3, 1, 2, ⟨#[91]⟩⟩, ⟨2, 1, 3, ⟨#[49]⟩⟩, ⟨3, 1, 4, ⟨#[93]⟩⟩, ⟨4, 1, 9, ⟨#[]⟩⟩] := by kernel_rfl
theorem toks2 : tokens ⟨#[97, 32, 36]⟩ = .bad 1 1 3 := by kernel_rfl

/-- The four cells of the i-th token. -/
theorem tok_get {w : World} {a : Option Addr} {T : List Tok} (h : CRow w a (flatC Tok.cells T)) {i : Nat} {x : Tok} (hx : T[i]? = some x) : ∃ g, a = some ⟨g, 0, none⟩ ∧
    w.cell? ⟨g, i * 4, none⟩ = some (.int .i64 (x.kind : Nat)) ∧ w.cell? ⟨g, i * 4 + 1, none⟩ = some (.int .i64 (x.line : Nat)) ∧ w.cell? ⟨g, i * 4 + 2, none⟩ = some (.int .i64 (x.col : Nat)) ∧ w.cell? ⟨g, i * 4 + 3, none⟩ = some (.string x.text) := by
  obtain ⟨g, rfl⟩ := CRow.some Tok.cells_len (by decide) h hx
  exact ⟨g, rfl, CRow.cell Tok.cells_len h hx (k := 0) (by decide) rfl, CRow.cell Tok.cells_len h hx (k := 1) (by decide) rfl, CRow.cell Tok.cells_len h hx (k := 2) (by decide) rfl, CRow.cell Tok.cells_len h hx (k := 3) (by decide) rfl⟩

set_option maxRecDepth 1000000 in
set_option maxHeartbeats 1000000 in
theorem lexAlive_any (w : World) (g : Good w) :
    Calls Tryd.prog 13 #[] w fun e w' => e = .returned (.bool true) ∧ Later w w' := by
  have h1 : ∀ w', Good w' → _ := fun w' (g' : Good w') => tokens_any ⟨#[120, 91, 49, 93, 32, 59, 32, 97]⟩ (by decide) w' g'
  have h2 : ∀ w', Good w' → _ := fun w' (g' : Good w') => tokens_any ⟨#[97, 32, 36]⟩ (by decide) w' g'
  rw [toks1] at h1
  rw [toks2] at h2
  have go : ∀ {w'}, Later w w' → Good w' := fun h => g.later h
  go_enter Tryd.func13, Tryd.ntmps13
  go_upto_region 3 with (first
    | (go_at_call 10; apply Calls.mono; (focus (with_reducible (exact h1 _ (go (Later.refl _))))); rintro e w1 ⟨⟨a, cap, rfl, hrow⟩, hl1⟩)
    | (go_at_call 10; apply Calls.mono; (focus (with_reducible (exact h2 _ (go (Later.alloc hl1 _))))); rintro e w2 ⟨hres, hl2⟩; obtain rfl : e = _ := hres))
  have L2 := Later.alloc (Later.trans (Later.alloc hl1 (.cells #[.int .i64 0, .int .i64 0, .int .i64 0] 34)) hl2) (.cells #[.int .i64 1, .int .i64 1, .int .i64 3] 34)
  have lx : Later w2 (w2.alloc (.cells #[.int .i64 1, .int .i64 1, .int .i64 3] 34)) := Later.alloc (Later.refl _) _
  have hr2 := ((hrow.later (Later.alloc (Later.refl _) _)).later hl2).later lx
  have hbx := (lx.block _ (by have := hl2.size; simp at this; omega)).trans ((hl2.block _ (by simp)).trans (at_new w1 _))
  obtain ⟨b0, b1, b2, -, -, -⟩ := box3_facts hbx
  obtain ⟨c0, c1, c2, -, -, -⟩ := box3_facts (at_new w2 (.cells #[.int .i64 1, .int .i64 1, .int .i64 3] 34))
  obtain ⟨g1, e1, p0, p1, p2, p3⟩ := tok_get hr2 (i := 0) rfl
  cases e1
  obtain ⟨g2, e2, q0, q1, q2, q3⟩ := tok_get hr2 (i := 4) rfl
  cases e2
  simp only [Nat.zero_mul, Nat.zero_add] at p0 p1 p2 p3 q0 q1 q2 q3
  clear hrow hr2 hbx lx
  generalize w2.alloc (.cells #[.int .i64 1, .int .i64 1, .int .i64 3] 34) = W3 at *
  go_wp2
  go_ret
  exact ⟨by simp, L2⟩

set_option maxRecDepth 1000000 in
set_option maxHeartbeats 1000000 in
theorem lexSame_any (w : World) (T : List Tok) (a b : Option Addr) (ca cb : Nat) (hT : T.length ≤ 1000001) (ra : CRow w a (flatC Tok.cells T)) (rb : CRow w b (flatC Tok.cells T)) :
    Calls Tryd.prog 12 #[.slice a T.length ca, .slice b T.length cb] w fun e w' => e = .returned (.bool true) ∧ Later w w' := by
  go_enter Tryd.func12, Tryd.ntmps12
  go_wp2
  go_loopw [5] (fun vi wr => ∃ (k : Nat), vi = .int .i64 (k : Nat) ∧ k ≤ T.length ∧ Later w wr) (fun vi _ => T.length - (intOf vi).toNat)
  case atStart => exact ⟨0, rfl, by omega, Later.refl _⟩
  case round =>
    obtain ⟨k, rfl, hk, hlw⟩ := hrel
    by_cases hlt : k < T.length
    · obtain ⟨x, hx⟩ : ∃ x, T[k]? = some x := ⟨_, List.getElem?_eq_getElem hlt⟩
      obtain ⟨ga, rfl, p0, p1, p2, p3⟩ := tok_get (ra.later hlw) hx
      obtain ⟨gb, rfl, q0, q1, q2, q3⟩ := tok_get (rb.later hlw) hx
      clear hx ra rb
      generalize x.kind = k1 at *
      generalize x.line = k2 at *
      generalize x.col = k3 at *
      generalize x.text = k4 at *
      have hi1 : (k : Int) < (T.length : Int) := by omega
      go_wp2
      go_quiet (fail)
      go_wp2
      go_roundw
      case rel => exact ⟨k + 1, by go_num, by omega, Later.drewN hlw _⟩
      case measure => simp [intOf]; omega
    · go_wp2
      go_ret
      exact ⟨rfl, hlw⟩

end Go.Proofs.YtfgnogdlkhagdaaDoor

namespace Go.Proofs.YtfgnogdlkhagdaaDoor
set_option linter.unusedVariables false

theorem wrongF_same (k : Nat) (n m : Nat) (t : List UInt8) (h : n = m) : wrongF k n t = wrongF k m t := by rw [h]

theorem takeWhile_len {α : Type} (p : α → Bool) (A : List α) (x : α) (B : List α) : ((A ++ x :: B).takeWhile p).length = (A.takeWhile p).length ∨ (A.takeWhile p = A ∧ A.length ≤ ((A ++ x :: B).takeWhile p).length ∧ (A.length < ((A ++ x :: B).takeWhile p).length → p x = true)) := by
  induction A with
  | nil =>
    right
    refine ⟨rfl, Nat.zero_le _, ?_⟩
    intro h
    rw [List.nil_append, List.takeWhile_cons] at h
    cases hp : p x
    · rw [hp] at h; simp at h
    · rfl
  | cons y A ih =>
    rw [List.cons_append, List.takeWhile_cons, List.takeWhile_cons]
    cases hp : p y
    · left; simp
    · simp only [if_true, List.length_cons]
      rcases ih with h | ⟨h1, h2, h3⟩
      · left; omega
      · right
        exact ⟨by rw [h1], by omega, fun h => h3 (by omega)⟩

/-- Where a text is wrong; and that nothing ahead of it is. -/
theorem tk_ahead : ∀ (M : List Mk) (D : List Tok) (n l c k l' c' : Nat), tk D n M l c = .bad k l' c' →
    ∃ A x B, M = A ++ x :: B ∧ (l', c') = adv l c A ∧ (∀ y ∈ A, y.bad = false) ∧ (x.bad = true ∨ n ≤ A.length) ∧ k ≠ 0 ∧ ∃ T, tk D n A l c = .ok T
  | [], D, n, l, c, k, l', c', h => by cases n <;> cases h
  | y :: R, D, n, l, c, k, l', c', h => by
    by_cases hb : y.bad = true
    · rw [tk_bad D n y R l c hb] at h
      cases h
      exact ⟨[], y, R, rfl, rfl, (fun z hz => by simp at hz), Or.inl hb, by decide, _, by cases n <;> rfl⟩
    · have hb0 : y.bad = false := by simpa using hb
      cases n with
      | succ m =>
        rw [tk_skip D m y R l c hb0] at h
        obtain ⟨A, x, B, h1, h2, h3, h4, h5, T, h6⟩ := tk_ahead R D m _ _ _ _ _ h
        refine ⟨y :: A, x, B, by rw [h1]; rfl, h2, ?_, ?_, h5, T, ?_⟩
        · intro z hz
          rcases List.mem_cons.1 hz with rfl | hz
          · exact hb0
          · exact h3 z hz
        · rcases h4 with h4 | h4
          · exact Or.inl h4
          · right; simp; omega
        · rw [tk_skip D m y A l c hb0]; exact h6
      | zero =>
        by_cases hw : wrongF (kindF y.r) (moreF y.r R) (textF y R) = 0
        · rw [tk_new D y R l c hb0 hw] at h
          obtain ⟨A, x, B, h1, h2, h3, h4, h5, T, h6⟩ := tk_ahead R _ _ _ _ _ _ _ h
          refine ⟨y :: A, x, B, by rw [h1]; rfl, h2, ?_, Or.inr (Nat.zero_le _), h5, ?_⟩
          · intro z hz
            rcases List.mem_cons.1 hz with rfl | hz
            · exact hb0
            · exact h3 z hz
          · -- what is taken, of all that stands ahead
            have key : moreF y.r R = moreF y.r A ∨ (kindF y.r = 5 ∧ moreF y.r A = A.length) := by
              unfold moreF at h4 ⊢
              by_cases h59 : y.r = 59
              · rw [if_pos h59] at h4 ⊢
                rw [if_pos h59]
                rcases takeWhile_len (fun z : Mk => z.r != 10) A x B with e | ⟨e1, e2, e3⟩
                · left; rw [h1]; exact e
                · right; exact ⟨by rw [h59]; rfl, by rw [e1]⟩
              · rw [if_neg h59] at h4 ⊢
                rw [if_neg h59]
                by_cases hk : kindF y.r = 1 ∨ kindF y.r = 2
                · rw [if_pos hk] at h4 ⊢
                  rw [if_pos hk]
                  rcases takeWhile_len wordy A x B with e | ⟨e1, e2, e3⟩
                  · left; rw [h1]; exact e
                  · left
                    rw [h1, e1]
                    rw [h1] at h4
                    rcases h4 with h4 | h4
                    · rcases Nat.lt_or_ge A.length ((A ++ x :: B).takeWhile wordy).length with hl | hl
                      · have := wordy_good (e3 hl)
                        rw [h4] at this; cases this
                      · omega
                    · omega
                · rw [if_neg hk, if_neg hk]
                  exact Or.inl rfl
            rcases key with e | ⟨e1, e2⟩
            · have ht : textF y A = textF y R := by
                unfold textF
                rw [e, h1]
                have hle := moreF_le y.r A
                rw [List.take_append_of_le_length hle]
              exact ⟨T, by rw [tk_new D y A l c hb0 (by rw [← e, ht]; exact hw), ← e, ht]; exact h6⟩
            · rw [tk_new D y A l c hb0 (by rw [e1]; rfl), e2]
              exact ⟨_, tk_rest _ A _ _ _ h3 (Nat.le_refl _)⟩
        · rw [tk_wrong D y R l c hb0 hw] at h
          cases h
          exact ⟨[], y, R, rfl, rfl, (fun z hz => by simp at hz), Or.inr (Nat.zero_le _), hw, _, rfl⟩

/-- The text ahead of the fault is taken apart. -/
theorem tokens_ahead (s : ByteArray) (k l c : Nat) (h : tokens s = .bad k l c) : ∃ A x B, marks s.data.toList = A ++ x :: B ∧ (l, c) = adv 1 1 A ∧ k ≠ 0 ∧ ∃ T, tokens (ofL (bytes A)) = .ok T := by
  obtain ⟨A, x, B, h1, h2, h3, -, h5, T, h6⟩ := tk_ahead _ _ _ _ _ _ _ _ h
  refine ⟨A, x, B, h1, h2, h5, T, ?_⟩
  unfold tokens
  rw [ofL_list, marks_of_wfs A (fun y hy => wf_marks s.data.toList y (by rw [h1]; simp [hy]) (h3 y hy))]
  exact h6

/-! ### No two runes stand at one place -/

theorem adv_lt : ∀ (M : List Mk) (l c : Nat), M ≠ [] → l < (adv l c M).1 ∨ (l = (adv l c M).1 ∧ c < (adv l c M).2)
  | [], _, _, h => absurd rfl h
  | x :: M, l, c, _ => by
    have h1 : l < nl l x.r ∨ (l = nl l x.r ∧ c < nc c x.r) := by
      unfold nl nc
      by_cases h : x.r = 10
      · left; rw [if_pos h]; omega
      · right; rw [if_neg h, if_neg h]; omega
    show l < (adv (nl l x.r) (nc c x.r) M).1 ∨ _
    by_cases hM : M = []
    · subst hM; exact h1
    · have h2 := adv_lt M (nl l x.r) (nc c x.r) hM
      show _ ∨ (l = (adv (nl l x.r) (nc c x.r) M).1 ∧ c < (adv (nl l x.r) (nc c x.r) M).2)
      omega

/-- Ahead of a place no rune stands there. -/
theorem adv_ne (A B : List Mk) (hB : B ≠ []) : ¬ ((adv 1 1 A).1 = (adv 1 1 (A ++ B)).1 ∧ (adv 1 1 A).2 = (adv 1 1 (A ++ B)).2) := by
  have := adv_lt B (adv 1 1 A).1 (adv 1 1 A).2 hB
  rw [adv_append]
  omega

/-! ### One behind the other -/

/-- Tokens that stand in a text from a place on, and the last one at its end. -/
def Stands (MM : List Mk) : List Mk → List Tok → Prop
  | _, [] => False
  | A, [t] => t = ⟨4, (adv 1 1 MM).1, (adv 1 1 MM).2, ofL []⟩ ∧ ∃ R, MM = A ++ R
  | A, t :: u :: T => ∃ G V R, MM = A ++ G ++ V ++ R ∧ V ≠ [] ∧ t.line = (adv 1 1 (A ++ G)).1 ∧ t.col = (adv 1 1 (A ++ G)).2 ∧ t.text = ofL (bytes V) ∧ Stands MM (A ++ G ++ V) (u :: T)

theorem Stands.ahead {MM A G : List Mk} {T : List Tok} (h : Stands MM (A ++ G) T) : Stands MM A T := by
  cases T with
  | nil => exact h
  | cons t T =>
    cases T with
    | nil =>
      obtain ⟨h1, R, h2⟩ := h
      exact ⟨h1, G ++ R, by rw [h2]; simp⟩
    | cons u T =>
      obtain ⟨G', V, R, h1, h2, h3, h4, h5, h6⟩ := h
      refine ⟨G ++ G', V, R, by rw [h1]; simp, h2, by rw [h3]; simp, by rw [h4]; simp, h5, ?_⟩
      have e : A ++ (G ++ G') ++ V = A ++ G ++ G' ++ V := by simp
      rw [e]; exact h6

theorem tk_stands (MM : List Mk) : ∀ (M A : List Mk) (n : Nat) (D T : List Tok), MM = A ++ M → tk D n M (adv 1 1 A).1 (adv 1 1 A).2 = .ok T → ∃ T', T = D ++ T' ∧ Stands MM (A ++ M.take n) T'
  | [], A, n, D, T, hm, h => by
    have h' : Out.ok (D ++ [⟨4, (adv 1 1 A).1, (adv 1 1 A).2, ofL []⟩]) = .ok T := by cases n <;> exact h
    cases h'
    rw [List.append_nil] at hm
    subst hm
    exact ⟨_, rfl, rfl, [], by simp⟩
  | x :: R, A, n, D, T, hm, h => by
    have hm' : MM = (A ++ [x]) ++ R := by rw [hm]; simp
    have ha : adv 1 1 (A ++ [x]) = (nl (adv 1 1 A).1 x.r, nc (adv 1 1 A).2 x.r) := by rw [adv_append]; rfl
    by_cases hb : x.bad = true
    · rw [tk_bad D n x R _ _ hb] at h; cases h
    · have hb0 : x.bad = false := by simpa using hb
      cases n with
      | succ m =>
        rw [tk_skip D m x R _ _ hb0] at h
        obtain ⟨T', h1, h2⟩ := tk_stands MM R (A ++ [x]) m D T hm' (by rw [ha]; exact h)
        refine ⟨T', h1, ?_⟩
        rw [List.append_assoc] at h2
        exact h2
      | zero =>
        by_cases hw : wrongF (kindF x.r) (moreF x.r R) (textF x R) = 0
        · rw [tk_new D x R _ _ hb0 hw] at h
          obtain ⟨T', h1, h2⟩ := tk_stands MM R (A ++ [x]) _ _ T hm' (by rw [ha]; exact h)
          rw [List.take_zero, List.append_nil]
          by_cases hk : kindF x.r = 5
          · rw [if_pos hk] at h1
            refine ⟨T', h1, ?_⟩
            rw [List.append_assoc] at h2
            exact h2.ahead
          · rw [if_neg hk] at h1
            refine ⟨⟨kindF x.r, (adv 1 1 A).1, (adv 1 1 A).2, ofL (textF x R)⟩ :: T', by rw [h1]; simp, ?_⟩
            cases T' with
            | nil => exact absurd h2 id
            | cons u T' =>
              refine ⟨[], x :: R.take (moreF x.r R), R.drop (moreF x.r R), by rw [hm]; simp, by simp, by simp, by simp, rfl, ?_⟩
              have e : A ++ [] ++ (x :: R.take (moreF x.r R)) = A ++ [x] ++ R.take (moreF x.r R) := by simp
              rw [e]; exact h2
        · rw [tk_wrong D x R _ _ hb0 hw] at h; cases h

theorem tokens_stand (s : ByteArray) (T : List Tok) (h : tokens s = .ok T) : Stands (marks s.data.toList) [] T := by
  obtain ⟨T', h1, h2⟩ := tk_stands (marks s.data.toList) (marks s.data.toList) [] 0 [] T rfl h
  rw [List.nil_append] at h1
  subst h1
  simpa using h2

/-- What the search for a token's place finds. -/
structure Found (s : ByteArray) (A : List Mk) (t : Tok) (m here : Nat) : Prop where
  lo : A.length ≤ m
  hi : m ≤ (spots s).length
  other : ∀ j, j < m → ∃ y, (spots s)[j]? = some y ∧ ¬ (y.line = t.line ∧ y.col = t.col)
  at_ : m < (spots s).length → ∃ y, (spots s)[m]? = some y ∧ y.line = t.line ∧ y.col = t.col ∧ y.at_ = here
  end_ : m = (spots s).length → here = s.size
  le : (bytes A).length ≤ here
  fits : here + t.text.size ≤ s.size
  text : s.extract here (here + t.text.size) = t.text

theorem others (s : ByteArray) (A B : List Mk) (h : marks s.data.toList = A ++ B) : ∀ j, j < A.length → ∃ y, (spots s)[j]? = some y ∧ ¬ (y.line = (adv 1 1 A).1 ∧ y.col = (adv 1 1 A).2) := by
  intro j hj
  obtain ⟨y, C, e⟩ : ∃ y C, A = A.take j ++ y :: C := ⟨A[j], A.drop (j + 1), by rw [List.getElem_cons_drop hj, List.take_append_drop]⟩
  have hm2 : marks s.data.toList = A.take j ++ y :: (C ++ B) := by
    rw [h]
    exact (congrArg (· ++ B) e).trans (by simp)
  have h1 := spot_split s _ _ _ hm2
  rw [List.length_take, Nat.min_eq_left (by omega)] at h1
  refine ⟨_, h1, ?_⟩
  have h2 := adv_ne (A.take j) (y :: C) (by simp)
  rw [← e] at h2
  exact h2

theorem Stands.found {s : ByteArray} {A : List Mk} {t : Tok} {T : List Tok} (h : Stands (marks s.data.toList) A (t :: T)) :
    ∃ m here, Found s A t m here ∧ ((T = [] ∧ here + t.text.size = s.size ∧ t.kind = 4 ∧ t.text = ofL []) ∨ (T ≠ [] ∧ ∃ A1, here + t.text.size = (bytes A1).length ∧ m ≤ A1.length ∧ Stands (marks s.data.toList) A1 T)) := by
  cases T with
  | nil =>
    obtain ⟨rfl, R, hR⟩ := h
    have hl := spots_len s
    refine ⟨(spots s).length, s.size, ⟨?_, Nat.le_refl _, ?_, fun h => absurd h (Nat.lt_irrefl _), fun _ => rfl, ?_, ?_, ?_⟩, Or.inl ⟨rfl, ?_, rfl, rfl⟩⟩
    · rw [hl, hR]; simp
    · intro j hj
      rw [hl] at hj
      exact others s _ [] (by simp) j hj
    · exact (bytes_le s A R hR).1
    · show s.size + (ofL []).size ≤ s.size
      rw [ofL_size]; simp
    · show s.extract s.size (s.size + (ofL []).size) = ofL []
      rw [ofL_size, ext_ofL, List.length_nil, Nat.add_zero, Nat.sub_self, List.take_zero]
    · show s.size + (ofL []).size = s.size
      rw [ofL_size]; simp
  | cons u T =>
    obtain ⟨G, V, R, hm, hV, h1, h2, h3, h4⟩ := h
    have hm2 : marks s.data.toList = (A ++ G) ++ (V ++ R) := by rw [hm]; simp
    obtain ⟨v, V', rfl⟩ : ∃ v V', V = v :: V' := by cases V with | nil => exact absurd rfl hV | cons v V' => exact ⟨v, V', rfl⟩
    have hsp := spot_split s (A ++ G) v (V' ++ R) (by rw [hm2]; simp)
    have hl := spots_len s
    have hsz : t.text.size = (bytes (v :: V')).length := by rw [h3, ofL_size]
    have hx := ext_bytes s (A ++ G) (v :: V') R (by rw [hm2])
    have hb := (bytes_le s (A ++ G ++ (v :: V')) R (by rw [hm])).1
    have hlen : (bytes (A ++ G ++ (v :: V'))).length = (bytes (A ++ G)).length + (bytes (v :: V')).length := by rw [bytes_append, List.length_append]
    refine ⟨(A ++ G).length, (bytes (A ++ G)).length, ⟨by simp, ?_, ?_, fun _ => ⟨_, hsp, h1.symm, h2.symm, rfl⟩, ?_, ?_, ?_, ?_⟩, Or.inr ⟨by simp, A ++ G ++ (v :: V'), ?_, by simp, h4⟩⟩
    · rw [hl, hm2]; simp
    · rw [h1, h2]
      exact others s (A ++ G) _ hm2
    · intro he
      exfalso
      rw [hl, hm2] at he
      simp at he
    · rw [bytes_append, List.length_append]; omega
    · rw [hsz, ← hlen]; exact hb
    · rw [hsz, ← hlen, hx, h3]
    · rw [hsz, ← hlen]

theorem Stands.last {MM : List Mk} : ∀ {T : List Tok} {A : List Mk}, Stands MM A T → ∃ T0 t, T = T0 ++ [t] ∧ t.kind = 4 ∧ t.text = ofL []
  | [], _, h => absurd h id
  | [t], _, h => ⟨[], t, rfl, by rw [h.1], by rw [h.1]⟩
  | t :: u :: T, A, h => by
    obtain ⟨G, V, R, -, -, -, -, -, h4⟩ := h
    obtain ⟨T0, t', h1, h2, h3⟩ := Stands.last h4
    exact ⟨t :: T0, t', by rw [h1]; rfl, h2, h3⟩

theorem Stands.len {MM : List Mk} : ∀ {T : List Tok} {A : List Mk}, Stands MM A T → T.length + A.length ≤ MM.length + 1
  | [], _, h => absurd h id
  | [t], A, h => by
    obtain ⟨-, R, hR⟩ := h
    rw [hR]; simp; omega
  | t :: u :: T, A, h => by
    obtain ⟨G, V, R, -, hV, -, -, -, h4⟩ := h
    have h5 := Stands.len h4
    have := List.length_pos_iff.2 hV
    rw [List.length_append, List.length_append] at h5
    simp only [List.length_cons] at h5 ⊢
    omega

end Go.Proofs.YtfgnogdlkhagdaaDoor
