/-
  What package lex tells of what a text begins with: its kind and its bytes, and what is wrong with it. Nothing that was in memory turns. Conditions: the text has at most 1000000 bytes; the library's variables stand as its text lays them.
-/
import Derived.Test.YtfgnogdlkhagdaaDoorLexPiece
namespace Go.Proofs.YtfgnogdlkhagdaaDoor
open Go.RowKit
open Go.Lib (decodeL)
set_option linter.unusedVariables false

/-- A kind, as the program spells it. -/
def goKind (k : Nat) : Int := if k = 5 then -1 else (k : Int)

/-- The bytes of what a text begins with. -/
def pieceT (t : ByteArray) : ByteArray := if kindF (mk1 t.data.toList).r = 0 then ofL [] else ofL (textF (mk1 t.data.toList) (marks (t.data.toList.drop (decodeL t.data.toList).2)))

theorem head_ofL (t : ByteArray) (h : 0 < t.size) (hr : (mk1 t.data.toList).r < 128) : t.extract 0 1 = ofL (mk1 t.data.toList).b := by
  obtain ⟨b, h1, h2, h3⟩ := mark_low _ (ne_nil t h) hr
  rw [ext_head, h1]
  cases hl : t.data.toList with
  | nil => exact absurd hl (ne_nil t h)
  | cons c l =>
    rw [hl] at h3
    simp only [List.head?_cons, Option.some.injEq] at h3
    subst h3
    rfl

theorem text_short (x : Mk) (R : List Mk) (h : moreF x.r R = 0) : textF x R = x.b := by
  unfold textF; rw [h]; simp [bytes]

theorem line1_text (t : ByteArray) (h : 0 < t.size) (hr : (mk1 t.data.toList).r = 59) : line1 t = ofL (textF (mk1 t.data.toList) (marks (t.data.toList.drop (decodeL t.data.toList).2))) := by
  unfold line1 textF moreF
  rw [bytes10, marks_cons _ (ne_nil t h), hr, if_pos rfl, take_takeWhile, List.takeWhile_cons, hr, if_pos (by decide), bytes_cons]

theorem run_text (t : ByteArray) (hk : kindF (mk1 t.data.toList).r = 1 ∨ kindF (mk1 t.data.toList).r = 2) (hr : (mk1 t.data.toList).r ≠ 59) : runT t = ofL (textF (mk1 t.data.toList) (marks (t.data.toList.drop (decodeL t.data.toList).2))) := by
  unfold runT textF moreF
  rw [if_neg hr, if_pos hk, take_takeWhile]

set_option maxRecDepth 1000000 in
set_option maxHeartbeats 1000000 in
theorem piece_any (t : ByteArray) (h0 : 0 < t.size) (hsz : t.size ≤ 1000000) (w : World) (g : Good w) :
    Calls Tryd.prog 32 #[.int .i32 ((mk1 t.data.toList).r : Nat), .string t] w fun e w' => e = .returned (.tuple #[.int .i64 (goKind (kindF (mk1 t.data.toList).r)), .string (pieceT t)]) ∧ Later w w' := by
  have hhead := head_ofL t h0
  have hline := line1_text t h0
  have hrun := run_text t
  have hshort := text_short (mk1 t.data.toList) (marks (t.data.toList.drop (decodeL t.data.toList).2))
  have hp : pieceT t = if kindF (mk1 t.data.toList).r = 0 then ofL [] else ofL (textF (mk1 t.data.toList) (marks (t.data.toList.drop (decodeL t.data.toList).2))) := rfl
  have hmore : moreF (mk1 t.data.toList).r (marks (t.data.toList.drop (decodeL t.data.toList).2)) = if (mk1 t.data.toList).r = 59 then _ else if kindF (mk1 t.data.toList).r = 1 ∨ kindF (mk1 t.data.toList).r = 2 then _ else 0 := rfl
  generalize (mk1 t.data.toList).b = xb at *
  generalize marks (t.data.toList.drop (decodeL t.data.toList).2) = R at *
  generalize textF (mk1 t.data.toList) R = X at *
  generalize (mk1 t.data.toList).r = r at *
  have hkind : kindF r = if blankF r = true then 5 else if r = 59 then 5 else if r = 10 then 4 else if r = 44 ∨ r = 91 ∨ r = 93 ∨ r = 58 then 3 else if letterF r = true then 1 else if digitF r = true ∨ r = 45 then 2 else 0 := rfl
  have cb := fun w' => blank_any (r : Nat) w'
  have cl := fun w' => letter_any (r : Nat) w'
  have cd := fun w' => digit_any (r : Nat) w'
  have cr := fun w' => remark_any t hsz w'
  have cu : ∀ w', Good w' → _ := fun w' (g' : Good w') => run_any t h0 hsz w' g'
  have go : ∀ {w'}, Later w w' → Good w' := fun h => g.later h
  have hbl : blankF r = true → r = 32 ∨ r = 9 := fun h => by simp only [blankF, decide_eq_true_eq] at h; omega
  have hle : letterF r = true → r ≠ 59 ∧ r ≠ 10 := fun h => by simp only [letterF, decide_eq_true_eq] at h; omega
  have hdi : digitF r = true → r ≠ 59 ∧ r ≠ 10 := fun h => by simp only [digitF, decide_eq_true_eq] at h; omega
  have q1 : (1 : Int) ≤ (t.size : Int) := by omega
  generalize hB : blankF (r : Nat) = bl at *
  generalize hL : letterF (r : Nat) = le at *
  generalize hD : digitF (r : Nat) = di at *
  generalize kindF r = kd at *
  generalize moreF r R = mo at *
  clear hB hL hD
  cases bl with
  | true =>
    rw [if_pos rfl] at hkind
    subst hkind
    have hr := hbl rfl
    have hp2 : pieceT t = t.extract 0 1 := by
      rw [hp, if_neg (by decide), hshort (by rw [hmore, if_neg (by omega), if_neg (by decide)]), hhead (by omega)]
    rw [hp2]
    clear hp2 hp hmore hshort hrun hline hhead hbl hle hdi
    go_enter Tryd.func32, Tryd.ntmps32
    go_wp2_with (go_at_call 74; refine (cb _).mono ?_; rintro e w2 ⟨rfl, hl2⟩)
    go_quiet (fail)
    go_wp2
    go_returns
    exact ⟨rfl, Later.drewN hl2 _⟩
  | false =>
    rw [if_neg (by decide)] at hkind
    by_cases h59 : r = 59
    · subst h59
      rw [if_pos rfl] at hkind
      subst hkind
      have hp2 : pieceT t = line1 t := by rw [hp, if_neg (by decide), hline rfl]
      rw [hp2]
      clear hp2 hp hmore hshort hrun hline hhead hbl hle hdi
      go_enter Tryd.func32, Tryd.ntmps32
      go_wp2_with (first
        | (go_at_call 74; refine (cb _).mono ?_; rintro e w2 ⟨rfl, hl2⟩)
        | (go_at_call 75; refine (cr _).mono ?_; rintro e w3 ⟨rfl, hl3⟩; have L3 := Later.trans hl2 hl3))
      go_returns
      exact ⟨rfl, L3⟩
    · rw [if_neg h59] at hkind hmore
      have d59 : ((r : Int) == 59) = false := by simp; omega
      by_cases h10 : r = 10
      · subst h10
        rw [if_pos rfl] at hkind
        subst hkind
        have hp2 : pieceT t = t.extract 0 1 := by rw [hp, if_neg (by decide), hshort (by rw [hmore, if_neg (by decide)]), hhead (by omega)]
        rw [hp2]
        clear hp2 hp hmore hshort hrun hline hhead hbl hle hdi
        go_enter Tryd.func32, Tryd.ntmps32
        go_wp2_with (go_at_call 74; refine (cb _).mono ?_; rintro e w2 ⟨rfl, hl2⟩)
        go_quiet (fail)
        go_wp2
        go_returns
        exact ⟨rfl, Later.drewN hl2 _⟩
      · rw [if_neg h10] at hkind
        have d10 : ((r : Int) == 10) = false := by simp; omega
        by_cases hsg : r = 44 ∨ r = 91 ∨ r = 93 ∨ r = 58
        · rw [if_pos hsg] at hkind
          subst hkind
          have hp2 : pieceT t = t.extract 0 1 := by rw [hp, if_neg (by decide), hshort (by rw [hmore, if_neg (by decide)]), hhead (by omega)]
          rw [hp2]
          clear hp2 hp hmore hshort hrun hline hhead hbl hle hdi
          rcases hsg with rfl | rfl | rfl | rfl
          all_goals go_enter Tryd.func32, Tryd.ntmps32
          all_goals go_wp2_with (go_at_call 74; refine (cb _).mono ?_; rintro e w2 ⟨rfl, hl2⟩)
          all_goals go_quiet (fail)
          all_goals go_wp2
          all_goals go_returns
          all_goals exact ⟨rfl, Later.drewN hl2 _⟩
        · rw [if_neg hsg] at hkind
          have d44 : ((r : Int) == 44) = false := by simp; omega
          have d91 : ((r : Int) == 91) = false := by simp; omega
          have d93 : ((r : Int) == 93) = false := by simp; omega
          have d58 : ((r : Int) == 58) = false := by simp; omega
          cases le with
          | true =>
            rw [if_pos rfl] at hkind
            subst hkind
            have hp2 : pieceT t = runT t := by rw [hp, if_neg (by decide), hrun (Or.inl rfl) h59]
            rw [hp2]
            clear hp2 hp hmore hshort hrun hline hhead hbl hle hdi
            go_enter Tryd.func32, Tryd.ntmps32
            go_wp2_with (first
              | (go_at_call 74; refine (cb _).mono ?_; rintro e w2 ⟨rfl, hl2⟩)
              | (go_at_call 76; refine (cl _).mono ?_; rintro e w3 ⟨rfl, hl3⟩; have L3 := Later.trans hl2 hl3)
              | (go_at_call 77; refine (cu _ (go L3)).mono ?_; rintro e w4 ⟨rfl, hl4⟩; have L4 := Later.trans L3 hl4))
            go_returns
            exact ⟨rfl, L4⟩
          | false =>
            rw [if_neg (by decide)] at hkind
            cases di with
            | true =>
              rw [if_pos (Or.inl rfl)] at hkind
              subst hkind
              have hp2 : pieceT t = runT t := by rw [hp, if_neg (by decide), hrun (Or.inr rfl) h59]
              rw [hp2]
              clear hp2 hp hmore hshort hrun hline hhead hbl hle hdi
              go_enter Tryd.func32, Tryd.ntmps32
              go_wp2_with (first
                | (go_at_call 74; refine (cb _).mono ?_; rintro e w2 ⟨rfl, hl2⟩)
                | (go_at_call 76; refine (cl _).mono ?_; rintro e w3 ⟨rfl, hl3⟩; have L3 := Later.trans hl2 hl3)
                | (go_at_call 78; refine (cd _).mono ?_; rintro e w5 ⟨rfl, hl5⟩; have L5 := Later.trans L3 hl5)
                | (go_at_call 77; refine (cu _ (go L5)).mono ?_; rintro e w4 ⟨rfl, hl4⟩; have L4 := Later.trans L5 hl4))
              go_returns
              exact ⟨rfl, L4⟩
            | false =>
              by_cases h45 : r = 45
              · subst h45
                rw [if_pos (Or.inr rfl)] at hkind
                subst hkind
                have hp2 : pieceT t = runT t := by rw [hp, if_neg (by decide), hrun (Or.inr rfl) h59]
                rw [hp2]
                clear hp2 hp hmore hshort hrun hline hhead hbl hle hdi
                go_enter Tryd.func32, Tryd.ntmps32
                go_wp2_with (first
                  | (go_at_call 74; refine (cb _).mono ?_; rintro e w2 ⟨rfl, hl2⟩)
                  | (go_at_call 76; refine (cl _).mono ?_; rintro e w3 ⟨rfl, hl3⟩; have L3 := Later.trans hl2 hl3)
                  | (go_at_call 78; refine (cd _).mono ?_; rintro e w5 ⟨rfl, hl5⟩; have L5 := Later.trans L3 hl5)
                  | (go_at_call 77; refine (cu _ (go L5)).mono ?_; rintro e w4 ⟨rfl, hl4⟩; have L4 := Later.trans L5 hl4))
                go_returns
                exact ⟨rfl, L4⟩
              · have d45 : ((r : Int) == 45) = false := by simp; omega
                rw [if_neg (by simp [h45])] at hkind
                subst hkind
                have hp2 : pieceT t = ofL [] := by rw [hp, if_pos rfl]
                rw [hp2]
                clear hp2 hp hmore hshort hrun hline hhead hbl hle hdi
                go_enter Tryd.func32, Tryd.ntmps32
                go_wp2_with (first
                  | (go_at_call 74; refine (cb _).mono ?_; rintro e w2 ⟨rfl, hl2⟩)
                  | (go_at_call 76; refine (cl _).mono ?_; rintro e w3 ⟨rfl, hl3⟩; have L3 := Later.trans hl2 hl3)
                  | (go_at_call 78; refine (cd _).mono ?_; rintro e w5 ⟨rfl, hl5⟩; have L5 := Later.trans L3 hl5))
                go_returns
                exact ⟨rfl, L5⟩

/-! ### What is wrong -/

theorem count_from (s : ByteArray) : ∀ (f pos : Nat), s.size ≤ pos + f → Lib.runeCountFrom s f pos = (marks (s.data.toList.drop pos)).length
  | 0, pos, hf => by
    rw [List.drop_of_length_le (by rw [size_len]; omega)]
    rfl
  | f + 1, pos, hf => by
    by_cases h : pos < s.size
    · have hd := decode_pos s pos h
      unfold Lib.runeCountFrom
      rw [if_pos h, count_from s f _ (by omega), marks_at s pos h, List.length_cons, Nat.add_comm]
    · unfold Lib.runeCountFrom
      rw [if_neg h, List.drop_of_length_le (by rw [size_len]; omega)]
      rfl

theorem count_marks (s : ByteArray) : Lib.runeCount s = (marks s.data.toList).length := by
  have := count_from s s.size 0 (by omega)
  rw [List.drop_zero] at this
  exact this

theorem Later.iter (w : World) (s : ByteArray) (p : Nat) : Later w (w.iter s p) := Later.alloc (Later.refl w) _

/-- What is wrong with what was taken, by its own bytes. -/
def wrongC (k : Nat) (t : ByteArray) : Nat :=
  if k = 0 then 1 else if k = 1 then (if 16 < (marks t.data.toList).length then 3 else 0) else if k = 2 then (if okOf t.data.toList = true then 0 else 2) else 0

set_option maxRecDepth 1000000 in
set_option maxHeartbeats 1000000 in
theorem wrong_any (k : Nat) (hk : k ≤ 5) (t : ByteArray) (hsz : t.size ≤ 1000000) (w : World) (g : Good w) :
    Calls Tryd.prog 33 #[.int .i64 (goKind k), .string t] w fun e w' => e = .returned (.int .i64 (wrongC k t : Nat)) ∧ Later w w' := by
  have cc := fun w' => Tryd.utf8_RuneCountInString t w' (by omega)
  rw [count_marks] at cc
  have cr : ∀ w', Good w' → _ := fun w' (g' : Good w') => read_any t (by omega) w' g'
  have hw : wrongC k t = if k = 0 then 1 else if k = 1 then (if 16 < (marks t.data.toList).length then 3 else 0) else if k = 2 then (if okOf t.data.toList = true then 0 else 2) else 0 := rfl
  generalize (marks t.data.toList).length = n at *
  generalize valOf t.data.toList = v at *
  generalize okOf t.data.toList = ok at *
  generalize wrongC k t = z at *
  subst hw
  obtain rfl | rfl | rfl | rfl | rfl | rfl : k = 0 ∨ k = 1 ∨ k = 2 ∨ k = 3 ∨ k = 4 ∨ k = 5 := by omega
  · show Calls Tryd.prog 33 #[.int .i64 0, .string t] w fun e w' => e = .returned (.int .i64 1) ∧ Later w w'
    go_enter Tryd.func33, Tryd.ntmps33
    go_wp2
    go_ret
    exact ⟨rfl, Later.refl _⟩
  · by_cases hn : 16 < n
    · rw [if_neg (by decide), if_pos rfl, if_pos hn]
      show Calls Tryd.prog 33 #[.int .i64 1, .string t] w fun e w' => e = .returned (.int .i64 3) ∧ Later w w'
      have hn' : (16 : Int) < (n : Int) := by omega
      go_enter Tryd.func33, Tryd.ntmps33
      go_wp2_with (go_at_call 79; refine (cc _).mono ?_; rintro e w2 ⟨rfl, p, rfl⟩)
      go_ret
      exact ⟨rfl, Later.iter _ _ _⟩
    · rw [if_neg (by decide), if_pos rfl, if_neg hn]
      show Calls Tryd.prog 33 #[.int .i64 1, .string t] w fun e w' => e = .returned (.int .i64 0) ∧ Later w w'
      have hn' : ¬ (16 : Int) < (n : Int) := by omega
      go_enter Tryd.func33, Tryd.ntmps33
      go_wp2_with (go_at_call 79; refine (cc _).mono ?_; rintro e w2 ⟨rfl, p, rfl⟩)
      go_ret
      exact ⟨rfl, Later.iter _ _ _⟩
  · cases ok with
    | true =>
      show Calls Tryd.prog 33 #[.int .i64 2, .string t] w fun e w' => e = .returned (.int .i64 0) ∧ Later w w'
      go_enter Tryd.func33, Tryd.ntmps33
      go_wp2_with (go_at_call 80; refine (cr _ g).mono ?_; rintro e w2 ⟨rfl, hl2⟩)
      go_ret
      exact ⟨rfl, hl2⟩
    | false =>
      show Calls Tryd.prog 33 #[.int .i64 2, .string t] w fun e w' => e = .returned (.int .i64 2) ∧ Later w w'
      go_enter Tryd.func33, Tryd.ntmps33
      go_wp2_with (go_at_call 80; refine (cr _ g).mono ?_; rintro e w2 ⟨rfl, hl2⟩)
      go_ret
      exact ⟨rfl, hl2⟩
  · show Calls Tryd.prog 33 #[.int .i64 3, .string t] w fun e w' => e = .returned (.int .i64 0) ∧ Later w w'
    go_enter Tryd.func33, Tryd.ntmps33
    go_wp2
    go_ret
    exact ⟨rfl, Later.refl _⟩
  · show Calls Tryd.prog 33 #[.int .i64 4, .string t] w fun e w' => e = .returned (.int .i64 0) ∧ Later w w'
    go_enter Tryd.func33, Tryd.ntmps33
    go_wp2
    go_ret
    exact ⟨rfl, Later.refl _⟩
  · show Calls Tryd.prog 33 #[.int .i64 (-1), .string t] w fun e w' => e = .returned (.int .i64 0) ∧ Later w w'
    go_enter Tryd.func33, Tryd.ntmps33
    go_wp2
    go_ret
    exact ⟨rfl, Later.refl _⟩

end Go.Proofs.YtfgnogdlkhagdaaDoor
