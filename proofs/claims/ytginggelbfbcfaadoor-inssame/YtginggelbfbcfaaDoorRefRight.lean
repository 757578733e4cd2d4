/-
  What the document's own Right returns, and the first call whose answer the document fixes. Nothing that was in memory turns. Conditions: as each theorem names them.
-/
import Derived.Test.YtginggelbfbcfaaDoorRunes
import Derived.Test.YtginggelbfbcfaaDoorTab
import Derived.Test.YtginggelbfbcfaaDoorRefSpots
set_option linter.unusedVariables false
namespace Go.Proofs.YtginggelbfbcfaaDoor
open Go.RowKit

theorem refLetter_later (r : Int) (w : World) : Calls Tryd.prog 57 #[.int .i32 r] w fun e w' => e = .returned (.bool (letterF r)) ∧ Later w w' :=
  (refLetter_any r w).mono fun e w' h => ⟨h.1, by rw [h.2]; exact Later.refl _⟩
theorem refDigit_later (r : Int) (w : World) : Calls Tryd.prog 58 #[.int .i32 r] w fun e w' => e = .returned (.bool (digitF r)) ∧ Later w w' :=
  (refDigit_any r w).mono fun e w' h => ⟨h.1, by rw [h.2]; exact Later.refl _⟩

theorem refGo_drop (L : List Sp) (i : Nat) (x : Sp) (h : L[i]? = some x) : refGo (L.drop i) i = if x.bad = true then false else if standF x.rune ((i : Int) == 0) = true then refGo (L.drop (i + 1)) (i + 1) else false := by
  obtain ⟨hi, hx⟩ := List.getElem?_eq_some_iff.1 h
  rw [List.drop_eq_getElem_cons hi, hx]
  rfl

theorem refRight_split (s : ByteArray) : rightF s = (decide (0 < (spots s).length) && decide ((spots s).length ≤ 16) && !wordF s && refGo (spots s) 0) := by
  rw [refGo_spots, ← rb_length]
  simp only [rightF, fewRunes]
  generalize decide (0 < (rb s).length) = a
  generalize decide ((rb s).length ≤ 16) = b
  generalize standAll (rb s) true = c
  generalize noneBad (rb s) = d
  generalize wordF s = e
  cases a <;> cases b <;> cases c <;> cases d <;> cases e <;> rfl

set_option maxRecDepth 1000000 in
set_option maxHeartbeats 1000000 in
theorem refRight_any (s : ByteArray) (hsz : s.size ≤ 1000000) (w : World) :
    Calls Tryd.prog 43 #[.string s] w fun e w' => e = .returned (.bool (rightF s)) ∧ Later w w' := by
  rw [refRight_split]
  have c29 := fun w' => refSpots_any s hsz w'
  have c14 := fun w' => refWord_any s w'
  have hn : (spots s).length ≤ 1000000 := by have := (place_all s).2.2; omega
  generalize spots s = L at *
  generalize wordF s = wd at *
  by_cases h1 : (L.length : Int) < 1
  · have e : decide (0 < L.length) = false := decide_eq_false (by omega)
    rw [e]
    go_enter Tryd.func43, Tryd.ntmps43
    go_wp2_with (go_at_call 55; refine (c29 _).mono ?_; rintro e w1 ⟨⟨a, cap, rfl, hrow⟩, hl1⟩; clear hrow)
    go_ret
    exact ⟨by simp, hl1⟩
  · have e1 : decide (0 < L.length) = true := decide_eq_true (by omega)
    rw [e1]
    by_cases h2 : (16 : Int) < (L.length : Int)
    · have e2 : decide (L.length ≤ 16) = false := decide_eq_false (by omega)
      rw [e2]
      go_enter Tryd.func43, Tryd.ntmps43
      go_wp2_with (go_at_call 55; refine (c29 _).mono ?_; rintro e w1 ⟨⟨a, cap, rfl, hrow⟩, hl1⟩; clear hrow)
      go_ret
      exact ⟨by simp, hl1⟩
    · have e2 : decide (L.length ≤ 16) = true := decide_eq_true (by omega)
      rw [e2]
      cases wd with
      | true =>
        go_enter Tryd.func43, Tryd.ntmps43
        go_wp2_with (first
          | (go_at_call 55; refine (c29 _).mono ?_; rintro e w1 ⟨⟨a, cap, rfl, hrow⟩, hl1⟩; clear hrow)
          | (go_at_call 56; refine (c14 _).mono ?_; rintro e w2 ⟨rfl, hl2⟩; have L2 := Later.trans hl1 hl2))
        go_ret
        exact ⟨by simp, L2⟩
      | false =>
        rw [show (true && true && !false && refGo L 0) = refGo L 0 from rfl]
        clear e1 e2 hsz
        go_enter Tryd.func43, Tryd.ntmps43
        go_wp2_with (first
          | (go_at_call 55; refine (c29 _).mono ?_; rintro e w1 ⟨⟨a, cap, rfl, hrow⟩, hl1⟩)
          | (go_at_call 56; refine (c14 _).mono ?_; rintro e w2 ⟨rfl, hl2⟩; have L2 := Later.trans hl1 hl2; have hrow2 := hrow.later hl2; clear hrow))
        go_loopw [4] (fun vi wr => ∃ (i : Nat), vi = .int .i64 (i : Nat) ∧ i ≤ L.length ∧ Later w wr ∧ Row wr a L ∧ Hid (refGo (L.drop i) i = refGo L 0)) (fun vi _ => L.length - (intOf vi).toNat)
        case atStart => exact ⟨0, rfl, by omega, L2, hrow2, rfl⟩
        case round =>
          clear hrow2 hl1 hl2 L2 c29 c14
          obtain ⟨i, rfl, hi, hlw, hrow, HS⟩ := hrel
          by_cases hlt : i < L.length
          · obtain ⟨x, hx⟩ : ∃ x, L[i]? = some x := ⟨_, List.getElem?_eq_getElem hlt⟩
            have hs := HS.out
            rw [refGo_drop L i x hx] at hs
            obtain ⟨gg, rfl, p0, -, -, -, -, p5⟩ := hrow.get hx
            have HR : Hid (Row wr (some ⟨gg, 0, none⟩) L) := hrow
            clear hrow HS hx
            generalize x.rune = r at *
            generalize x.bad = bd at *
            have hi1 : (i : Int) < (L.length : Int) := by omega
            cases bd with
            | true =>
              have HE : Hid (refGo L 0 = false) := hs.symm
              clear hs
              go_wp2
              go_ret
              exact ⟨by simp only [HE.out]; rfl, hlw⟩
            | false =>
              rw [if_neg (by decide)] at hs
              have c30 := fun w' => refLetter_later (r : Nat) w'
              have c31 := fun w' => refDigit_later (r : Nat) w'
              unfold standF at hs
              generalize letterF (r : Nat) = le at *
              generalize digitF (r : Nat) = di at *
              cases le with
              | true =>
                have HS3 : Hid (refGo (L.drop (i + 1)) (i + 1) = refGo L 0) := by
                  show _ = _; simpa using hs
                clear hs
                go_wp2_with (first
                  | (go_at_call 57; refine (c30 _).mono ?_; rintro e w2 ⟨rfl, hl2⟩; have q0 := cell_later p0 hl2; have q5 := cell_later p5 hl2; have HR2 : Hid (Row w2 (some ⟨gg, 0, none⟩) L) := HR.out.later hl2; have L2 := Later.trans hlw hl2))
                go_roundw
                case rel => exact ⟨i + 1, by go_num, by omega, L2, HR2.out, HS3⟩
                case measure => simp [intOf]; omega
              | false =>
                by_cases h0 : i = 0
                · subst h0
                  have HE : Hid (refGo L 0 = false) := by
                    show _ = _
                    rw [← hs]; simp
                  clear hs
                  go_wp2_with (first
                    | (go_at_call 57; refine (c30 _).mono ?_; rintro e w2 ⟨rfl, hl2⟩; have q0 := cell_later p0 hl2; have q5 := cell_later p5 hl2; have L2 := Later.trans hlw hl2))
                  go_ret
                  exact ⟨by simp only [HE.out]; rfl, L2⟩
                · have h0' : ((i : Int) == 0) = false := by simp; omega
                  rw [h0'] at hs
                  cases di with
                  | true =>
                    have HS3 : Hid (refGo (L.drop (i + 1)) (i + 1) = refGo L 0) := by
                      show _ = _; simpa using hs
                    clear hs
                    go_wp2_with (first
                      | (go_at_call 57; refine (c30 _).mono ?_; rintro e w2 ⟨rfl, hl2⟩; have q0 := cell_later p0 hl2; have q5 := cell_later p5 hl2; have HR2 : Hid (Row w2 (some ⟨gg, 0, none⟩) L) := HR.out.later hl2; have L2 := Later.trans hlw hl2)
                      | (go_at_call 58; refine (c31 _).mono ?_; rintro e w3 ⟨rfl, hl3⟩; have HR3 : Hid (Row w3 (some ⟨gg, 0, none⟩) L) := HR2.out.later hl3; have L3 := Later.trans L2 hl3))
                    go_roundw
                    case rel => exact ⟨i + 1, by go_num, by omega, L3, HR3.out, HS3⟩
                    case measure => simp [intOf]; omega
                  | false =>
                    have HE : Hid (refGo L 0 = false) := by
                      show _ = _
                      rw [← hs]; simp
                    clear hs
                    go_wp2_with (first
                      | (go_at_call 57; refine (c30 _).mono ?_; rintro e w2 ⟨rfl, hl2⟩; have q0 := cell_later p0 hl2; have q5 := cell_later p5 hl2; have L2 := Later.trans hlw hl2)
                      | (go_at_call 58; refine (c31 _).mono ?_; rintro e w3 ⟨rfl, hl3⟩; have L3 := Later.trans L2 hl3))
                    go_ret
                    exact ⟨by simp only [HE.out]; rfl, L3⟩
          · have HE : Hid (refGo L 0 = true) := by
              show _ = _
              rw [← HS.out, List.drop_of_length_le (by omega)]
              rfl
            clear HS
            go_wp2
            go_ret
            exact ⟨by simp only [HE.out]; rfl, hlw⟩

end Go.Proofs.YtginggelbfbcfaaDoor
