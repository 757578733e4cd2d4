/-
  What names.Word and the document's own Word return. Nothing that was in memory turns. Conditions: as each theorem names them.
-/
import Derived.Test.YtcfflgdklalcpaaDoorIdx
set_option linter.unusedVariables false
namespace Go.Proofs.YtcfflgdklalcpaaDoor
open Go.RowKit

set_option maxRecDepth 1000000 in
set_option maxHeartbeats 1000000 in
theorem word_any (s : ByteArray) (w : World) (hR : Tab w 0 regsT) (hO : Tab w 1 opsT) (hJ : Tab w 2 jumpsT) :
    Calls Tryd.prog 13 #[.string s] w fun e w' => e = .returned (.bool (wordF s)) ∧ Later w w' := by
  have c9 := reg_any s w hR
  have c11 := fun w' (h : Later w w') => op_any s w' (hO.later h) (hJ.later h)
  clear hR hO hJ
  unfold wordF
  generalize regF s = R at *
  generalize opF s = O at *
  obtain ⟨r, k⟩ := R
  obtain ⟨o, c, m⟩ := O
  cases h1 : (s.data.toList == symT.data.toList) with
  | true =>
    have e1 : (s.toList == [115, 121, 109]) = true := by rw [ByteArray.toList_eq]; exact h1
    clear h1 c9 c11
    go_enter Tryd.func13, Tryd.ntmps13
    go_wp2
    go_ret
    exact ⟨by simp, Later.refl _⟩
  | false =>
    have e1 : (s.toList == [115, 121, 109]) = false := by rw [ByteArray.toList_eq]; exact h1
    clear h1
    cases h2 : (s.data.toList == threadT.data.toList) with
    | true =>
      have e2 : (s.toList == [116, 104, 114, 101, 97, 100]) = true := by rw [ByteArray.toList_eq]; exact h2
      clear h2 c9 c11
      go_enter Tryd.func13, Tryd.ntmps13
      go_wp2
      go_ret
      exact ⟨by simp, Later.refl _⟩
    | false =>
      have e2 : (s.toList == [116, 104, 114, 101, 97, 100]) = false := by rw [ByteArray.toList_eq]; exact h2
      clear h2
      cases h3 : (s.data.toList == lockT.data.toList) with
      | true =>
        have e3 : (s.toList == [108, 111, 99, 107]) = true := by rw [ByteArray.toList_eq]; exact h3
        clear h3 c9 c11
        go_enter Tryd.func13, Tryd.ntmps13
        go_wp2
        go_ret
        exact ⟨by simp, Later.refl _⟩
      | false =>
        have e3 : (s.toList == [108, 111, 99, 107]) = false := by rw [ByteArray.toList_eq]; exact h3
        clear h3
        cases k <;> cases m
        all_goals go_enter Tryd.func13, Tryd.ntmps13
        all_goals go_wp2_with (first
          | (go_at_call 9; refine c9.mono ?_; rintro e w1 ⟨rfl, hl1⟩)
          | (go_at_call 11; refine (c11 _ hl1).mono ?_; rintro e w2 ⟨rfl, hl2⟩; have L2 := Later.trans hl1 hl2))
        all_goals go_ret
        all_goals exact ⟨by simp, by assumption⟩

/-- The document's own Word: the same, said by where a text stands. -/
theorem word_said (s : ByteArray) : wordF s = (!s.data.toList.isEmpty && (s.data.toList == symT.data.toList || s.data.toList == threadT.data.toList || s.data.toList == lockT.data.toList || decide (0 ≤ firstAt s regsT 0) || decide (0 < firstAt s opsT 0) || decide (0 < firstAt s jumpsT 0))) := by
  by_cases h0 : s.data.toList.isEmpty = true
  · have e : s.data.toList = [] := List.isEmpty_iff.1 h0
    have es : s = ⟨#[]⟩ := by
      apply ByteArray.ext
      exact Array.toList_eq_nil_iff.1 e
    subst es
    decide
  · have p1 := ops_pos s h0
    have p2 := jumps_pos s h0
    unfold wordF regF opF
    rw [if_neg h0]
    simp only [← p1, ← p2, Bool.eq_false_iff.2 h0]
    generalize firstAt s regsT 0 = a
    generalize firstAt s opsT 0 = b
    generalize firstAt s jumpsT 0 = c
    by_cases ha : 0 ≤ a <;> by_cases hb : 0 ≤ b <;> by_cases hc : 0 ≤ c <;> simp [ha, hb, hc]

set_option maxRecDepth 1000000 in
set_option maxHeartbeats 1000000 in
theorem refWord_any (s : ByteArray) (w : World) :
    Calls Tryd.prog 14 #[.string s] w fun e w' => e = .returned (.bool (wordF s)) ∧ Later w w' := by
  rw [word_said]
  have cR := fun g w' h => index_any regsT g 8 rfl (by omega) s w' h
  have cO := fun g w' h => index_any opsT g 15 rfl (by omega) s w' h
  have cJ := fun g w' h => index_any jumpsT g 11 rfl (by omega) s w' h
  generalize firstAt s regsT 0 = a at *
  generalize firstAt s opsT 0 = b at *
  generalize firstAt s jumpsT 0 = c at *
  cases h0 : s.data.toList.isEmpty with
  | true =>
    have h0' : s.toList.isEmpty = true := by rw [ByteArray.toList_eq]; exact h0
    have h0'' : s.toList = [] := List.isEmpty_iff.1 h0'
    clear h0 cR cO cJ
    go_enter Tryd.func14, Tryd.ntmps14
    go_wp2
    go_ret
    exact ⟨by simp, Later.refl _⟩
  | false =>
    have h0' : s.toList.isEmpty = false := by rw [ByteArray.toList_eq]; exact h0
    have h0'' : ¬ s.toList = [] := fun h => by rw [h] at h0'; cases h0'
    clear h0
    cases h1 : (s.data.toList == symT.data.toList) with
    | true =>
      have e1 : (s.toList == [115, 121, 109]) = true := by rw [ByteArray.toList_eq]; exact h1
      clear h1 cR cO cJ
      go_enter Tryd.func14, Tryd.ntmps14
      go_wp2
      go_ret
      exact ⟨by simp, Later.refl _⟩
    | false =>
      have e1 : (s.toList == [115, 121, 109]) = false := by rw [ByteArray.toList_eq]; exact h1
      clear h1
      cases h2 : (s.data.toList == threadT.data.toList) with
      | true =>
        have e2 : (s.toList == [116, 104, 114, 101, 97, 100]) = true := by rw [ByteArray.toList_eq]; exact h2
        clear h2 cR cO cJ
        go_enter Tryd.func14, Tryd.ntmps14
        go_wp2
        go_ret
        exact ⟨by simp, Later.refl _⟩
      | false =>
        have e2 : (s.toList == [116, 104, 114, 101, 97, 100]) = false := by rw [ByteArray.toList_eq]; exact h2
        clear h2
        cases h3 : (s.data.toList == lockT.data.toList) with
        | true =>
          have e3 : (s.toList == [108, 111, 99, 107]) = true := by rw [ByteArray.toList_eq]; exact h3
          clear h3 cR cO cJ
          go_enter Tryd.func14, Tryd.ntmps14
          go_wp2
          go_ret
          exact ⟨by simp, Later.refl _⟩
        | false =>
          have e3 : (s.toList == [108, 111, 99, 107]) = false := by rw [ByteArray.toList_eq]; exact h3
          clear h3
          by_cases ha : 0 ≤ a
          · clear cO cJ
            go_enter Tryd.func14, Tryd.ntmps14
            go_wp2_with (first
              | (go_at_call 24; refine (regsRow_any _).mono ?_; rintro e w1 ⟨⟨g, rfl, hT1⟩, hl1⟩)
              | (go_at_call 23; refine (cR _ _ hT1).mono ?_; rintro e w2 ⟨rfl, hl2⟩; have L2 := Later.trans hl1 hl2))
            go_ret
            exact ⟨by simp [ha], L2⟩
          · by_cases hb : 0 < b
            · clear cJ
              go_enter Tryd.func14, Tryd.ntmps14
              go_wp2_with (first
                | (go_at_call 24; refine (regsRow_any _).mono ?_; rintro e w1 ⟨⟨g, rfl, hT1⟩, hl1⟩)
                | (go_at_call 25; refine (opsRow_any _).mono ?_; rintro e w3 ⟨⟨g3, rfl, hT3⟩, hl3⟩; have L3 := Later.trans L2 hl3)
                | (go_at_call 23; apply Calls.mono; (focus (with_reducible (exact cO _ _ hT3))); rintro e w4 ⟨rfl, hl4⟩; have L4 := Later.trans L3 hl4)
                | (go_at_call 23; apply Calls.mono; (focus (with_reducible (exact cR _ _ hT1))); rintro e w2 ⟨rfl, hl2⟩; have L2 := Later.trans hl1 hl2))
              go_ret
              exact ⟨by simp [hb], L4⟩
            · by_cases hc : 0 < c
              all_goals go_enter Tryd.func14, Tryd.ntmps14
              all_goals go_wp2_with (first
                | (go_at_call 24; refine (regsRow_any _).mono ?_; rintro e w1 ⟨⟨g, rfl, hT1⟩, hl1⟩)
                | (go_at_call 25; refine (opsRow_any _).mono ?_; rintro e w3 ⟨⟨g3, rfl, hT3⟩, hl3⟩; have L3 := Later.trans L2 hl3)
                | (go_at_call 26; refine (jumpsRow_any _).mono ?_; rintro e w5 ⟨⟨g5, rfl, hT5⟩, hl5⟩; have L5 := Later.trans L4 hl5)
                | (go_at_call 23; apply Calls.mono; (focus (with_reducible (exact cJ _ _ hT5))); rintro e w6 ⟨rfl, hl6⟩; have L6 := Later.trans L5 hl6)
                | (go_at_call 23; apply Calls.mono; (focus (with_reducible (exact cO _ _ hT3))); rintro e w4 ⟨rfl, hl4⟩; have L4 := Later.trans L3 hl4)
                | (go_at_call 23; apply Calls.mono; (focus (with_reducible (exact cR _ _ hT1))); rintro e w2 ⟨rfl, hl2⟩; have L2 := Later.trans hl1 hl2))
              all_goals go_ret
              all_goals exact ⟨by simp [hc], L6⟩

end Go.Proofs.YtcfflgdklalcpaaDoor
