/-
  Tables of texts in memory; what the document's own functions over its words return. Nothing that was in memory turns. Conditions: as each theorem names them.
-/
import Derived.Test.YtginggelbfbcfaaDoorLater
import Derived.Test.YtginggelbfbcfaaDoorTables
import Derived.Test.YtginggelbfbcfaaDoorEnd
namespace Go.Proofs.YtginggelbfbcfaaDoor
open Go.RowKit
set_option linter.unusedVariables false

theorem tab_new (w : World) (T : List ByteArray) (t : TypeId) : Tab (w.alloc (.cells (T.map Value.string).toArray t)) w.heap.size T := by
  intro i x hx
  simp only [World.cell?, at_new]
  simp [hx]

set_option maxRecDepth 1000000 in
set_option maxHeartbeats 1000000 in
theorem regsRow_any (w : World) :
    Calls Tryd.prog 67 #[] w fun e w' => (∃ g, e = .returned (.slice (some ⟨g, 0, none⟩) 8 8) ∧ Tab w' g regsT) ∧ Later w w' := by
  go_enter Tryd.func67, Tryd.ntmps67
  go_wp2
  go_ret
  exact ⟨⟨_, rfl, tab_new w regsT _⟩, Later.alloc (Later.refl _) _⟩

set_option maxRecDepth 1000000 in
set_option maxHeartbeats 1000000 in
theorem opsRow_any (w : World) :
    Calls Tryd.prog 68 #[] w fun e w' => (∃ g, e = .returned (.slice (some ⟨g, 0, none⟩) 15 15) ∧ Tab w' g opsT) ∧ Later w w' := by
  go_enter Tryd.func68, Tryd.ntmps68
  go_wp2
  go_ret
  exact ⟨⟨_, rfl, tab_new w opsT _⟩, Later.alloc (Later.refl _) _⟩

set_option maxRecDepth 1000000 in
set_option maxHeartbeats 1000000 in
theorem jumpsRow_any (w : World) :
    Calls Tryd.prog 69 #[] w fun e w' => (∃ g, e = .returned (.slice (some ⟨g, 0, none⟩) 11 11) ∧ Tab w' g jumpsT) ∧ Later w w' := by
  go_enter Tryd.func69, Tryd.ntmps69
  go_wp2
  go_ret
  exact ⟨⟨_, rfl, tab_new w jumpsT _⟩, Later.alloc (Later.refl _) _⟩

set_option maxRecDepth 1000000 in
set_option maxHeartbeats 1000000 in
theorem index_any (T : List ByteArray) (g n : Nat) (hn : T.length = n) (hn' : n ≤ 100) (s : ByteArray) (w : World) (hT : Tab w g T) :
    Calls Tryd.prog 66 #[.slice (some ⟨g, 0, none⟩) n n, .string s] w fun e w' => e = .returned (.int .i64 (firstAt s T 0)) ∧ Later w w' := by
  have HT : Hid (Tab w g T) := hT
  have HN : Hid (T.length = n) := hn
  clear hT hn
  go_enter Tryd.func66, Tryd.ntmps66
  go_wp2
  go_loopw [5] (fun vi wr => ∃ (i : Nat), vi = .int .i64 (i : Nat) ∧ i ≤ n ∧ wr = w ∧ firstAt s (T.drop i) i = firstAt s T 0) (fun vi _ => n - (intOf vi).toNat)
  case atStart => exact ⟨0, rfl, by omega, rfl, rfl⟩
  case round =>
    obtain ⟨i, rfl, hi, rfl, hF⟩ := hrel
    by_cases h8 : i < n
    · obtain ⟨t, ht⟩ : ∃ t, T[i]? = some t := ⟨_, List.getElem?_eq_getElem (by rw [HN.out]; exact h8)⟩
      have hc := HT.out i t ht
      rw [first_drop s T i t ht] at hF
      clear ht
      by_cases he : (t.data.toList == s.data.toList) = true
      · have he' := same_true he
        rw [if_pos he] at hF
        have HE : Hid (firstAt s T 0 = (i : Int)) := hF.symm
        clear hF he
        go_wp2
        go_ret
        exact ⟨by simp only [HE.out]; rfl, Later.refl _⟩
      · have he' := same_false he
        rw [if_neg he] at hF
        have HG : Hid (firstAt s (T.drop (i + 1)) (i + 1) = firstAt s T 0) := hF
        clear hF he
        go_wp2
        go_roundw
        case rel => exact ⟨i + 1, by go_num, by omega, trivial, HG.out⟩
        case measure => simp [intOf]; omega
    · have HE : Hid (firstAt s T 0 = -1) := by
        show _ = _
        rw [← hF, List.drop_of_length_le (by rw [HN.out]; omega)]
        rfl
      clear hF
      go_wp2
      go_ret
      exact ⟨by simp only [HE.out]; rfl, Later.refl _⟩

theorem optext_jump (cond : Int) (h : ¬ (1 ≤ cond ∧ cond ≤ 10)) : textAt jumpsT cond = ⟨#[]⟩ := by
  unfold textAt
  split
  · rename_i h'
    have : (jumpsT.length : Int) = 11 := rfl
    obtain rfl : cond = 0 := by omega
    rfl
  · rfl

theorem optext_op (op : Int) (h : ¬ (1 ≤ op ∧ op ≤ 14)) : textAt opsT op = ⟨#[]⟩ := by
  unfold textAt
  split
  · rename_i h'
    have : (opsT.length : Int) = 15 := rfl
    obtain rfl : op = 0 := by omega
    rfl
  · rfl

theorem word_said (s : ByteArray) : wordF s = (!s.data.toList.isEmpty && (s.data.toList == symT.data.toList || s.data.toList == threadT.data.toList || s.data.toList == lockT.data.toList || decide (0 ≤ firstAt s regsT 0) || decide (0 < firstAt s opsT 0) || decide (0 < firstAt s jumpsT 0))) := by
  by_cases h0 : s.data.toList.isEmpty = true
  · have e : s.data.toList = [] := List.isEmpty_iff.1 h0
    have es : s = ⟨#[]⟩ := by
      apply ByteArray.ext
      exact Array.toList_eq_nil_iff.1 e
    subst es
    decide
  · have p1 := ops_pos s h0
    have p2 := jumps_pos s h0
    unfold wordF regF opF
    rw [if_neg h0]
    simp only [← p1, ← p2, Bool.eq_false_iff.2 h0]
    generalize firstAt s regsT 0 = a
    generalize firstAt s opsT 0 = b
    generalize firstAt s jumpsT 0 = c
    by_cases ha : 0 ≤ a <;> by_cases hb : 0 ≤ b <;> by_cases hc : 0 ≤ c <;> simp [ha, hb, hc]

set_option maxRecDepth 1000000 in
set_option maxHeartbeats 1000000 in
theorem refWord_any (s : ByteArray) (w : World) :
    Calls Tryd.prog 56 #[.string s] w fun e w' => e = .returned (.bool (wordF s)) ∧ Later w w' := by
  rw [word_said]
  have cR := fun g w' h => index_any regsT g 8 rfl (by omega) s w' h
  have cO := fun g w' h => index_any opsT g 15 rfl (by omega) s w' h
  have cJ := fun g w' h => index_any jumpsT g 11 rfl (by omega) s w' h
  generalize firstAt s regsT 0 = a at *
  generalize firstAt s opsT 0 = b at *
  generalize firstAt s jumpsT 0 = c at *
  cases h0 : s.data.toList.isEmpty with
  | true =>
    have h0' : s.toList.isEmpty = true := by rw [ByteArray.toList_eq]; exact h0
    have h0'' : s.toList = [] := List.isEmpty_iff.1 h0'
    clear h0 cR cO cJ
    go_enter Tryd.func56, Tryd.ntmps56
    go_wp2
    go_ret
    exact ⟨by simp, Later.refl _⟩
  | false =>
    have h0' : s.toList.isEmpty = false := by rw [ByteArray.toList_eq]; exact h0
    have h0'' : ¬ s.toList = [] := fun h => by rw [h] at h0'; cases h0'
    clear h0
    cases h1 : (s.data.toList == symT.data.toList) with
    | true =>
      have e1 : (s.toList == [115, 121, 109]) = true := by rw [ByteArray.toList_eq]; exact h1
      clear h1 cR cO cJ
      go_enter Tryd.func56, Tryd.ntmps56
      go_wp2
      go_ret
      exact ⟨by simp, Later.refl _⟩
    | false =>
      have e1 : (s.toList == [115, 121, 109]) = false := by rw [ByteArray.toList_eq]; exact h1
      clear h1
      cases h2 : (s.data.toList == threadT.data.toList) with
      | true =>
        have e2 : (s.toList == [116, 104, 114, 101, 97, 100]) = true := by rw [ByteArray.toList_eq]; exact h2
        clear h2 cR cO cJ
        go_enter Tryd.func56, Tryd.ntmps56
        go_wp2
        go_ret
        exact ⟨by simp, Later.refl _⟩
      | false =>
        have e2 : (s.toList == [116, 104, 114, 101, 97, 100]) = false := by rw [ByteArray.toList_eq]; exact h2
        clear h2
        cases h3 : (s.data.toList == lockT.data.toList) with
        | true =>
          have e3 : (s.toList == [108, 111, 99, 107]) = true := by rw [ByteArray.toList_eq]; exact h3
          clear h3 cR cO cJ
          go_enter Tryd.func56, Tryd.ntmps56
          go_wp2
          go_ret
          exact ⟨by simp, Later.refl _⟩
        | false =>
          have e3 : (s.toList == [108, 111, 99, 107]) = false := by rw [ByteArray.toList_eq]; exact h3
          clear h3
          by_cases ha : 0 ≤ a
          · clear cO cJ
            go_enter Tryd.func56, Tryd.ntmps56
            go_wp2_with (first
              | (go_at_call 67; refine (regsRow_any _).mono ?_; rintro e w1 ⟨⟨g, rfl, hT1⟩, hl1⟩)
              | (go_at_call 66; refine (cR _ _ hT1).mono ?_; rintro e w2 ⟨rfl, hl2⟩; have L2 := Later.trans hl1 hl2))
            go_ret
            exact ⟨by simp [ha], L2⟩
          · by_cases hb : 0 < b
            · clear cJ
              go_enter Tryd.func56, Tryd.ntmps56
              go_wp2_with (first
                | (go_at_call 67; refine (regsRow_any _).mono ?_; rintro e w1 ⟨⟨g, rfl, hT1⟩, hl1⟩)
                | (go_at_call 68; refine (opsRow_any _).mono ?_; rintro e w3 ⟨⟨g3, rfl, hT3⟩, hl3⟩; have L3 := Later.trans L2 hl3)
                | (go_at_call 66; apply Calls.mono; (focus (with_reducible (exact cO _ _ hT3))); rintro e w4 ⟨rfl, hl4⟩; have L4 := Later.trans L3 hl4)
                | (go_at_call 66; apply Calls.mono; (focus (with_reducible (exact cR _ _ hT1))); rintro e w2 ⟨rfl, hl2⟩; have L2 := Later.trans hl1 hl2))
              go_ret
              exact ⟨by simp [hb], L4⟩
            · by_cases hc : 0 < c
              all_goals go_enter Tryd.func56, Tryd.ntmps56
              all_goals go_wp2_with (first
                | (go_at_call 67; refine (regsRow_any _).mono ?_; rintro e w1 ⟨⟨g, rfl, hT1⟩, hl1⟩)
                | (go_at_call 68; refine (opsRow_any _).mono ?_; rintro e w3 ⟨⟨g3, rfl, hT3⟩, hl3⟩; have L3 := Later.trans L2 hl3)
                | (go_at_call 69; refine (jumpsRow_any _).mono ?_; rintro e w5 ⟨⟨g5, rfl, hT5⟩, hl5⟩; have L5 := Later.trans L4 hl5)
                | (go_at_call 66; apply Calls.mono; (focus (with_reducible (exact cJ _ _ hT5))); rintro e w6 ⟨rfl, hl6⟩; have L6 := Later.trans L5 hl6)
                | (go_at_call 66; apply Calls.mono; (focus (with_reducible (exact cO _ _ hT3))); rintro e w4 ⟨rfl, hl4⟩; have L4 := Later.trans L3 hl4)
                | (go_at_call 66; apply Calls.mono; (focus (with_reducible (exact cR _ _ hT1))); rintro e w2 ⟨rfl, hl2⟩; have L2 := Later.trans hl1 hl2))
              all_goals go_ret
              all_goals exact ⟨by simp [hc], L6⟩

end Go.Proofs.YtginggelbfbcfaaDoor
