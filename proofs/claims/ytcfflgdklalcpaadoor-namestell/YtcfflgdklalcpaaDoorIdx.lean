/-
  What the document's own Regs, ops, conds, index, Reg, Op, RegText, OpText and Word return, and names.Word. Nothing that was in memory turns. Conditions: as each theorem names them.
-/
import Derived.Test.YtcfflgdklalcpaaDoorReg
set_option linter.unusedVariables false
namespace Go.Proofs.YtcfflgdklalcpaaDoor
open Go.RowKit

theorem at_new (w : World) (o : Obj) : (w.alloc o).heap[w.heap.size]? = some o := by
  show (w.heap.push o)[w.heap.size]? = _
  simp

theorem tab_new (w : World) (T : List ByteArray) (t : TypeId) : Tab (w.alloc (.cells (T.map Value.string).toArray t)) w.heap.size T := by
  intro i x hx
  simp only [World.cell?, at_new]
  simp [hx]

set_option maxRecDepth 1000000 in
set_option maxHeartbeats 1000000 in
theorem regsRow_any (w : World) :
    Calls Tryd.prog 24 #[] w fun e w' => (∃ g, e = .returned (.slice (some ⟨g, 0, none⟩) 8 8) ∧ Tab w' g regsT) ∧ Later w w' := by
  go_enter Tryd.func24, Tryd.ntmps24
  go_wp2
  go_ret
  exact ⟨⟨_, rfl, tab_new w regsT _⟩, Later.alloc (Later.refl _) _⟩

set_option maxRecDepth 1000000 in
set_option maxHeartbeats 1000000 in
theorem opsRow_any (w : World) :
    Calls Tryd.prog 25 #[] w fun e w' => (∃ g, e = .returned (.slice (some ⟨g, 0, none⟩) 15 15) ∧ Tab w' g opsT) ∧ Later w w' := by
  go_enter Tryd.func25, Tryd.ntmps25
  go_wp2
  go_ret
  exact ⟨⟨_, rfl, tab_new w opsT _⟩, Later.alloc (Later.refl _) _⟩

set_option maxRecDepth 1000000 in
set_option maxHeartbeats 1000000 in
theorem jumpsRow_any (w : World) :
    Calls Tryd.prog 26 #[] w fun e w' => (∃ g, e = .returned (.slice (some ⟨g, 0, none⟩) 11 11) ∧ Tab w' g jumpsT) ∧ Later w w' := by
  go_enter Tryd.func26, Tryd.ntmps26
  go_wp2
  go_ret
  exact ⟨⟨_, rfl, tab_new w jumpsT _⟩, Later.alloc (Later.refl _) _⟩

set_option maxRecDepth 1000000 in
set_option maxHeartbeats 1000000 in
theorem index_any (T : List ByteArray) (g n : Nat) (hn : T.length = n) (hn' : n ≤ 100) (s : ByteArray) (w : World) (hT : Tab w g T) :
    Calls Tryd.prog 23 #[.slice (some ⟨g, 0, none⟩) n n, .string s] w fun e w' => e = .returned (.int .i64 (firstAt s T 0)) ∧ Later w w' := by
  have HT : Hid (Tab w g T) := hT
  have HN : Hid (T.length = n) := hn
  clear hT hn
  go_enter Tryd.func23, Tryd.ntmps23
  go_wp2
  go_loopw [5] (fun vi wr => ∃ (i : Nat), vi = .int .i64 (i : Nat) ∧ i ≤ n ∧ wr = w ∧ firstAt s (T.drop i) i = firstAt s T 0) (fun vi _ => n - (intOf vi).toNat)
  case atStart => exact ⟨0, rfl, by omega, rfl, rfl⟩
  case round =>
    obtain ⟨i, rfl, hi, rfl, hF⟩ := hrel
    by_cases h8 : i < n
    · obtain ⟨t, ht⟩ : ∃ t, T[i]? = some t := ⟨_, List.getElem?_eq_getElem (by rw [HN.out]; exact h8)⟩
      have hc := HT.out i t ht
      rw [first_drop s T i t ht] at hF
      clear ht
      by_cases he : (t.data.toList == s.data.toList) = true
      · have he' := same_true he
        rw [if_pos he] at hF
        have HE : Hid (firstAt s T 0 = (i : Int)) := hF.symm
        clear hF he
        go_wp2
        go_ret
        exact ⟨by simp only [HE.out]; rfl, Later.refl _⟩
      · have he' := same_false he
        rw [if_neg he] at hF
        have HG : Hid (firstAt s (T.drop (i + 1)) (i + 1) = firstAt s T 0) := hF
        clear hF he
        go_wp2
        go_roundw
        case rel => exact ⟨i + 1, by go_num, by omega, trivial, HG.out⟩
        case measure => simp [intOf]; omega
    · have HE : Hid (firstAt s T 0 = -1) := by
        show _ = _
        rw [← hF, List.drop_of_length_le (by rw [HN.out]; omega)]
        rfl
      clear hF
      go_wp2
      go_ret
      exact ⟨by simp only [HE.out]; rfl, Later.refl _⟩

set_option maxRecDepth 1000000 in
set_option maxHeartbeats 1000000 in
theorem refReg_any (s : ByteArray) (w : World) :
    Calls Tryd.prog 10 #[.string s] w fun e w' => e = .returned (.tuple #[.int .i64 (regF s).1, .bool (regF s).2]) ∧ Later w w' := by
  have c23 := fun g w' h => index_any regsT g 8 rfl (by omega) s w' h
  unfold regF
  generalize firstAt s regsT 0 = k at *
  by_cases h : 0 ≤ k
  all_goals (first | rw [if_pos h] | rw [if_neg h])
  all_goals go_enter Tryd.func10, Tryd.ntmps10
  all_goals go_wp2_with (first
    | (go_at_call 24; refine (regsRow_any _).mono ?_; rintro e w1 ⟨⟨g, rfl, hT1⟩, hl1⟩)
    | (go_at_call 23; refine (c23 _ _ hT1).mono ?_; rintro e w2 ⟨rfl, hl2⟩; have L2 := Later.trans hl1 hl2))
  all_goals go_returns
  all_goals exact ⟨rfl, L2⟩

theorem zero_neg {k : Int} (h : ¬ 0 < k) : k ≤ 0 := by omega

set_option maxRecDepth 1000000 in
set_option maxHeartbeats 1000000 in
theorem refOp_any (s : ByteArray) (w : World) :
    Calls Tryd.prog 12 #[.string s] w fun e w' => e = .returned (.tuple #[.int .i64 (opF s).1, .int .i64 (opF s).2.1, .bool (opF s).2.2]) ∧ Later w w' := by
  unfold opF
  by_cases h0 : s.data.toList.isEmpty = true
  · rw [if_pos h0]
    have h0' : s.toList.isEmpty = true := by rw [ByteArray.toList_eq]; exact h0
    have h0'' : s.toList = [] := List.isEmpty_iff.1 h0'
    clear h0
    go_enter Tryd.func12, Tryd.ntmps12
    go_wp2
    go_returns
    exact ⟨rfl, Later.refl _⟩
  · have p1 := ops_pos s h0
    have p2 := jumps_pos s h0
    rw [if_neg h0]
    simp only [p1, p2]
    have h0' : s.toList.isEmpty = false := by rw [ByteArray.toList_eq]; exact Bool.eq_false_iff.2 h0
    have h0'' : ¬ s.toList = [] := fun h => by rw [h] at h0'; cases h0'
    have c1 := fun g w' h => index_any opsT g 15 rfl (by omega) s w' h
    have c2 := fun g w' h => index_any jumpsT g 11 rfl (by omega) s w' h
    clear h0 p1 p2
    generalize firstAt s opsT 0 = k at *
    generalize firstAt s jumpsT 0 = m at *
    by_cases hk : 0 < k
    · rw [if_pos hk]
      go_enter Tryd.func12, Tryd.ntmps12
      go_wp2_with (first
        | (go_at_call 25; refine (opsRow_any _).mono ?_; rintro e w1 ⟨⟨g, rfl, hT1⟩, hl1⟩)
        | (go_at_call 23; refine (c1 _ _ hT1).mono ?_; rintro e w2 ⟨rfl, hl2⟩; have L2 := Later.trans hl1 hl2))
      go_returns
      exact ⟨rfl, L2⟩
    · rw [if_neg hk]
      by_cases hm : 0 < m
      all_goals (first | rw [if_pos hm] | rw [if_neg hm])
      all_goals go_enter Tryd.func12, Tryd.ntmps12
      all_goals go_wp2_with (first
        | (go_at_call 25; refine (opsRow_any _).mono ?_; rintro e w1 ⟨⟨g, rfl, hT1⟩, hl1⟩)
        | (go_at_call 26; refine (jumpsRow_any _).mono ?_; rintro e w3 ⟨⟨g3, rfl, hT3⟩, hl3⟩; have L3 := Later.trans L2 hl3)
        | (go_at_call 23; apply Calls.mono; (focus (with_reducible (exact c2 _ _ hT3))); rintro e w4 ⟨rfl, hl4⟩; have L4 := Later.trans L3 hl4)
        | (go_at_call 23; apply Calls.mono; (focus (with_reducible (exact c1 _ _ hT1))); rintro e w2 ⟨rfl, hl2⟩; have L2 := Later.trans hl1 hl2))
      all_goals go_returns
      all_goals exact ⟨rfl, L4⟩

set_option maxRecDepth 1000000 in
set_option maxHeartbeats 1000000 in
theorem refRegText_any (r : Int) (w : World) :
    Calls Tryd.prog 19 #[.int .i64 r] w fun e w' => e = .returned (.string (textAt regsT r)) ∧ Later w w' := by
  by_cases h0 : r < 0
  · rw [show textAt regsT r = ⟨#[]⟩ by simp only [textAt]; rw [if_neg (by omega)]]
    go_enter Tryd.func19, Tryd.ntmps19
    go_wp2
    go_ret
    exact ⟨rfl, Later.refl _⟩
  · by_cases h1 : 7 < r
    · rw [show textAt regsT r = ⟨#[]⟩ by simp only [textAt]; rw [if_neg (by simp [regsT]; omega)]]
      go_enter Tryd.func19, Tryd.ntmps19
      go_wp2
      go_ret
      exact ⟨rfl, Later.refl _⟩
    · obtain ⟨k, rfl⟩ : ∃ k : Nat, r = (k : Nat) := ⟨r.toNat, by omega⟩
      have hk : k < regsT.length := by simp [regsT]; omega
      have hc : Hid (∀ w' g, Tab w' g regsT → w'.cell? ⟨g, k, none⟩ = some (.string regsT[k])) := fun w' g hT => hT k _ (List.getElem?_eq_getElem hk)
      have e : textAt regsT (k : Int) = regsT[k] := by
        simp only [textAt]
        rw [if_pos (by omega)]
        simp [hk]
      rw [e]
      generalize regsT[k] = t at *
      clear e
      have hk' : (k : Int) < 8 := by omega
      go_enter Tryd.func19, Tryd.ntmps19
      go_wp2_with (go_at_call 24; refine (regsRow_any _).mono ?_; rintro e w1 ⟨⟨g, rfl, hT1⟩, hl1⟩; have q := hc.out _ _ hT1; clear hT1)
      go_ret
      exact ⟨rfl, hl1⟩

theorem optext_jump (cond : Int) (h : ¬ (1 ≤ cond ∧ cond ≤ 10)) : textAt jumpsT cond = ⟨#[]⟩ := by
  unfold textAt
  split
  · rename_i h'
    have : (jumpsT.length : Int) = 11 := rfl
    obtain rfl : cond = 0 := by omega
    rfl
  · rfl

theorem optext_op (op : Int) (h : ¬ (1 ≤ op ∧ op ≤ 14)) : textAt opsT op = ⟨#[]⟩ := by
  unfold textAt
  split
  · rename_i h'
    have : (opsT.length : Int) = 15 := rfl
    obtain rfl : op = 0 := by omega
    rfl
  · rfl

set_option maxRecDepth 1000000 in
set_option maxHeartbeats 1000000 in
theorem refOpText_any (op cond : Int) (w : World) :
    Calls Tryd.prog 21 #[.int .i64 op, .int .i64 cond] w fun e w' => e = .returned (.string (opTextF op cond)) ∧ Later w w' := by
  unfold opTextF
  by_cases h : op = 11
  · subst h
    rw [if_pos rfl]
    by_cases hc : 1 ≤ cond ∧ cond ≤ 10
    · obtain ⟨k, rfl⟩ : ∃ k : Nat, cond = (k : Nat) := ⟨cond.toNat, by omega⟩
      have hk : k < jumpsT.length := by simp [jumpsT]; omega
      have hq : Hid (∀ w' g, Tab w' g jumpsT → w'.cell? ⟨g, k, none⟩ = some (.string jumpsT[k])) := fun w' g hT => hT k _ (List.getElem?_eq_getElem hk)
      have e : textAt jumpsT (k : Int) = jumpsT[k] := by
        simp only [textAt]
        rw [if_pos (by omega)]
        simp [hk]
      rw [e]
      generalize jumpsT[k] = t at *
      clear e
      have hk' : (k : Int) < 11 := by omega
      have h1 := hc.1
      have h2 := hc.2
      clear hc
      go_enter Tryd.func21, Tryd.ntmps21
      go_wp2_with (go_at_call 26; refine (jumpsRow_any _).mono ?_; rintro e w1 ⟨⟨g, rfl, hT1⟩, hl1⟩; have q := hq.out _ _ hT1; clear hT1)
      go_ret
      exact ⟨rfl, hl1⟩
    · rw [optext_jump cond hc]
      by_cases h1 : 1 ≤ cond
      · have h2 : ¬ cond ≤ 10 := fun h => hc ⟨h1, h⟩
        have h3 : (cond == 0) = false := by simp; omega
        clear hc
        go_enter Tryd.func21, Tryd.ntmps21
        go_wp2
        go_ret
        exact ⟨rfl, Later.refl _⟩
      · clear hc
        by_cases h3 : cond = 0
        · subst h3
          go_enter Tryd.func21, Tryd.ntmps21
          go_wp2_with (go_at_call 25; refine (opsRow_any _).mono ?_; rintro e w1 ⟨⟨g, rfl, hT1⟩, hl1⟩; have q := hT1 11 _ rfl; clear hT1)
          go_ret
          exact ⟨rfl, hl1⟩
        · have h3' : (cond == 0) = false := by simp; omega
          go_enter Tryd.func21, Tryd.ntmps21
          go_wp2
          go_ret
          exact ⟨rfl, Later.refl _⟩
  · rw [if_neg h]
    have h' : (op == 11) = false := by simp; omega
    by_cases hc : cond = 0
    · subst hc
      rw [if_pos rfl]
      by_cases ho : 1 ≤ op ∧ op ≤ 14
      · obtain ⟨k, rfl⟩ : ∃ k : Nat, op = (k : Nat) := ⟨op.toNat, by omega⟩
        have hk : k < opsT.length := by simp [opsT]; omega
        have hq : Hid (∀ w' g, Tab w' g opsT → w'.cell? ⟨g, k, none⟩ = some (.string opsT[k])) := fun w' g hT => hT k _ (List.getElem?_eq_getElem hk)
        have e : textAt opsT (k : Int) = opsT[k] := by
          simp only [textAt]
          rw [if_pos (by omega)]
          simp [hk]
        rw [e]
        generalize opsT[k] = t at *
        clear e
        have hk' : (k : Int) < 15 := by omega
        have h1 := ho.1
        have h2 := ho.2
        clear ho
        go_enter Tryd.func21, Tryd.ntmps21
        go_wp2_with (go_at_call 25; refine (opsRow_any _).mono ?_; rintro e w1 ⟨⟨g, rfl, hT1⟩, hl1⟩; have q := hq.out _ _ hT1; clear hT1)
        go_ret
        exact ⟨rfl, hl1⟩
      · rw [optext_op op ho]
        by_cases h1 : 1 ≤ op
        · have h2 : ¬ op ≤ 14 := fun h => ho ⟨h1, h⟩
          clear ho
          go_enter Tryd.func21, Tryd.ntmps21
          go_wp2
          go_ret
          exact ⟨rfl, Later.refl _⟩
        · clear ho
          go_enter Tryd.func21, Tryd.ntmps21
          go_wp2
          go_ret
          exact ⟨rfl, Later.refl _⟩
    · rw [if_neg hc]
      have hc' : (cond == 0) = false := by simp; omega
      by_cases h1 : 1 ≤ op
      · by_cases h2 : op ≤ 14
        all_goals go_enter Tryd.func21, Tryd.ntmps21
        all_goals go_wp2
        all_goals go_ret
        all_goals exact ⟨rfl, Later.refl _⟩
      · go_enter Tryd.func21, Tryd.ntmps21
        go_wp2
        go_ret
        exact ⟨rfl, Later.refl _⟩

end Go.Proofs.YtcfflgdklalcpaaDoor
