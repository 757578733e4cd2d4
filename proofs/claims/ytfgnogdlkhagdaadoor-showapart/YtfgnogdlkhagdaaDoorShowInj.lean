/-
  Two instructions that may be have one text just if they are the same, their labels aside. Conditions: the names differ, and bear none of the signs that stand between words.
-/
import Derived.Test.YtfgnogdlkhagdaaDoorShowPlain
namespace Go.Proofs.YtfgnogdlkhagdaaDoor
open Go.RowKit
set_option linter.unusedVariables false
set_option linter.unusedSimpArgs false

theorem split_at {c : UInt8} : ∀ {a a' b b' : List UInt8}, a ++ c :: b = a' ++ c :: b' → c ∉ a → c ∉ a' → a = a' ∧ b = b'
  | [], [], b, b', h, _, _ => by simpa using h
  | [], x :: a', b, b', h, _, h' => by
    simp only [List.nil_append, List.cons_append, List.cons.injEq] at h
    exact absurd (by rw [h.1]; exact List.mem_cons_self ..) h'
  | x :: a, [], b, b', h, h', _ => by
    simp only [List.nil_append, List.cons_append, List.cons.injEq] at h
    exact absurd (by rw [← h.1]; exact List.mem_cons_self ..) h'
  | x :: a, y :: a', b, b', h, h1, h2 => by
    simp only [List.cons_append, List.cons.injEq] at h
    obtain ⟨rfl, h⟩ := h
    have := split_at h (fun hm => h1 (List.mem_cons_of_mem _ hm)) (fun hm => h2 (List.mem_cons_of_mem _ hm))
    exact ⟨by rw [this.1], this.2⟩

/-- What follows a word: nothing, or a blank. -/
def Behind (r : List UInt8) : Prop := r = [] ∨ ∃ m, r = 32 :: m

theorem word_split {a a' r r' : List UInt8} (h : a ++ r = a' ++ r') (ha : (32 : UInt8) ∉ a) (ha' : (32 : UInt8) ∉ a') (hr : Behind r) (hr' : Behind r') : a = a' ∧ r = r' := by
  rcases hr with rfl | ⟨m, rfl⟩
  · rcases hr' with rfl | ⟨m', rfl⟩
    · simpa using h
    · rw [List.append_nil] at h
      exact absurd (by rw [h]; simp) ha
  · rcases hr' with rfl | ⟨m', rfl⟩
    · rw [List.append_nil] at h
      exact absurd (by rw [← h]; simp) ha'
    · obtain ⟨h1, h2⟩ := split_at h ha ha'
      exact ⟨h1, by rw [h2]⟩

/-- The words, in a row. -/
def wordK (k : Nat) : List UInt8 := if k < 14 then (opsT.getD (k + 1) ⟨#[]⟩).data.toList else (jumpsT.getD (k - 13) ⟨#[]⟩).data.toList
theorem words_apart : ∀ i j : Fin 24, wordK i.1 = wordK j.1 → i = j := by decide +kernel
theorem words_plain : ∀ i : Fin 24, (32 : UInt8) ∉ wordK i.1 ∧ wordK i.1 ≠ [108, 111, 99, 107] := by decide +kernel

theorem op_word {x : Ins} (h : insF x = 0) : ∃ k : Fin 24, (opTextF x.op x.cond).data.toList = wordK k.1 ∧ x.op = (if k.1 < 14 then (k.1 : Int) + 1 else 11) ∧ x.cond = (if k.1 < 14 then 0 else (k.1 : Int) - 13) := by
  unfold insF at h
  split at h
  · cases h
  rename_i h1
  split at h
  · cases h
  split at h
  · cases h
  split at h
  · cases h
  rename_i h4
  split at h
  · cases h
  rename_i h5
  by_cases h11 : x.op = 11
  · have hc : 1 ≤ x.cond ∧ x.cond ≤ 10 := by omega
    obtain ⟨k, hk⟩ : ∃ k : Nat, x.cond = k := ⟨x.cond.toNat, by omega⟩
    refine ⟨⟨k + 13, by omega⟩, ?_, ?_, ?_⟩
    · unfold opTextF wordK textAt
      have hj : (jumpsT.length : Int) = 11 := rfl
      rw [if_pos h11, hk, if_pos (by omega), if_neg (by show ¬ k + 13 < 14; omega)]
      simp
    · simp only
      rw [if_neg (by omega)]
      exact h11
    · simp only
      rw [if_neg (by omega), hk]
      omega
  · have hc : x.cond = 0 := by omega
    obtain ⟨k, hk⟩ : ∃ k : Nat, x.op = (k : Int) + 1 := ⟨(x.op - 1).toNat, by omega⟩
    refine ⟨⟨k, by omega⟩, ?_, ?_, ?_⟩
    · unfold opTextF wordK textAt
      have hj : (opsT.length : Int) = 15 := rfl
      rw [if_neg h11, if_pos hc, hk, if_pos (by omega), if_pos (by show k < 14; omega)]
      rw [show ((k : Int) + 1).toNat = k + 1 by omega]
    · simp only
      rw [if_pos (by omega)]
      exact hk
    · simp only
      rw [if_pos (by omega)]
      exact hc

theorem word_same {x y : Ins} (hx : insF x = 0) (hy : insF y = 0) (h : (opTextF x.op x.cond).data.toList = (opTextF y.op y.cond).data.toList) : x.op = y.op ∧ x.cond = y.cond := by
  obtain ⟨i, h1, h2, h3⟩ := op_word hx
  obtain ⟨j, h4, h5, h6⟩ := op_word hy
  rw [h1, h4] at h
  have := words_apart i j h
  subst this
  exact ⟨h2.trans h5.symm, h3.trans h6.symm⟩

theorem reg_has : ∀ k : Fin 8, (114 : UInt8) ∈ (regsT.getD k.1 ⟨#[]⟩).data.toList ∧ (91 : UInt8) ∉ (regsT.getD k.1 ⟨#[]⟩).data.toList ∧ (44 : UInt8) ∉ (regsT.getD k.1 ⟨#[]⟩).data.toList := by decide +kernel
theorem regs_apart : ∀ i j : Fin 8, (regsT.getD i.1 ⟨#[]⟩).data.toList = (regsT.getD j.1 ⟨#[]⟩).data.toList → i = j := by decide +kernel
theorem reg_word {r : Int} (h : 0 ≤ r ∧ r ≤ 7) : ∃ k : Fin 8, r = k.1 ∧ textAt regsT r = regsT.getD k.1 ⟨#[]⟩ := by
  obtain ⟨k, rfl⟩ : ∃ k : Nat, r = k := ⟨r.toNat, by omega⟩
  refine ⟨⟨k, by omega⟩, rfl, ?_⟩
  unfold textAt
  rw [if_pos (by simp [regsT]; omega)]
  simp
theorem reg_same {r s : Int} (hr : 0 ≤ r ∧ r ≤ 7) (hs : 0 ≤ s ∧ s ≤ 7) (h : (textAt regsT r).data.toList = (textAt regsT s).data.toList) : r = s := by
  obtain ⟨i, h1, h2⟩ := reg_word hr
  obtain ⟨j, h3, h4⟩ := reg_word hs
  rw [h2, h4] at h
  rw [h1, h3, regs_apart i j h]
theorem reg_signs {r : Int} (hr : 0 ≤ r ∧ r ≤ 7) : (114 : UInt8) ∈ (textAt regsT r).data.toList ∧ (91 : UInt8) ∉ (textAt regsT r).data.toList ∧ (44 : UInt8) ∉ (textAt regsT r).data.toList := by
  obtain ⟨i, h1, h2⟩ := reg_word hr
  rw [h2]
  exact reg_has i
theorem num_signs (n : Int) : (114 : UInt8) ∉ (txt n).data.toList ∧ (91 : UInt8) ∉ (txt n).data.toList ∧ (44 : UInt8) ∉ (txt n).data.toList := by
  rw [txt_list]
  refine ⟨fun h => ?_, fun h => ?_, fun h => ?_⟩
  all_goals
    have := itoa_bytes n _ h
    simp at this
theorem num_same {n m : Int} (hn : I64 n) (hm : I64 m) (h : (txt n).data.toList = (txt m).data.toList) : n = m := by
  rw [txt_list, txt_list] at h
  rw [← val_itoa n hn.1 hn.2, ← val_itoa m hm.1 hm.2, h]

/-- Names that can be told from one another, and from what stands around them. -/
structure Apart (N : List ByteArray) : Prop where
  inj : ∀ (i j : Nat) (s t : ByteArray), N[i]? = some s → N[j]? = some t → s.data.toList = t.data.toList → i = j
  plain : ∀ s ∈ N, (91 : UInt8) ∉ s.data.toList ∧ (44 : UInt8) ∉ s.data.toList

/-- The four kinds of an operand that may be. -/
theorem opd_kinds {o : Opd} (h : opdRightF o = true) : (∃ r, o = ⟨1, r, 0, 0⟩ ∧ 0 ≤ r ∧ r ≤ 7) ∨ (∃ n, o = ⟨2, 0, 0, n⟩) ∨ (∃ (s : Nat) (n : Int), o = ⟨3, 0, s, n⟩) ∨ (∃ (s : Nat) (r : Int), o = ⟨4, r, s, 0⟩ ∧ 0 ≤ r ∧ r ≤ 7) := by
  obtain ⟨k, r, s, n⟩ := o
  simp only [opdRightF, decide_eq_true_eq] at h
  rcases h with ⟨rfl, h1, h2, rfl, rfl⟩ | ⟨rfl, rfl, rfl⟩ | ⟨rfl, h1, h2, rfl⟩ | ⟨rfl, h1, h2, h3, rfl⟩
  · exact Or.inl ⟨r, rfl, h1, h2⟩
  · exact Or.inr (Or.inl ⟨n, rfl⟩)
  · exact Or.inr (Or.inr (Or.inl ⟨s.toNat, n, by rw [show ((s.toNat : Nat) : Int) = s by omega]⟩))
  · exact Or.inr (Or.inr (Or.inr ⟨s.toNat, r, by rw [show ((s.toNat : Nat) : Int) = s by omega], h2, h3⟩))

theorem cell_list (s p : ByteArray) : (s ++ ⟨#[91]⟩ ++ p ++ ⟨#[93]⟩ : ByteArray).data.toList = s.data.toList ++ 91 :: (p.data.toList ++ [93]) := by simp

/-- The text of an operand that may be and whose symbol does not lack. -/
theorem opd_text {o : Opd} {N : List ByteArray} (h : opdRightF o = true) (hl : lacksF o N = false) :
    (∃ r, o = ⟨1, r, 0, 0⟩ ∧ (0 ≤ r ∧ r ≤ 7) ∧ (opdTextF o N).data.toList = (textAt regsT r).data.toList) ∨ (∃ n, o = ⟨2, 0, 0, n⟩ ∧ (opdTextF o N).data.toList = (txt n).data.toList) ∨
    (∃ (s : Nat) (n : Int) (t : ByteArray), o = ⟨3, 0, s, n⟩ ∧ N[s]? = some t ∧ (opdTextF o N).data.toList = t.data.toList ++ 91 :: ((txt n).data.toList ++ [93])) ∨
    (∃ (s : Nat) (r : Int) (t : ByteArray), o = ⟨4, r, s, 0⟩ ∧ (0 ≤ r ∧ r ≤ 7) ∧ N[s]? = some t ∧ (opdTextF o N).data.toList = t.data.toList ++ 91 :: ((textAt regsT r).data.toList ++ [93])) := by
  have hn : ¬ opdRightF o = false := by simp [h]
  rcases opd_kinds h with ⟨r, rfl, h1⟩ | ⟨n, rfl⟩ | ⟨s, n, rfl⟩ | ⟨s, r, rfl, h1⟩
  · refine Or.inl ⟨r, rfl, h1, ?_⟩
    unfold opdTextF
    rw [if_neg hn]
    rfl
  · refine Or.inr (Or.inl ⟨n, rfl, ?_⟩)
    unfold opdTextF
    rw [if_neg hn]
    rfl
  · have hs : s < N.length := by simp [lacksF, memF] at hl; omega
    refine Or.inr (Or.inr (Or.inl ⟨s, n, N[s], rfl, List.getElem?_eq_getElem hs, ?_⟩))
    rw [← cell_list]
    unfold opdTextF
    rw [if_neg hn]
    simp only [Int.toNat_natCast, Int.reduceEq, if_false, if_true, List.getElem?_eq_getElem hs]
  · have hs : s < N.length := by simp [lacksF, memF] at hl; omega
    refine Or.inr (Or.inr (Or.inr ⟨s, r, N[s], rfl, h1, List.getElem?_eq_getElem hs, ?_⟩))
    rw [← cell_list]
    unfold opdTextF
    rw [if_neg hn]
    simp only [Int.toNat_natCast, Int.reduceEq, if_false, List.getElem?_eq_getElem hs]

theorem opd_comma {o : Opd} {N : List ByteArray} (hN : Apart N) (h : opdRightF o = true) (hl : lacksF o N = false) : (44 : UInt8) ∉ (opdTextF o N).data.toList := by
  rcases opd_text h hl with ⟨r, -, h1, e⟩ | ⟨n, -, e⟩ | ⟨s, n, t, -, ht, e⟩ | ⟨s, r, t, -, h1, ht, e⟩
  · rw [e]; exact (reg_signs h1).2.2
  · rw [e]; exact (num_signs n).2.2
  · rw [e]
    intro hm
    rcases List.mem_append.1 hm with hm | hm
    · exact (hN.plain t (List.mem_of_getElem? ht)).2 hm
    · simp only [List.mem_cons, List.mem_append, List.not_mem_nil, or_false] at hm
      rcases hm with hm | hm | hm
      · cases hm
      · exact (num_signs n).2.2 hm
      · cases hm
  · rw [e]
    intro hm
    rcases List.mem_append.1 hm with hm | hm
    · exact (hN.plain t (List.mem_of_getElem? ht)).2 hm
    · simp only [List.mem_cons, List.mem_append, List.not_mem_nil, or_false] at hm
      rcases hm with hm | hm | hm
      · cases hm
      · exact (reg_signs h1).2.2 hm
      · cases hm

theorem snoc_same {a b : List UInt8} (h : a ++ [93] = b ++ [93]) : a = b := List.append_cancel_right h

theorem opd_same {o u : Opd} {N : List ByteArray} (hN : Apart N) (ho : opdRightF o = true) (hu : opdRightF u = true) (lo : lacksF o N = false) (lu : lacksF u N = false) (no : I64 o.n) (nu : I64 u.n)
    (h : (opdTextF o N).data.toList = (opdTextF u N).data.toList) : o = u := by
  have mid : ∀ (t : ByteArray) (p : List UInt8), (91 : UInt8) ∈ t.data.toList ++ 91 :: p := fun t p => by simp
  rcases opd_text ho lo with ⟨r, rfl, h1, e⟩ | ⟨n, rfl, e⟩ | ⟨s, n, t, rfl, ht, e⟩ | ⟨s, r, t, rfl, h1, ht, e⟩
  · rw [e] at h
    rcases opd_text hu lu with ⟨r', rfl, h1', e'⟩ | ⟨n', rfl, e'⟩ | ⟨s', n', t', rfl, ht', e'⟩ | ⟨s', r', t', rfl, h1', ht', e'⟩
    · rw [e'] at h; rw [reg_same h1 h1' h]
    · rw [e'] at h; exact absurd (h ▸ (reg_signs h1).1) (num_signs n').1
    · rw [e'] at h; exact absurd (h ▸ mid _ _) (reg_signs h1).2.1
    · rw [e'] at h; exact absurd (h ▸ mid _ _) (reg_signs h1).2.1
  · rw [e] at h
    rcases opd_text hu lu with ⟨r', rfl, h1', e'⟩ | ⟨n', rfl, e'⟩ | ⟨s', n', t', rfl, ht', e'⟩ | ⟨s', r', t', rfl, h1', ht', e'⟩
    · rw [e'] at h; exact absurd (h ▸ (reg_signs h1').1) (num_signs n).1
    · rw [e'] at h
      obtain rfl : n = n' := num_same no nu h
      rfl
    · rw [e'] at h; exact absurd (h ▸ mid _ _) (num_signs n).2.1
    · rw [e'] at h; exact absurd (h ▸ mid _ _) (num_signs n).2.1
  · rw [e] at h
    rcases opd_text hu lu with ⟨r', rfl, h1', e'⟩ | ⟨n', rfl, e'⟩ | ⟨s', n', t', rfl, ht', e'⟩ | ⟨s', r', t', rfl, h1', ht', e'⟩
    · rw [e'] at h; exact absurd (h ▸ mid _ _) (reg_signs h1').2.1
    · rw [e'] at h; exact absurd (h ▸ mid _ _) (num_signs n').2.1
    · rw [e'] at h
      obtain ⟨h2, h3⟩ := split_at h (hN.plain t (List.mem_of_getElem? ht)).1 (hN.plain t' (List.mem_of_getElem? ht')).1
      obtain rfl : n = n' := num_same no nu (snoc_same h3)
      rw [hN.inj s s' t t' ht ht' h2]
    · rw [e'] at h
      obtain ⟨h2, h3⟩ := split_at h (hN.plain t (List.mem_of_getElem? ht)).1 (hN.plain t' (List.mem_of_getElem? ht')).1
      have h4 := snoc_same h3
      exact absurd (h4 ▸ (reg_signs h1').1) (num_signs n).1
  · rw [e] at h
    rcases opd_text hu lu with ⟨r', rfl, h1', e'⟩ | ⟨n', rfl, e'⟩ | ⟨s', n', t', rfl, ht', e'⟩ | ⟨s', r', t', rfl, h1', ht', e'⟩
    · rw [e'] at h; exact absurd (h ▸ mid _ _) (reg_signs h1').2.1
    · rw [e'] at h; exact absurd (h ▸ mid _ _) (num_signs n').2.1
    · rw [e'] at h
      obtain ⟨h2, h3⟩ := split_at h (hN.plain t (List.mem_of_getElem? ht)).1 (hN.plain t' (List.mem_of_getElem? ht')).1
      have h4 := snoc_same h3
      exact absurd (h4 ▸ (reg_signs h1).1) (num_signs n').1
    · rw [e'] at h
      obtain ⟨h2, h3⟩ := split_at h (hN.plain t (List.mem_of_getElem? ht)).1 (hN.plain t' (List.mem_of_getElem? ht')).1
      rw [hN.inj s s' t t' ht ht' h2, reg_same h1 h1' (snoc_same h3)]

/-- What follows the words of an instruction. -/
def tailL (x : Ins) (N : List ByteArray) : List UInt8 :=
  if jumpsF x.op = true then 32 :: x.dest.data.toList else if 9 < x.op then [] else 32 :: ((opdTextF x.a N).data.toList ++ 44 :: 32 :: (opdTextF x.b N).data.toList)
theorem tail_behind (x : Ins) (N : List ByteArray) : Behind (tailL x N) := by
  unfold tailL
  split
  · exact Or.inr ⟨_, rfl⟩
  split
  · exact Or.inl rfl
  · exact Or.inr ⟨_, rfl⟩
theorem ins_list {x : Ins} {N : List ByteArray} (h : insF x = 0) (ha : lacksF x.a N = false) (hb : lacksF x.b N = false) : (insT x N).data.toList = (headT x).data.toList ++ tailL x N := by
  unfold insT tailL
  rw [if_neg (by simp [h])]
  split
  · simp
  split
  · simp
  · rw [ha, hb, if_neg (by simp)]
    simp

theorem head_list (x : Ins) : (headT x).data.toList = (if x.lock = true then [108, 111, 99, 107, 32] else []) ++ (opTextF x.op x.cond).data.toList := by
  unfold headT
  split
  · simp
  · simp

/-- Two instructions that may be and have one text are the same, their labels aside. -/
theorem ins_same {x y : Ins} {N : List ByteArray} (hN : Apart N) (ox : x.Ok) (oy : y.Ok) (hx : insF x = 0) (hy : insF y = 0) (xa : lacksF x.a N = false) (xb : lacksF x.b N = false) (ya : lacksF y.a N = false) (yb : lacksF y.b N = false)
    (h : insT x N = insT y N) : x.op = y.op ∧ x.lock = y.lock ∧ x.cond = y.cond ∧ x.a = y.a ∧ x.b = y.b ∧ x.dest = y.dest := by
  have h0 : (insT x N).data.toList = (insT y N).data.toList := by rw [h]
  rw [ins_list hx xa xb, ins_list hy ya yb, head_list, head_list] at h0
  obtain ⟨i, hi, -⟩ := op_word hx
  obtain ⟨j, hj, -⟩ := op_word hy
  have key : x.lock = y.lock ∧ (opTextF x.op x.cond).data.toList = (opTextF y.op y.cond).data.toList ∧ tailL x N = tailL y N := by
    cases hl : x.lock with
    | false =>
      cases hm : y.lock with
      | false =>
        rw [hl, hm] at h0
        simp only [Bool.false_eq_true, if_false, List.nil_append] at h0
        exact ⟨rfl, word_split h0 (by rw [hi]; exact (words_plain i).1) (by rw [hj]; exact (words_plain j).1) (tail_behind x N) (tail_behind y N)⟩
      | true =>
        rw [hl, hm] at h0
        simp only [Bool.false_eq_true, if_false, if_true, List.nil_append] at h0
        have h1 : (opTextF x.op x.cond).data.toList ++ tailL x N = [108, 111, 99, 107] ++ (32 :: ((opTextF y.op y.cond).data.toList ++ tailL y N)) := by rw [h0]; simp
        have h2 := (word_split h1 (by rw [hi]; exact (words_plain i).1) (by decide) (tail_behind x N) (Or.inr ⟨_, rfl⟩)).1
        rw [hi] at h2
        exact absurd h2 (words_plain i).2
    | true =>
      cases hm : y.lock with
      | false =>
        rw [hl, hm] at h0
        simp only [Bool.false_eq_true, if_false, if_true, List.nil_append] at h0
        have h1 : (opTextF y.op y.cond).data.toList ++ tailL y N = [108, 111, 99, 107] ++ (32 :: ((opTextF x.op x.cond).data.toList ++ tailL x N)) := by rw [← h0]; simp
        have h2 := (word_split h1 (by rw [hj]; exact (words_plain j).1) (by decide) (tail_behind y N) (Or.inr ⟨_, rfl⟩)).1
        rw [hj] at h2
        exact absurd h2 (words_plain j).2
      | true =>
        rw [hl, hm] at h0
        simp only [if_true, List.append_assoc] at h0
        have h1 := List.append_cancel_left h0
        exact ⟨rfl, word_split h1 (by rw [hi]; exact (words_plain i).1) (by rw [hj]; exact (words_plain j).1) (tail_behind x N) (tail_behind y N)⟩
  obtain ⟨k1, k2, k3⟩ := key
  obtain ⟨o1, o2⟩ := word_same hx hy k2
  have ed : ∀ {z : Ins}, insF z = 0 → jumpsF z.op = false → z.dest = ⟨#[]⟩ := fun {z} hz hj => by
    unfold insF at hz
    split at hz
    · cases hz
    split at hz
    · cases hz
    split at hz
    · cases hz
    · rename_i h3
      apply bytes_ext
      cases he : z.dest.data.toList.isEmpty with
      | true => rw [List.isEmpty_iff.1 he]
      | false => exact absurd ⟨hj, he⟩ h3
  have ez : ∀ {z : Ins}, insF z = 0 → 9 < z.op → z.a = ⟨0, 0, 0, 0⟩ ∧ z.b = ⟨0, 0, 0, 0⟩ := fun {z} hz h9 => by
    have hr := ins_right hz
    unfold rowF at hr
    rw [if_pos (Or.inr h9)] at hr
    simp only [Bool.and_eq_true] at hr
    obtain ⟨⟨h1, h2⟩, -⟩ := hr
    simp only [opdZero, decide_eq_true_eq] at h1 h2
    refine ⟨?_, ?_⟩
    · obtain ⟨a1, a2, a3, a4⟩ := h1
      cases hza : z.a
      rw [hza] at a1 a2 a3 a4
      simp_all
    · obtain ⟨a1, a2, a3, a4⟩ := h2
      cases hza : z.b
      rw [hza] at a1 a2 a3 a4
      simp_all
  rcases ins_shape hx with ⟨sj, s9⟩ | ⟨sj, s9, -⟩ | ⟨sj, s9, ra, rb, -⟩
  · unfold tailL at k3
    rw [← o1, if_pos sj, if_pos sj] at k3
    simp only [List.cons.injEq, true_and] at k3
    obtain ⟨e1, e2⟩ := ez hx s9
    obtain ⟨e3, e4⟩ := ez hy (by rw [← o1]; exact s9)
    exact ⟨o1, k1, o2, by rw [e1, e3], by rw [e2, e4], bytes_ext k3⟩
  · obtain ⟨e1, e2⟩ := ez hx s9
    obtain ⟨e3, e4⟩ := ez hy (by rw [← o1]; exact s9)
    exact ⟨o1, k1, o2, by rw [e1, e3], by rw [e2, e4], by rw [ed hx sj, ed hy (by rw [← o1]; exact sj)]⟩
  · unfold tailL at k3
    simp only [← o1, sj, Bool.false_eq_true, if_false, if_neg (show ¬ 9 < x.op by omega), List.cons.injEq, true_and] at k3
    rcases ins_shape hy with ⟨tj, t9⟩ | ⟨tj, t9, -⟩ | ⟨tj, t9, ra', rb', -⟩
    · omega
    · omega
    · obtain ⟨p1, p2⟩ := split_at k3 (opd_comma hN ra xa) (opd_comma hN ra' ya)
      simp only [List.cons.injEq, true_and] at p2
      exact ⟨o1, k1, o2, opd_same hN ra ra' xa ya ox.a.2.2.2 oy.a.2.2.2 p1, opd_same hN rb rb' xb yb ox.b.2.2.2 oy.b.2.2.2 p2, by rw [ed hx sj, ed hy tj]⟩

end Go.Proofs.YtfgnogdlkhagdaaDoor
