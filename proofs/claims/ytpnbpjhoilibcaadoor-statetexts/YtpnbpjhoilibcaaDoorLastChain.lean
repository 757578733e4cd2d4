/-
  A region that draws its order, whose last operation waits for all the others, for each of them itself or by way of others: it is the region of those, in whatever order, and then that one. Conditions: as each theorem names them.
-/
import Derived.Test.YtpnbpjhoilibcaaDoorLastOp
namespace Go.Proofs.YtpnbpjhoilibcaaDoor
open Go.RowKit
set_option linter.unusedVariables false
set_option linter.unusedSimpArgs false

/-- An operation waits for the j-th one. -/
def awaits (p : Oper) (j : Nat) : Bool := p.after.any fun e => Region.binds .any e && e.on == j
/-- Each one is waited for, by the last one or by one behind it. -/
def chainAll (l : List Oper) (o : Oper) : Bool := (List.range l.length).all fun j => awaits o j || (List.range l.length).any fun i => decide (j < i) && ((l[i]?).map fun p => awaits p j).getD false

/-- What has come up has all that it waits for behind it. -/
def Down (l : List Oper) (L : List Bool) : Prop := ∀ (i : Nat) (p : Oper), l[i]? = some p → L[i]? = some true → ∀ j, awaits p j = true → L[j]? = some true

theorem awaits_ready {p : Oper} {L : List Bool} (h : (p.after.all fun e => !Region.binds .any e || L.toArray.getD e.on false) = true) {j : Nat} (hj : awaits p j = true) : L[j]? = some true := by
  obtain ⟨e, he, hb⟩ := Array.any_eq_true'.1 hj
  simp only [Bool.and_eq_true, beq_iff_eq] at hb
  have := (Array.all_eq_true'.1 h) e he
  simp only [Bool.or_eq_true, Bool.not_eq_true', hb.1, Bool.true_eq_false, false_or, hb.2] at this
  rw [Array.getD_eq_getD_getElem?, List.getElem?_toArray] at this
  cases hL : L[j]? with
  | none => rw [hL] at this; cases this
  | some b => rw [hL] at this; simpa using this

theorem down_set {l : List Oper} {L : List Bool} {i : Nat} (hd : Down l L) (hi : i ∈ Region.ready .any l.toArray L.toArray) : Down l (L.set i true) := by
  have hf := ready_false hi
  unfold Region.ready at hi
  have h1 := (List.mem_filter.1 hi).2
  simp only [Bool.and_eq_true] at h1
  intro k p hp hk j hj
  have up : ∀ j, L[j]? = some true → (L.set i true)[j]? = some true := fun j h => by
    rw [List.getElem?_set]
    split
    · rename_i e
      subst e
      rw [hf] at h; cases h
    · exact h
  by_cases hki : i = k
  · subst hki
    have h2 : l.toArray[i]? = some p := by simpa using hp
    rw [h2] at h1
    exact up j (awaits_ready h1.2 hj)
  · rw [List.getElem?_set, if_neg hki] at hk
    exact up j (hd k p hp hk j hj)

theorem all_up {l : List Oper} {o : Oper} {L : List Bool} (hL : L.length = l.length) (hw : chainAll l o = true) (hd : Down l L) (h : (o.after.all fun e => !Region.binds .any e || L.toArray.getD e.on false) = true) :
    ∀ (n j : Nat), l.length - j ≤ n → j < l.length → L[j]? = some true := by
  intro n
  induction n with
  | zero => intro j h1 h2; omega
  | succ n ih =>
    intro j h1 h2
    have h3 := List.all_eq_true.1 hw j (by simpa using h2)
    simp only [Bool.or_eq_true] at h3
    rcases h3 with h3 | h3
    · exact awaits_ready h h3
    · obtain ⟨i, hi, h4⟩ := List.any_eq_true.1 h3
      have hil : i < l.length := by simpa using hi
      simp only [Bool.and_eq_true, decide_eq_true_eq] at h4
      have h5 := ih i (by omega) hil
      have h6 : l[i]? = some l[i] := List.getElem?_eq_getElem hil
      rw [h6] at h4
      exact hd i _ h6 h5 j h4.2

theorem ready_chain {l : List Oper} {o : Oper} {L : List Bool} (hL : L.length = l.length) (hw : chainAll l o = true) (hd : Down l L) {j : Nat} (hj : L[j]? = some false) : Region.ready .any (l ++ [o]).toArray (L.toArray.push false) = Region.ready .any l.toArray L.toArray := by
  have hjl : j < l.length := by rw [← hL]; exact (List.getElem?_eq_some_iff.1 hj).1
  unfold Region.ready
  have e1 : (l ++ [o]).toArray.size = l.length + 1 := by simp
  have e2 : l.toArray.size = l.length := by simp
  rw [e1, e2, List.range_succ, List.filter_append]
  have hn : ([l.length].filter fun i => !(L.toArray.push false).getD i true && (((l ++ [o]).toArray[i]?).map (·.after.all fun e => !Region.binds .any e || (L.toArray.push false).getD e.on false)).getD false) = [] := by
    rw [List.filter_eq_nil_iff]
    intro i hi
    simp at hi
    subst hi
    have h2 : (l ++ [o]).toArray[l.length]? = some o := by simp
    rw [h2]
    simp only [Option.map_some, Option.getD_some, Bool.and_eq_true, not_and]
    intro _ h3
    simp only [getD_push_false] at h3
    have := all_up hL hw hd h3 l.length j (by omega) hjl
    rw [hj] at this
    cases this
  rw [hn, List.append_nil]
  apply List.filter_congr
  intro i hi
  have hi' : i < l.length := by simpa using hi
  have h2 : (l ++ [o]).toArray[i]? = l.toArray[i]? := by
    rw [List.getElem?_toArray, List.getElem?_toArray, List.getElem?_append_left hi']
  rw [h2, getD_push (by omega)]
  simp only [getD_push_false]

theorem wpAny_chain {P : Program} {l : List Oper} {o : Oper} {Q : Exit → Act → World → Prop} (hg : plainOps l = true) (hgo : o.guard = none) (ht : textOps l = true) (hw : chainAll l o = true)
    (ho : (o.after.all fun e => !Region.binds .any e || decide (e.on < l.length)) = true) :
    ∀ (k : Nat) (L : List Bool) (a : Act) (w : World), L.length = l.length → L.count false = k → Down l L → wpAny P .any l.toArray (TailPost P o Q) k L.toArray a w → wpAny P .any (l ++ [o]).toArray Q (k + 1) (L.toArray.push false) a w
  | 0, L, a, w, hL, hc, _, h => by
    have hall : ∀ (i : Nat) (b : Bool), L[i]? = some b → b = true := fun i b hb => by
      cases b with
      | true => rfl
      | false => exact absurd (List.mem_of_getElem? hb) (List.count_eq_zero.1 hc)
    have hr := ready_last (o := o) hL ho hall
    refine ⟨fun h0 => (by rw [hr] at h0; cases h0), fun i hi => ?_⟩
    rw [hr] at hi
    simp at hi
    subst hi
    unfold wpOp
    have h2 : (l ++ [o]).toArray[l.length]? = some o := by simp
    simp only [h2, wanted_plain hgo, if_true]
    left
    refine Oper.wp_mono (fun a' w' hq => ⟨?_, hq⟩) h.2
    apply ready_none
    intro i
    rw [Array.getD_eq_getD_getElem?, Array.getElem?_setIfInBounds]
    by_cases hi : l.length = i
    · rw [if_pos hi]
      split <;> rfl
    · rw [if_neg hi, Array.getElem?_push]
      split
      · rename_i h5
        exact absurd (by simpa [hL] using h5.symm) hi
      · have := getD_true hall i
        rwa [Array.getD_eq_getD_getElem?] at this
  | k + 1, L, a, w, hL, hc, hd, h => by
    obtain ⟨j, hj⟩ : ∃ j, L[j]? = some false := by
      have hm : false ∈ L := List.count_pos_iff.1 (by omega)
      obtain ⟨j, hj, e⟩ := List.getElem_of_mem hm
      exact ⟨j, by rw [List.getElem?_eq_getElem hj, e]⟩
    have hr := ready_chain (o := o) hL hw hd hj
    refine ⟨fun h0 => absurd (hr ▸ h0) (ready_some hL ht hj), fun i hi => ?_⟩
    rw [hr] at hi
    have hf := ready_false hi
    have hil : i < l.length := by rw [← hL]; exact (List.getElem?_eq_some_iff.1 hf).1
    refine wpOp_off hg hil (wpOp_mono (fun a' w' h' => ?_) (h.2 i hi))
    have e1 : (L.toArray.push false).setIfInBounds i true = ((L.set i true).toArray).push false := by
      apply Array.toList_inj.1
      simp [List.set_append_left _ _ (show i < L.length by omega)]
    have e2 : L.toArray.setIfInBounds i true = (L.set i true).toArray := by
      apply Array.toList_inj.1
      simp
    rw [e1]
    rw [e2] at h'
    exact wpAny_chain hg hgo ht hw ho k (L.set i true) a' w' (by rw [List.length_set]; exact hL) (by have := count_set hf; omega) (down_set hd hi) h'

theorem down_start (l : List Oper) (n : Nat) : Down l (List.replicate n false) := fun i p _ h => by
  rw [List.getElem?_replicate] at h
  split at h <;> cases h

/-- The region, behind the draw: the others, in whatever order, with what their loads ask held; then the last one. -/
theorem wp_region_chain {P : Program} {full : List Oper} {o : Oper} {Q : Exit → Act → World → Prop} {id : Nat} {a : Act} {w : World} (S : World → Prop) (n : Nat) (hn : full.length = n + 1) (hof : full[n]? = some o) (hm : P.follows .mixedOrders = true) (hg : plainOps (full.take n) = true) (hgo : o.guard = none) (ht : textOps (full.take n) = true) (hw : chainAll (full.take n) o = true)
    (ho : (o.after.all fun e => !Region.binds .any e || decide (e.on < n)) = true)
    (h : S w.drew → wpAnyH P .any (full.take n).toArray (TailPost P o Q) S n (Array.replicate n false) a w.drew) (hS : S w.drew) : (Code.region id full.toArray true).wp P Q a w := by
  have hl : (full.take n).length = n := by rw [List.length_take]; omega
  have e : full = full.take n ++ [o] := by
    have h1 := List.take_append_drop n full
    have h2 : full.drop n = [o] := by
      obtain ⟨hlt, hget⟩ := List.getElem?_eq_some_iff.1 hof
      rw [List.drop_eq_getElem_cons hlt, hget, List.drop_of_length_le (by omega)]
    rw [h2] at h1
    exact h1.symm
  rw [e]
  generalize full.take n = l at *
  subst hl
  refine wp_region_any hm ?_
  have e0 : (List.replicate l.length false).toArray = Array.replicate l.length false := by
    apply Array.toList_inj.1
    simp
  have h1 := wpAny_chain hg hgo ht hw ho l.length (List.replicate l.length false) a w.drew (by simp) (by simp) (down_start _ _) (by rw [e0]; exact wpAny_of_held _ _ _ _ (h hS))
  have e1 : (l ++ [o]).toArray.size = l.length + 1 := by simp
  have e2 : Array.replicate (l.length + 1) false = (List.replicate l.length false).toArray.push false := by
    apply Array.toList_inj.1
    simp [List.replicate_succ']
  rw [e1, e2]
  exact h1

end Go.Proofs.YtpnbpjhoilibcaaDoor
