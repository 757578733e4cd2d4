/-
  A region that draws its order, whose last operation waits for all the others: it is the region of those, in whatever order, and then that one. Conditions: as each theorem names them.
-/
import Derived.Test.YtpnbpjhoilibcaaDoorLater
import Derived.Orders
import Derived.OrdersHeld
namespace Go.Proofs.YtpnbpjhoilibcaaDoor
open Go.RowKit
set_option linter.unusedVariables false
set_option linter.unusedSimpArgs false

/-- What is asked behind the others: the last operation, and then the rest. -/
def TailPost (P : Program) (o : Oper) (Q : Exit → Act → World → Prop) : Exit → Act → World → Prop
  | .normal, a, w => o.wp P a w (Q .normal) Q
  | e, a, w => Q e a w

theorem wp_off {P : Program} {o : Oper} {a : Act} {w : World} {K : Act → World → Prop} {Q Q' : Exit → Act → World → Prop} (hQ : ∀ e a w, e ≠ .normal → Q' e a w → Q e a w) (hh : o.wp P a w K Q') : o.wp P a w K Q := by
  unfold Oper.wp at *
  generalize (execOp a.eval o).run P w = r at *
  have hL : LetsOut Q' → LetsOut Q := fun ⟨a, w, h⟩ => ⟨a, w, hQ _ _ _ (by simp) h⟩
  cases r with
  | ok n w' =>
    cases n <;> simp only [Oper.upon] at hh ⊢ <;>
      first
        | exact hh
        | exact Calls.mono hh (fun e w'' he => by cases e <;> first | exact he | exact hQ _ _ _ (by simp) he | exact hL he)
  | halt x w' => cases x <;> simp only [Oper.upon] at hh ⊢ <;> first | exact hh | exact hQ _ _ _ (by simp) hh | exact hL hh

theorem tail_off {P : Program} {o : Oper} {Q : Exit → Act → World → Prop} : ∀ e a w, e ≠ .normal → TailPost P o Q e a w → Q e a w := by
  intro e a w he h
  cases e <;> first | exact absurd rfl he | exact h

/-- No operation is guarded. -/
def plainOps (l : List Oper) : Bool := l.all fun p => p.guard.isNone
/-- Each waits for elder ones alone. -/
def textOps (l : List Oper) : Bool := (List.range l.length).all fun i => ((l[i]?).map fun p => p.after.all fun e => !Region.binds .any e || decide (e.on < i)).getD true
/-- The last one waits for all. -/
def waitsAll (l : List Oper) (o : Oper) : Bool := (List.range l.length).all fun j => o.after.any fun e => Region.binds .any e && e.on == j

theorem wanted_plain {o : Oper} (h : o.guard = none) (y : Nat → Option Bool) : Region.wanted o y = true := by simp [Region.wanted, h]

theorem wpOp_off {P : Program} {l : List Oper} {o : Oper} {Q : Exit → Act → World → Prop} (hg : plainOps l = true) {i : Nat} (hi : i < l.length) {K : Act → World → Prop} {a : Act} {w : World}
    (h : wpOp P l.toArray (TailPost P o Q) i K a w) : wpOp P (l ++ [o]).toArray Q i K a w := by
  obtain ⟨p, hp⟩ : ∃ p, l[i]? = some p := ⟨_, List.getElem?_eq_getElem hi⟩
  have hgp : p.guard = none := by
    have := List.all_eq_true.1 hg p (List.mem_of_getElem? hp)
    simpa using this
  have h1 : l.toArray[i]? = some p := by simpa using hp
  have h2 : (l ++ [o]).toArray[i]? = some p := by
    rw [List.getElem?_toArray, List.getElem?_append_left hi]; exact hp
  unfold wpOp at h ⊢
  simp only [h1, h2, wanted_plain hgp, if_true] at h ⊢
  rcases h with h | ⟨h3, h4⟩
  · exact .inl (wp_off tail_off h)
  · obtain ⟨a', w', h5⟩ := h4
    exact .inr ⟨h3, a', w', h5⟩

theorem getD_push {L : List Bool} {i : Nat} {d : Bool} (hi : i < L.length) : (L.toArray.push false).getD i d = L.toArray.getD i d := by
  rw [Array.getD_eq_getD_getElem?, Array.getD_eq_getD_getElem?, Array.getElem?_push_lt (by simpa using hi)]
  simp [hi]

theorem getD_push_false {L : List Bool} {i : Nat} : (L.toArray.push false).getD i false = L.toArray.getD i false := by
  rcases Nat.lt_or_ge i L.length with h | h
  · exact getD_push h
  · rw [Array.getD_eq_getD_getElem?, Array.getD_eq_getD_getElem?, Array.getElem?_push]
    have h2 : L.toArray[i]? = none := by simp; omega
    rw [h2]
    split <;> simp

theorem ready_same {l : List Oper} {o : Oper} {L : List Bool} (hL : L.length = l.length) (hw : waitsAll l o = true) {j : Nat} (hj : L[j]? = some false) : Region.ready .any (l ++ [o]).toArray (L.toArray.push false) = Region.ready .any l.toArray L.toArray := by
  have hjl : j < l.length := by rw [← hL]; exact (List.getElem?_eq_some_iff.1 hj).1
  unfold Region.ready
  have e1 : (l ++ [o]).toArray.size = l.length + 1 := by simp
  have e2 : l.toArray.size = l.length := by simp
  rw [e1, e2, List.range_succ, List.filter_append]
  have hn : ([l.length].filter fun i => !(L.toArray.push false).getD i true && (((l ++ [o]).toArray[i]?).map (·.after.all fun e => !Region.binds .any e || (L.toArray.push false).getD e.on false)).getD false) = [] := by
    rw [List.filter_eq_nil_iff]
    intro i hi
    simp at hi
    subst hi
    have h2 : (l ++ [o]).toArray[l.length]? = some o := by simp
    rw [h2]
    simp only [Option.map_some, Option.getD_some, Bool.and_eq_true, not_and]
    intro _
    have := List.all_eq_true.1 hw j (by simpa using hjl)
    obtain ⟨e, he, hb⟩ := Array.any_eq_true'.1 this
    simp only [Bool.and_eq_true, beq_iff_eq] at hb
    rw [Bool.not_eq_true, Array.all_eq_false']
    refine ⟨e, he, ?_⟩
    rw [hb.1, hb.2, getD_push_false]
    simp [Array.getD_eq_getD_getElem?, hj]
  rw [hn, List.append_nil]
  apply List.filter_congr
  intro i hi
  have hi' : i < l.length := by simpa using hi
  have h2 : (l ++ [o]).toArray[i]? = l.toArray[i]? := by
    rw [List.getElem?_toArray, List.getElem?_toArray, List.getElem?_append_left hi']
  rw [h2, getD_push (by omega)]
  simp only [getD_push_false]

theorem getD_true {L : List Bool} (h : ∀ (i : Nat) (b : Bool), L[i]? = some b → b = true) (i : Nat) : L.toArray.getD i true = true := by
  rw [Array.getD_eq_getD_getElem?, List.getElem?_toArray]
  cases hi : L[i]? with
  | none => rfl
  | some b => simpa using h i b hi

theorem getD_true' {L : List Bool} (h : ∀ (i : Nat) (b : Bool), L[i]? = some b → b = true) {i : Nat} (hi : i < L.length) : L.toArray.getD i false = true := by
  rw [Array.getD_eq_getD_getElem?, List.getElem?_toArray, List.getElem?_eq_getElem hi]
  simpa using h i _ (List.getElem?_eq_getElem hi)

theorem ready_none {ops : Array Oper} {L : Array Bool} (h : ∀ i, L.getD i true = true) : Region.ready .any ops L = [] := by
  unfold Region.ready
  rw [List.filter_eq_nil_iff]
  intro i _
  rw [h i]
  simp

theorem ready_last {l : List Oper} {o : Oper} {L : List Bool} (hL : L.length = l.length) (ho : (o.after.all fun e => !Region.binds .any e || decide (e.on < l.length)) = true) (h : ∀ (i : Nat) (b : Bool), L[i]? = some b → b = true) :
    Region.ready .any (l ++ [o]).toArray (L.toArray.push false) = [l.length] := by
  unfold Region.ready
  have e1 : (l ++ [o]).toArray.size = l.length + 1 := by simp
  rw [e1, List.range_succ, List.filter_append]
  have h0 : ((List.range l.length).filter fun i => !(L.toArray.push false).getD i true && (((l ++ [o]).toArray[i]?).map (·.after.all fun e => !Region.binds .any e || (L.toArray.push false).getD e.on false)).getD false) = [] := by
    rw [List.filter_eq_nil_iff]
    intro i hi
    have hi' : i < l.length := by simpa using hi
    rw [getD_push (by omega), getD_true h i]
    simp
  rw [h0, List.nil_append]
  have h2 : (l ++ [o]).toArray[l.length]? = some o := by simp
  have h3 : (L.toArray.push false).getD l.length true = false := by
    rw [Array.getD_eq_getD_getElem?, ← hL]
    simp
  have h4 : (o.after.all fun e => !Region.binds .any e || (L.toArray.push false).getD e.on false) = true := by
    rw [Array.all_eq_true'] at ho ⊢
    intro e he
    have := ho e he
    rw [getD_push_false]
    simp only [Bool.or_eq_true, Bool.not_eq_true', decide_eq_true_eq] at this ⊢
    rcases this with h5 | h5
    · exact .inl h5
    · exact .inr (getD_true' h (by omega))
  have hp : (!(L.toArray.push false).getD l.length true && (((l ++ [o]).toArray[l.length]?).map (·.after.all fun e => !Region.binds .any e || (L.toArray.push false).getD e.on false)).getD false) = true := by
    rw [h3, h2]
    exact h4
  rw [List.filter_cons_of_pos (by exact hp)]
  rfl

/-- While one has not come up, one may. -/
theorem ready_some {l : List Oper} {L : List Bool} (hL : L.length = l.length) (ht : textOps l = true) {j : Nat} (hj : L[j]? = some false) : Region.ready .any l.toArray L.toArray ≠ [] := by
  induction j using Nat.strongRecOn with
  | _ j ih =>
    by_cases hex : ∃ i, i < j ∧ L[i]? = some false
    · obtain ⟨i, hi, h⟩ := hex
      exact ih i hi h
    · have hjl : j < l.length := by rw [← hL]; exact (List.getElem?_eq_some_iff.1 hj).1
      obtain ⟨p, hp⟩ : ∃ p, l[j]? = some p := ⟨_, List.getElem?_eq_getElem hjl⟩
      intro h0
      have hm : j ∈ Region.ready .any l.toArray L.toArray := by
        unfold Region.ready
        rw [List.mem_filter]
        refine ⟨by simpa using hjl, ?_⟩
        have h1 : l.toArray[j]? = some p := by simpa using hp
        rw [h1]
        have h2 := List.all_eq_true.1 ht j (by simpa using hjl)
        rw [hp] at h2
        simp only [Option.map_some, Option.getD_some] at h2
        simp only [Option.map_some, Option.getD_some, Bool.and_eq_true]
        refine ⟨by simp [Array.getD_eq_getD_getElem?, hj], ?_⟩
        rw [Array.all_eq_true'] at h2 ⊢
        intro e he
        have h3 := h2 e he
        simp only [Bool.or_eq_true, Bool.not_eq_true', decide_eq_true_eq] at h3 ⊢
        rcases h3 with h4 | h4
        · exact .inl h4
        · right
          have hel : e.on < L.length := by omega
          rw [Array.getD_eq_getD_getElem?, List.getElem?_toArray, List.getElem?_eq_getElem hel]
          cases hb : L[e.on] with
          | true => rfl
          | false => exact absurd ⟨e.on, h4, by rw [List.getElem?_eq_getElem hel, hb]⟩ hex
      rw [h0] at hm
      cases hm

theorem count_set {L : List Bool} {i : Nat} (h : L[i]? = some false) : (L.set i true).count false + 1 = L.count false := by
  induction L generalizing i with
  | nil => simp at h
  | cons b L ih =>
    cases i with
    | zero =>
      simp at h
      subst h
      simp
    | succ i =>
      have := ih (i := i) (by simpa using h)
      cases b <;> simp [List.set_cons_succ, List.count_cons] <;> omega

theorem ready_false {ops : Array Oper} {L : List Bool} {i : Nat} (h : i ∈ Region.ready .any ops L.toArray) : L[i]? = some false := by
  unfold Region.ready at h
  have h1 := (List.mem_filter.1 h).2
  simp only [Bool.and_eq_true, Bool.not_eq_true', Array.getD_eq_getD_getElem?, List.getElem?_toArray] at h1
  cases hi : L[i]? with
  | none => rw [hi] at h1; simp at h1
  | some b => rw [hi] at h1; simp at h1; rw [h1.1]

theorem wpAny_last {P : Program} {l : List Oper} {o : Oper} {Q : Exit → Act → World → Prop} (hg : plainOps l = true) (hgo : o.guard = none) (ht : textOps l = true) (hw : waitsAll l o = true)
    (ho : (o.after.all fun e => !Region.binds .any e || decide (e.on < l.length)) = true) :
    ∀ (k : Nat) (L : List Bool) (a : Act) (w : World), L.length = l.length → L.count false = k → wpAny P .any l.toArray (TailPost P o Q) k L.toArray a w → wpAny P .any (l ++ [o]).toArray Q (k + 1) (L.toArray.push false) a w
  | 0, L, a, w, hL, hc, h => by
    have hall : ∀ (i : Nat) (b : Bool), L[i]? = some b → b = true := fun i b hb => by
      cases b with
      | true => rfl
      | false => exact absurd (List.mem_of_getElem? hb) (List.count_eq_zero.1 hc)
    have hr := ready_last (o := o) hL ho hall
    refine ⟨fun h0 => (by rw [hr] at h0; cases h0), fun i hi => ?_⟩
    rw [hr] at hi
    simp at hi
    subst hi
    unfold wpOp
    have h2 : (l ++ [o]).toArray[l.length]? = some o := by simp
    simp only [h2, wanted_plain hgo, if_true]
    left
    refine Oper.wp_mono (fun a' w' hq => ⟨?_, hq⟩) h.2
    apply ready_none
    intro i
    rw [Array.getD_eq_getD_getElem?, Array.getElem?_setIfInBounds]
    by_cases hi : l.length = i
    · rw [if_pos hi]
      split <;> rfl
    · rw [if_neg hi, Array.getElem?_push]
      split
      · rename_i h5
        exact absurd (by simpa [hL] using h5.symm) hi
      · have := getD_true hall i
        rwa [Array.getD_eq_getD_getElem?] at this
  | k + 1, L, a, w, hL, hc, h => by
    obtain ⟨j, hj⟩ : ∃ j, L[j]? = some false := by
      have hm : false ∈ L := List.count_pos_iff.1 (by omega)
      obtain ⟨j, hj, e⟩ := List.getElem_of_mem hm
      exact ⟨j, by rw [List.getElem?_eq_getElem hj, e]⟩
    have hr := ready_same (o := o) hL hw hj
    refine ⟨fun h0 => absurd (hr ▸ h0) (ready_some hL ht hj), fun i hi => ?_⟩
    rw [hr] at hi
    have hf := ready_false hi
    have hil : i < l.length := by rw [← hL]; exact (List.getElem?_eq_some_iff.1 hf).1
    refine wpOp_off hg hil (wpOp_mono (fun a' w' h' => ?_) (h.2 i hi))
    have e1 : (L.toArray.push false).setIfInBounds i true = ((L.set i true).toArray).push false := by
      apply Array.toList_inj.1
      simp [List.set_append_left _ _ (show i < L.length by omega)]
    have e2 : L.toArray.setIfInBounds i true = (L.set i true).toArray := by
      apply Array.toList_inj.1
      simp
    rw [e1]
    rw [e2] at h'
    exact wpAny_last hg hgo ht hw ho k (L.set i true) a' w' (by rw [List.length_set]; exact hL) (by have := count_set hf; omega) h'

/-- The region, behind the draw. -/
theorem wp_region_last {P : Program} {l : List Oper} {o : Oper} {Q : Exit → Act → World → Prop} {S : World → Prop} {id : Nat} {a : Act} {w : World} (hm : P.follows .mixedOrders = true) (hg : plainOps l = true) (hgo : o.guard = none) (ht : textOps l = true) (hw : waitsAll l o = true)
    (ho : (o.after.all fun e => !Region.binds .any e || decide (e.on < l.length)) = true)
    (h : wpAnyH P .any l.toArray (TailPost P o Q) S l.length (List.replicate l.length false).toArray a w.drew) : (Code.region id (l ++ [o]).toArray true).wp P Q a w := by
  refine wp_region_any hm ?_
  have h1 := wpAny_last hg hgo ht hw ho l.length (List.replicate l.length false) a w.drew (by simp) (by simp) (wpAny_of_held _ _ _ _ h)
  have e1 : (l ++ [o]).toArray.size = l.length + 1 := by simp
  have e2 : Array.replicate (l.length + 1) false = (List.replicate l.length false).toArray.push false := by
    apply Array.toList_inj.1
    simp [List.replicate_succ']
  rw [e1, e2]
  exact h1

theorem wp_region_off {P : Program} {full : List Oper} {o : Oper} {Q : Exit → Act → World → Prop} {id : Nat} {a : Act} {w : World} (S : World → Prop) (n : Nat) (hn : full.length = n + 1) (hof : full[n]? = some o) (hm : P.follows .mixedOrders = true) (hg : plainOps (full.take n) = true) (hgo : o.guard = none) (ht : textOps (full.take n) = true) (hw : waitsAll (full.take n) o = true)
    (ho : (o.after.all fun e => !Region.binds .any e || decide (e.on < n)) = true)
    (h : S w.drew → wpAnyH P .any (full.take n).toArray (TailPost P o Q) S n (Array.replicate n false) a w.drew) (hS : S w.drew) : (Code.region id full.toArray true).wp P Q a w := by
  have hl : (full.take n).length = n := by rw [List.length_take]; omega
  have e : full = full.take n ++ [o] := by
    have h1 := List.take_append_drop n full
    have h2 : full.drop n = [o] := by
      obtain ⟨hlt, hget⟩ := List.getElem?_eq_some_iff.1 hof
      rw [List.drop_eq_getElem_cons hlt, hget, List.drop_of_length_le (by omega)]
    rw [h2] at h1
    exact h1.symm
  rw [e]
  refine wp_region_last (S := S) hm hg hgo ht hw (by rw [hl]; exact ho) ?_
  rw [hl]
  have e2 : (List.replicate n false).toArray = Array.replicate n false := by
    apply Array.toList_inj.1
    simp
  rw [e2]
  exact h hS

end Go.Proofs.YtpnbpjhoilibcaaDoor
