/-
  A made thread with one instruction, not its last, another that does not jump: it may be still. Conditions: as each theorem names them.
-/
import Derived.Test.YtfgnogdlkhagdaaDoorMadeValid
import Derived.Test.YtfgnogdlkhagdaaDoorMadeRow
namespace Go.Proofs.YtfgnogdlkhagdaaDoor
open Go.RowKit
set_option linter.unusedVariables false
set_option linter.unusedSimpArgs false

theorem label_some (q : Nat) : (labelT q).data.toList ≠ [] := by simp [labelT]

/-- What does not jump does not hang on how many there are. -/
theorem insOf_many {a : Act5} {m : Int} (h : (insOf a m).dest = ⟨#[]⟩) (m' : Int) : insOf a m = insOf a m' := by
  unfold insOf at h ⊢
  split at h
  all_goals first
    | rfl
    | exact absurd (congrArg (fun t : ByteArray => t.data.toList) h) (label_some _)

theorem raw_set {acts : List Act5} {n k : Nat} (hn : n ≤ acts.length) (hk : k < n) (a : Act5) : rawL (acts.set k a) n = (rawL acts n).set k (insOf a (n + 1 : Nat)) := by
  unfold rawL
  rw [List.set_append_left _ _ (by simp; omega), ← List.map_set, List.take_set]

theorem set_self2 {T : Thr} {k : Nat} {x z : Ins × List ByteArray} (h : T[k]? = some x) : (T.set k z)[k]? = some z := List.getElem?_set_self (List.getElem?_eq_some_iff.1 h).1

theorem swap_is {acts : List Act5} {n k : Nat} {m : Nat → Bool} {T : Thr} (hn : n ≤ acts.length) (hk : k < n) (h : IsThr (rawL acts n) m T) {x y : Ins} {L : List ByteArray} (hx : T[k]? = some (x, L)) {a : Act5} (hy : withLabels y (.slice none 0 0) = withLabels (insOf a (n + 1 : Nat)) (.slice none 0 0)) :
    IsThr (rawL (acts.set k a) n) m (T.set k (y, L)) := by
  rw [raw_set hn hk a]
  have hkl : k < (rawL acts n).length := by rw [rawL_length hn]; omega
  refine ⟨by rw [List.length_set, List.length_set]; exact h.len, fun i z M r h1 h2 => ?_⟩
  by_cases hi : i = k
  · subst hi
    rw [set_self2 hx] at h1
    cases h1
    rw [List.getElem?_set_self hkl] at h2
    cases h2
    refine ⟨hy, ?_⟩
    exact (h.is i x L _ hx (List.getElem?_eq_getElem hkl)).2
  · rw [List.getElem?_set_ne (fun e => hi e.symm)] at h1 h2
    exact h.is i z M r h1 h2

theorem jumps_made2 {acts : List Act5} {n : Nat} {m : Nat → Bool} {T : Thr} (hl : (rawL acts n).length = n + 1) (hn : n ≤ acts.length) (h : IsThr (rawL acts n) m T) (hm : ∀ q, q < n + 1 → jumped (rawL acts n) n q = true → m q = true) : ∀ (d k : Nat), k + d = T.length → jumpsC (labelsOf T) (T.drop k) = 0
  | 0, k, hk => by rw [List.drop_of_length_le (by omega)]; rfl
  | d + 1, k, hk => by
    obtain ⟨⟨x, L⟩, hx⟩ : ∃ a, T[k]? = some a := ⟨_, List.getElem?_eq_getElem (by omega)⟩
    obtain ⟨r, hr⟩ : ∃ r, (rawL acts n)[k]? = some r := ⟨_, List.getElem?_eq_getElem (by rw [← h.len]; omega)⟩
    have hlen := h.len
    have h1 := (h.is k x L r hx hr).1
    have hop : x.op = r.op := by simp only [withLabels, Ins.mk.injEq] at h1; exact h1.1
    have hde := dest_of h hx hr
    rw [jumps_drop _ T k x L hx, if_neg ?_]
    · exact jumps_made2 hl hn h hm d (k + 1) (by omega)
    · rintro ⟨hj, hn'⟩
      rw [hop] at hj
      rw [hde] at hn'
      rcases raw_mem hr with ⟨a, rfl⟩ | rfl
      · obtain ⟨q, hq, e⟩ := jump_made (by omega) hj
        have hkn : k < n := by
          rcases Nat.lt_or_ge k n with h | h
          · exact h
          · exfalso
            have hk' : k = n := by
              have := (List.getElem?_eq_some_iff.1 hr).1
              omega
            subst hk'
            unfold rawL at hr
            rw [List.getElem?_append_right (by simp [hn])] at hr
            simp [hn] at hr
            have hj2 : jumpsF (bareIns 14 (.slice none 0 0)).op = true := by rw [hr]; exact hj
            cases hj2
        have hju : jumped (rawL acts n) n q = true := by
          unfold jumped
          rw [List.any_eq_true]
          refine ⟨_, List.mem_of_getElem? (i := k) (by rw [List.getElem?_take, if_pos hkn]; exact hr), ?_⟩
          rw [decide_eq_true_eq]
          exact e
        rw [e, labels_have h (by omega) (hm q (by omega) hju)] at hn'
        cases hn'
      · cases hj

theorem swap_jumped {acts : List Act5} {n k : Nat} (hn : n ≤ acts.length) (hk : k < n) {a : Act5} (ha : (insOf a (n + 1 : Nat)).dest = ⟨#[]⟩) (q : Nat) (h : jumped (rawL (acts.set k a) n) n q = true) : jumped (rawL acts n) n q = true := by
  rw [raw_set hn hk a] at h
  unfold jumped at *
  rw [List.any_eq_true] at *
  obtain ⟨r, hr, hd⟩ := h
  rw [decide_eq_true_eq] at hd
  obtain ⟨i, hi⟩ := List.getElem?_of_mem hr
  rw [List.getElem?_take] at hi
  split at hi
  · by_cases hik : i = k
    · subst hik
      rw [List.getElem?_set_self (by rw [rawL_length hn]; omega)] at hi
      cases hi
      rw [ha] at hd
      exact absurd (by rw [← hd]) (label_some q)
    · rw [List.getElem?_set_ne (fun e => hik e.symm)] at hi
      rename_i hin
      exact ⟨r, List.mem_of_getElem? (i := i) (by rw [List.getElem?_take, if_pos hin]; exact hi), by rw [decide_eq_true_eq]; exact hd⟩
  · cases hi

/-- What is left may be. -/
theorem swap_valid (b : Nat) {acts : List Act5} {n k : Nat} {T : Thr} (hn : n ≤ acts.length) (h90 : n ≤ 90) (hk : k < n) (h : IsThr (rawL acts n) (jumped (rawL acts n) n) T) {x y : Ins} {L : List ByteArray} (hx : T[k]? = some (x, L)) {a : Act5}
    (ha : (insOf a (n + 1 : Nat)).dest = ⟨#[]⟩) (hy : withLabels y (.slice none 0 0) = withLabels (insOf a (n + 1 : Nat)) (.slice none 0 0)) :
    threadC (xyz b) (T.set k (y, L)) = 0 ∧ FineT (T.set k (y, L)) ∧ IsThr (rawL (acts.set k a) n) (jumped (rawL acts n) n) (T.set k (y, L)) := by
  have hi := swap_is hn hk h hx hy
  have hn' : n ≤ (acts.set k a).length := by rw [List.length_set]; exact hn
  have hl := rawL_length hn'
  refine ⟨?_, fine_made hn' h90 hi, hi⟩
  have hlen := hi.len
  have hs := steps_made b h90 hl hi (T.set k (y, L)).length 0 (by omega)
  have hj := jumps_made2 hl hn' hi (fun q _ hq => swap_jumped hn hk ha q hq) (T.set k (y, L)).length 0 (by omega)
  simp only [List.drop_zero, List.take_zero] at hs hj
  have hc := count_le (T.set k (y, L))
  unfold threadC
  rw [if_neg (by omega), if_pos (by simpa [labelsOf] using hs), ends_made hn' hl hi]
  simpa using hj

end Go.Proofs.YtfgnogdlkhagdaaDoor
