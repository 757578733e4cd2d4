/-
  The programs that the statements' own maker makes may be. Nothing runs here. Conditions: at most 60 threads of at most 91 instructions.
-/
import Derived.Test.YtegogmbcjjjjjaaDoorBookProgPlain
import Derived.Test.YtegogmbcjjjjjaaDoorJj
namespace Go.Proofs.YtegogmbcjjjjjaaDoor
open Go.RowKit
set_option linter.unusedVariables false
set_option linter.unusedSimpArgs false

theorem label_apart : ∀ i j : Fin 100, (labelT i.1).data.toList = (labelT j.1).data.toList → i = j := by decide +kernel

theorem label_inj {i j : Nat} (hi : i < 100) (hj : j < 100) (h : labelT i = labelT j) : i = j := by
  have := label_apart ⟨i, hi⟩ ⟨j, hj⟩ (by rw [h])
  simpa using this

theorem mem_none {S : Syms} {o : Opd} (h : memF o = false) : memC S o = 0 := by simp [memC, h]

theorem mem_made (b : Nat) (k : Int) : memC (xyz b) (memoryO k) = 0 := by
  have h := pick_bounds k 60 (by omega)
  have hm := (memory_right k).2
  have hs : (memoryO k).sym = pick k 60 / 5 % 3 := by unfold memoryO; split <;> rfl
  have hn : (memoryO k).kind = 3 → (memoryO k).n = pick k 60 % 5 % (if pick k 60 / 5 % 3 = 1 then 2 else 1) := by
    unfold memoryO
    split
    · intro h; cases h
    · intro _; rfl
  unfold memC
  rw [hm]
  simp only [Bool.true_eq_false, if_false]
  rw [if_neg (by rw [hs]; show ¬ (3 : Int) ≤ _; omega), if_neg]
  rintro ⟨h3, h4⟩
  rw [hn h3, hs] at h4
  have e : sizeAt (xyz b) (pick k 60 / 5 % 3) = if pick k 60 / 5 % 3 = 1 then 2 else 1 := by
    obtain h0 | h0 | h0 : pick k 60 / 5 % 3 = 0 ∨ pick k 60 / 5 % 3 = 1 ∨ pick k 60 / 5 % 3 = 2 := by omega
    all_goals rw [h0]; rfl
  rw [e] at h4
  split at h4 <;> omega

theorem reg_none (k : Int) : memF (registerO k) = false := by simp [registerO, memF]
theorem plain_none (k n : Int) : memF (plainO k n) = false := by
  unfold plainO
  split
  · exact reg_none _
  · simp [memF]
theorem zero_none : memF zeroO = false := rfl

theorem ops_made (b : Nat) (x : Act5) (many : Nat) (hm : 0 < many ∧ many ≤ 100) : opsC (xyz b) (insOf x many) = 0 := by
  have hr := insOf_right x many hm
  have ha : memC (xyz b) (insOf x many).a = 0 ∧ memC (xyz b) (insOf x many).b = 0 := by
    have r := fun k => mem_none (S := xyz b) (reg_none k)
    have p := fun k => mem_none (S := xyz b) (plain_none k x.n)
    have m := fun k => mem_made b k
    have z := mem_none (S := xyz b) zero_none
    unfold insOf
    split
    all_goals first
      | exact ⟨r _, p _⟩ | exact ⟨r _, m _⟩ | exact ⟨m _, p _⟩ | exact ⟨m _, r _⟩ | exact ⟨z, z⟩
  unfold opsC
  rw [if_pos hr, if_pos ha.1]
  exact ha.2

theorem ops_labels (S : Syms) (x : Ins) (v : Value) : opsC S (withLabels x v) = opsC S x := rfl

theorem raw_mem {acts : List Act5} {n k : Nat} {r : Ins} (h : (rawL acts n)[k]? = some r) : (∃ a, r = insOf a (n + 1 : Nat)) ∨ r = bareIns 14 (.slice none 0 0) := by
  have := List.mem_of_getElem? h
  unfold rawL at this
  rcases List.mem_append.1 this with h | h
  · obtain ⟨a, -, rfl⟩ := List.mem_map.1 h
    exact Or.inl ⟨a, rfl⟩
  · simp at h; exact Or.inr h

theorem ops_raw (b : Nat) {acts : List Act5} {n k : Nat} {r : Ins} (hn : n ≤ 90) (h : (rawL acts n)[k]? = some r) : opsC (xyz b) r = 0 := by
  rcases raw_mem h with ⟨a, rfl⟩ | rfl
  · exact ops_made b a (n + 1) (by omega)
  · rfl

theorem labels_are {R : List Ins} {m : Nat → Bool} {T : Thr} (h : IsThr R m T) {k : Nat} {s : ByteArray} (hs : s ∈ labelsOf (T.take k)) : ∃ j, j < k ∧ j < T.length ∧ m j = true ∧ s = labelT j := by
  obtain ⟨y, hy, hsy⟩ := List.mem_flatMap.1 hs
  obtain ⟨j, hj, rfl⟩ := List.getElem_of_mem hy
  rw [List.length_take] at hj
  have hjT : j < T.length := by omega
  obtain ⟨r, hr⟩ : ∃ r, R[j]? = some r := ⟨_, List.getElem?_eq_getElem (by rw [← h.len]; exact hjT)⟩
  rw [List.getElem_take] at hsy
  have := (h.is j (T[j]).1 (T[j]).2 r (List.getElem?_eq_getElem hjT) hr).2
  rw [this] at hsy
  split at hsy
  · rename_i hm
    simp at hsy
    exact ⟨j, by omega, hjT, hm, hsy⟩
  · simp at hsy

theorem labels_have {R : List Ins} {m : Nat → Bool} {T : Thr} (h : IsThr R m T) {q : Nat} (hq : q < T.length) (hm : m q = true) : hasT (labelT q) (labelsOf T) = true := by
  rw [hasT_iff]
  obtain ⟨r, hr⟩ : ∃ r, R[q]? = some r := ⟨_, List.getElem?_eq_getElem (by rw [← h.len]; exact hq)⟩
  have := (h.is q (T[q]).1 (T[q]).2 r (List.getElem?_eq_getElem hq) hr).2
  rw [hm] at this
  exact List.mem_flatMap.2 ⟨T[q], List.getElem_mem hq, by rw [this]; simp⟩

theorem steps_made (b : Nat) {acts : List Act5} {n : Nat} {m : Nat → Bool} {T : Thr} (hn : n ≤ 90) (hl : (rawL acts n).length = n + 1) (h : IsThr (rawL acts n) m T) : ∀ (d k : Nat), k + d = T.length → stepsC (xyz b) (labelsOf (T.take k)) (T.drop k) = 0
  | 0, k, hk => by rw [List.drop_of_length_le (by omega)]; rfl
  | d + 1, k, hk => by
    obtain ⟨⟨x, L⟩, hx⟩ : ∃ a, T[k]? = some a := ⟨_, List.getElem?_eq_getElem (by omega)⟩
    obtain ⟨r, hr⟩ : ∃ r, (rawL acts n)[k]? = some r := ⟨_, List.getElem?_eq_getElem (by rw [← h.len]; omega)⟩
    have hlen := h.len
    obtain ⟨h1, h2⟩ := h.is k x L r hx hr
    have ho : opsC (xyz b) x = 0 := by
      rw [← ops_labels _ x (.slice none 0 0), h1, ops_labels]
      exact ops_raw b hn hr
    have hlab : labsC (labelsOf (T.take k)) L = 0 := by
      rw [h2]
      split
      · have h3 : labC (labelsOf (T.take k)) (labelT k) = 0 := by
          unfold labC
          rw [label_right ⟨k, by omega⟩]
          have : hasT (labelT k) (labelsOf (T.take k)) = false := by
            cases e : hasT (labelT k) (labelsOf (T.take k)) with
            | false => rfl
            | true =>
              obtain ⟨j, hj, -, -, e'⟩ := labels_are h (hasT_iff.1 e)
              have := label_inj (by omega) (by omega) e'
              omega
          rw [this]
          rfl
        unfold labsC
        rw [if_pos h3]
        rfl
      · rfl
    have hst : stepC (xyz b) (labelsOf (T.take k)) (x, L) = 0 := by
      unfold stepC
      rw [if_pos hlab]
      exact ho
    rw [steps_drop _ T k x L hx, if_pos hst]
    exact steps_made b hn hl h d (k + 1) (by omega)

theorem jump_made {a : Act5} {many : Nat} (hm : 0 < many) (h : jumpsF (insOf a many).op = true) : ∃ q, q < many ∧ (insOf a many).dest = labelT q := by
  have hp := pick_bounds a.a many (by omega)
  have h5 := pick_bounds a.c 5 (by omega)
  have no : ∀ (op : Int) (lock : Bool) (x y : Opd), (op < 10 ∨ 11 < op) → jumpsF (twoI op lock x y).op = true → False := fun op lock x y ho hj => by
    have hj' : op = 10 ∨ op = 11 := by
      have := hj
      unfold twoI jumpsF at this
      simpa using this
    omega
  unfold insOf at h ⊢
  split at h
  all_goals first
    | exact ⟨(pick a.a many).toNat, by omega, rfl⟩
    | exact (no _ _ _ _ (by omega) h).elim

theorem jumps_made {acts : List Act5} {n : Nat} {T : Thr} (hl : (rawL acts n).length = n + 1) (hn : n ≤ acts.length) (h : IsThr (rawL acts n) (jumped (rawL acts n) n) T) : ∀ (d k : Nat), k + d = T.length → jumpsC (labelsOf T) (T.drop k) = 0
  | 0, k, hk => by rw [List.drop_of_length_le (by omega)]; rfl
  | d + 1, k, hk => by
    obtain ⟨⟨x, L⟩, hx⟩ : ∃ a, T[k]? = some a := ⟨_, List.getElem?_eq_getElem (by omega)⟩
    obtain ⟨r, hr⟩ : ∃ r, (rawL acts n)[k]? = some r := ⟨_, List.getElem?_eq_getElem (by rw [← h.len]; omega)⟩
    have hlen := h.len
    have h1 := (h.is k x L r hx hr).1
    have hop : x.op = r.op := by simp only [withLabels, Ins.mk.injEq] at h1; exact h1.1
    have hde := dest_of h hx hr
    rw [jumps_drop _ T k x L hx, if_neg ?_]
    · exact jumps_made hl hn h d (k + 1) (by omega)
    · rintro ⟨hj, hn'⟩
      rw [hop] at hj
      rw [hde] at hn'
      rcases raw_mem hr with ⟨a, rfl⟩ | rfl
      · obtain ⟨q, hq, e⟩ := jump_made (by omega) hj
        have hkn : k < n := by
          rcases Nat.lt_or_ge k n with h | h
          · exact h
          · exfalso
            have hk' : k = n := by
              have := (List.getElem?_eq_some_iff.1 hr).1
              omega
            subst hk'
            unfold rawL at hr
            rw [List.getElem?_append_right (by simp [hn])] at hr
            simp [hn] at hr
            have hj2 : jumpsF (bareIns 14 (.slice none 0 0)).op = true := by rw [hr]; exact hj
            cases hj2
        have hju : jumped (rawL acts n) n q = true := by
          unfold jumped
          rw [List.any_eq_true]
          refine ⟨_, List.mem_of_getElem? (i := k) (by rw [List.getElem?_take, if_pos hkn]; exact hr), ?_⟩
          rw [decide_eq_true_eq]
          exact e
        rw [e, labels_have h (by omega) hju] at hn'
        cases hn'
      · cases hj

theorem ends_made {acts : List Act5} {n : Nat} {m : Nat → Bool} {T : Thr} (hn : n ≤ acts.length) (hl : (rawL acts n).length = n + 1) (h : IsThr (rawL acts n) m T) : endsF T = true := by
  have hlen := h.len
  obtain ⟨⟨x, L⟩, hx⟩ : ∃ a, T[n]? = some a := ⟨_, List.getElem?_eq_getElem (by omega)⟩
  have hr : (rawL acts n)[n]? = some (bareIns 14 (.slice none 0 0)) := by
    unfold rawL
    rw [List.getElem?_append_right (by simp [hn])]
    simp [hn]
  have h1 := (h.is n x L _ hx hr).1
  have hop : x.op = 14 := by simp only [withLabels, Ins.mk.injEq] at h1; exact h1.1
  unfold endsF
  rw [List.getLast?_eq_getElem?, hlen, hl]
  simp [hx, hop]

theorem thread_made (b : Nat) {acts : List Act5} {n : Nat} {T : Thr} (hn : n ≤ acts.length) (h90 : n ≤ 90) (h : IsThr (rawL acts n) (jumped (rawL acts n) n) T) : threadC (xyz b) T = 0 := by
  have hl := rawL_length hn
  have hlen := h.len
  have hs := steps_made b h90 hl h T.length 0 (by omega)
  have hj := jumps_made hl hn h T.length 0 (by omega)
  simp at hs hj
  have hc := count_le T
  unfold threadC
  rw [if_neg (by omega), if_pos (by simpa [labelsOf] using hs), ends_made hn hl h]
  simpa using hj

theorem fine_made {acts : List Act5} {n : Nat} {m : Nat → Bool} {T : Thr} (hn : n ≤ acts.length) (h90 : n ≤ 90) (h : IsThr (rawL acts n) m T) : FineT T := by
  have hl := rawL_length hn
  have hlen := h.len
  have each : ∀ x ∈ T, x.1.dest.size ≤ 1000 ∧ x.2.length ≤ 6 ∧ ∀ t ∈ x.2, t.size ≤ 3 := by
    intro x hx
    obtain ⟨k, hk, rfl⟩ := List.getElem_of_mem hx
    obtain ⟨r, hr⟩ : ∃ r, (rawL acts n)[k]? = some r := ⟨_, List.getElem?_eq_getElem (by rw [← h.len]; exact hk)⟩
    have h2 := (h.is k (T[k]).1 (T[k]).2 r (List.getElem?_eq_getElem hk) hr).2
    have hd := dest_of h (x := (T[k]).1) (L := (T[k]).2) (List.getElem?_eq_getElem hk) hr
    refine ⟨?_, ?_, ?_⟩
    · rw [hd]
      rcases raw_mem hr with ⟨a, rfl⟩ | rfl
      · exact insOf_dest a (n + 1) (by omega)
      · exact Nat.zero_le _
    · rw [h2]; split <;> simp
    · rw [h2]
      split
      · intro t ht; simp at ht; subst ht; exact Nat.le_refl 3
      · simp
  refine ⟨fun x hx => (each x hx).1, fun x hx t ht => by have := (each x hx).2.2 t ht; omega, ?_⟩
  have : ∀ (U : Thr), (∀ x ∈ U, x.2.length ≤ 6) → (labelsOf U).length ≤ 6 * U.length := by
    intro U
    induction U with
    | nil => intro _; simp [labelsOf]
    | cons x r ih =>
      intro hU
      have e : labelsOf (x :: r) = x.2 ++ labelsOf r := by simp [labelsOf]
      have h1 := hU x (List.mem_cons_self ..)
      have h2 := ih (fun y hy => hU y (List.mem_cons_of_mem _ hy))
      rw [e, List.length_append, List.length_cons]
      omega
  have := this T (fun x hx => (each x hx).2.1)
  omega

theorem syms_made (b : Nat) : symsC [] (xyz b) = 0 := by kernel_rfl

theorem threads_zero {S : Syms} : ∀ {P : List Thr}, (∀ T ∈ P, threadC S T = 0) → threadsC S P = 0
  | [], _ => rfl
  | T :: r, h => by
    unfold threadsC
    rw [if_pos (h T (List.mem_cons_self ..))]
    exact threads_zero (fun U hU => h U (List.mem_cons_of_mem _ hU))

/-- What is made may be, and its texts are of a size that is gone through. -/
theorem made_valid {w : World} {N mn t b : Nat} {l : List (List Act5)} {vs : List Value} {P : List Thr} (hmn : mn ≤ 90) (ht : t ≤ 60) (htl : t ≤ l.length) (h : MadeThrs w N mn l t vs P) : checkC (xyz b) P = 0 ∧ FineP (xyz b) P := by
  have each : ∀ T ∈ P, threadC (xyz b) T = 0 ∧ FineT T := by
    intro T hT
    obtain ⟨i, hi, rfl⟩ := List.getElem_of_mem hT
    have hit : i < t := by rw [← h.plen]; exact hi
    have hm := h.each i (vs[i]'(by rw [h.vlen]; exact hit)) (P[i]) (l[i]'(by omega)) (List.getElem?_eq_getElem _) (List.getElem?_eq_getElem hi) (List.getElem?_eq_getElem _)
    have h1 : min (l[i]'(by omega)).length mn ≤ (l[i]'(by omega)).length := Nat.min_le_left _ _
    have h2 : min (l[i]'(by omega)).length mn ≤ 90 := Nat.le_trans (Nat.min_le_right _ _) hmn
    exact ⟨thread_made b h1 h2 hm.is, fine_made h1 h2 hm.is⟩
  refine ⟨?_, ?_, fun T hT => (each T hT).2⟩
  · unfold checkC
    rw [if_neg (by have := h.plen; show ¬ (64 < 3 ∨ 64 < P.length); omega), if_pos (syms_made b)]
    exact threads_zero (fun T hT => (each T hT).1)
  · intro s hs
    simp only [xyz, List.mem_cons, List.not_mem_nil, or_false] at hs
    rcases hs with rfl | rfl | rfl <;> (show 1 ≤ 1000; omega)

end Go.Proofs.YtegogmbcjjjjjaaDoor
