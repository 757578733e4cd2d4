/-
  The made programs, as their readers find them; how long their texts are at most. Conditions: as each theorem names them.
-/
import Derived.Test.YtegogmbcjjjjjaaDoorMadeValid
import Derived.Test.YtegogmbcjjjjjaaDoorShowSize
namespace Go.Proofs.YtegogmbcjjjjjaaDoor
open Go.RowKit
set_option linter.unusedVariables false
set_option linter.unusedSimpArgs false

theorem made_row {w : World} {N mn t : Nat} {l : List (List Act5)} {tv : Value} {vs : List Value} {P : List Thr} (htl : t ≤ l.length) (ho : w.ownsRow N 34 1 tv t (flatC oneV vs)) (h : MadeThrs w N mn l t vs P) : ThrRow w tv P := by
  obtain ⟨a, cap, rfl, hrow⟩ := crow_of_owns (by rw [flatC_length oneV 1 oneV_len, h.vlen]) ho
  obtain ⟨h1, h2⟩ := owns_cap ho
  refine ⟨a, cap, by rw [h.plen], by rw [h.plen]; exact h1, h2, fun hne => ?_⟩
  have hpos : 0 < P.length := by
    rcases Nat.eq_zero_or_pos P.length with h' | h'
    · exact absurd (List.length_eq_zero_iff.1 h') hne
    · exact h'
  have hv0 : 0 < vs.length := by rw [h.vlen, ← h.plen]; exact hpos
  obtain ⟨g, rfl⟩ := CRow.some oneV_len (by omega) hrow (i := 0) (x := vs[0]) (List.getElem?_eq_getElem hv0)
  refine ⟨g, 0, rfl, fun i T hT => ?_⟩
  have hi : i < P.length := (List.getElem?_eq_some_iff.1 hT).1
  have hiv : i < vs.length := by rw [h.vlen, ← h.plen]; exact hi
  have hil : i < l.length := by rw [h.plen] at hi; omega
  have hm := h.each i vs[i] T l[i] (List.getElem?_eq_getElem hiv) hT (List.getElem?_eq_getElem hil)
  refine ⟨[vs[i]], ⟨vs[i], rfl, hm.own.insRow⟩, fun j c hj => ?_⟩
  have hj1 : j < 1 := (List.getElem?_eq_some_iff.1 hj).1
  have := CRow.cell oneV_len hrow (List.getElem?_eq_getElem hiv) hj1 hj
  rwa [Nat.zero_add]

theorem insOf_short (x : Act5) (many : Nat) : (insOf x many).dest.size ≤ 3 := by
  have z : (⟨#[]⟩ : ByteArray).size ≤ 3 := by decide
  have l : ∀ i, (labelT i).size ≤ 3 := fun i => Nat.le_refl 3
  unfold insOf
  split
  all_goals first | exact z | exact l _

theorem made_each {acts : List Act5} {n : Nat} {m : Nat → Bool} {T : Thr} (h : IsThr (rawL acts n) m T) : ∀ x ∈ T, x.1.dest.size ≤ 3 ∧ x.2.length ≤ 1 ∧ ∀ t ∈ x.2, ∃ k, t = labelT k := by
  intro x hx
  obtain ⟨k, hk, rfl⟩ := List.getElem_of_mem hx
  obtain ⟨r, hr⟩ : ∃ r, (rawL acts n)[k]? = some r := ⟨_, List.getElem?_eq_getElem (by rw [← h.len]; exact hk)⟩
  have h2 := (h.is k (T[k]).1 (T[k]).2 r (List.getElem?_eq_getElem hk) hr).2
  have hd := dest_of h (x := (T[k]).1) (L := (T[k]).2) (List.getElem?_eq_getElem hk) hr
  refine ⟨?_, ?_, ?_⟩
  · rw [hd]
    rcases raw_mem hr with ⟨a, rfl⟩ | rfl
    · exact insOf_short a (n + 1)
    · exact Nat.zero_le _
  · rw [h2]; split <;> simp
  · rw [h2]
    split
    · intro t ht; simp at ht; exact ⟨k, ht⟩
    · simp

theorem made_thr {w : World} {N mn t : Nat} {l : List (List Act5)} {vs : List Value} {P : List Thr} (htl : t ≤ l.length) (h : MadeThrs w N mn l t vs P) {T : Thr} (hT : T ∈ P) : ∃ v acts, MadeThr w N mn acts v T := by
  obtain ⟨i, hi, rfl⟩ := List.getElem_of_mem hT
  have hiv : i < vs.length := by rw [h.vlen, ← h.plen]; exact hi
  have hil : i < l.length := by rw [h.plen] at hi; omega
  exact ⟨_, _, h.each i vs[i] P[i] l[i] (List.getElem?_eq_getElem hiv) (List.getElem?_eq_getElem hi) (List.getElem?_eq_getElem hil)⟩

theorem made_small {w : World} {N mn t b : Nat} {l : List (List Act5)} {vs : List Value} {P : List Thr} (hmn : mn ≤ 90) (ht : t ≤ 60) (htl : t ≤ l.length) (h : MadeThrs w N mn l t vs P) : SmallP (xyz b) P := by
  have z : ∀ n : Int, n = 0 ∨ n = 1 ∨ n = 2 → I64 n := fun n hn => by unfold I64; omega
  have hs : ∀ s ∈ xyz b, s.1.name.size = 1 ∧ (s.1.size = 1 ∨ s.1.size = 2) ∧ s.2.length ≤ 1 ∧ ∀ n ∈ s.2, n = 0 ∨ n = 1 := by
    intro s hs
    simp only [xyz, List.mem_cons, List.not_mem_nil, or_false] at hs
    rcases hs with rfl | rfl | rfl
    · exact ⟨rfl, Or.inl rfl, by simp, by simp⟩
    · exact ⟨rfl, Or.inr rfl, by simp, by simp⟩
    · exact ⟨rfl, Or.inl rfl, by simp, by simp⟩
  have hx : ∀ T ∈ P, ∀ x ∈ T, x.1.dest.size ≤ 3 ∧ x.2.length ≤ 1 ∧ ∀ t ∈ x.2, ∃ k, t = labelT k := fun T hT => by
    obtain ⟨v, acts, hm⟩ := made_thr htl h hT
    exact made_each hm.is
  refine ⟨by show 3 ≤ 66; omega, fun s h => by have := (hs s h).1; omega, fun s h => z _ (by have := (hs s h).2.1; omega), fun s h => by have := (hs s h).2.2.1; omega, fun s h n hn => z _ (by have := (hs s h).2.2.2 n hn; omega),
    by rw [h.plen]; omega, fun T hT => ?_, fun T hT => ?_, fun T hT x hxx => by have := (hx T hT x hxx).1; omega, fun T hT x hxx => by have := (hx T hT x hxx).2.1; omega, fun T hT x hxx t ht => ?_⟩
  · obtain ⟨v, acts, hm⟩ := made_thr htl h hT
    have h1 := hm.is.len
    rw [rawL_length (Nat.min_le_left _ _)] at h1
    have : min acts.length mn ≤ mn := Nat.min_le_right _ _
    omega
  · obtain ⟨v, acts, hm⟩ := made_thr htl h hT
    exact hm.own.insRow.ok
  · obtain ⟨k, rfl⟩ := (hx T hT x hxx).2.2 t ht
    show 3 ≤ 60
    omega

end Go.Proofs.YtegogmbcjjjjjaaDoor
