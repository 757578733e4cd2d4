/-
  A made program with one instruction another: it may be still; its text is that of its like just if the two are the same. Conditions: as each theorem names them.
-/
import Derived.Test.YtfgnogdlkhagdaaDoorShowSkel
import Derived.Test.YtfgnogdlkhagdaaDoorSwapValid
import Derived.Test.YtfgnogdlkhagdaaDoorOwnPut
namespace Go.Proofs.YtfgnogdlkhagdaaDoor
open Go.RowKit
set_option linter.unusedVariables false
set_option linter.unusedSimpArgs false

theorem lacks_of_mem {S : Syms} {o : Opd} (h : memC S o = 0) : lacksF o (namesOf S) = false := by
  unfold memC at h
  unfold lacksF namesOf
  rw [List.length_map]
  cases hm : memF o with
  | false => rfl
  | true =>
    rw [hm] at h
    simp only [Bool.true_eq_false, if_false] at h
    split at h
    · cases h
    · rename_i h1
      simpa using h1

theorem ops_parts {S : Syms} {x : Ins} (h : opsC S x = 0) : insF x = 0 ∧ memC S x.a = 0 ∧ memC S x.b = 0 := by
  unfold opsC at h
  split at h
  · rename_i h1
    split at h
    · rename_i h2
      exact ⟨h1, h2, h⟩
    · rename_i h2
      exact absurd h h2
  · rename_i h1
    exact absurd h h1

theorem xyz_names (b : Nat) : namesOf (xyz b) = [⟨#[120]⟩, ⟨#[121]⟩, ⟨#[122]⟩] := rfl
theorem xyz_apart : Apart [⟨#[120]⟩, ⟨#[121]⟩, ⟨#[122]⟩] := by
  have key : ∀ i j : Fin 3, ([⟨#[120]⟩, ⟨#[121]⟩, ⟨#[122]⟩] : List ByteArray)[i.1].data.toList = ([⟨#[120]⟩, ⟨#[121]⟩, ⟨#[122]⟩] : List ByteArray)[j.1].data.toList → i = j := by decide
  refine ⟨fun i j s t hi hj h => ?_, fun s hs => ?_⟩
  · obtain ⟨hi1, rfl⟩ := List.getElem?_eq_some_iff.1 hi
    obtain ⟨hj1, rfl⟩ := List.getElem?_eq_some_iff.1 hj
    have := key ⟨i, hi1⟩ ⟨j, hj1⟩ h
    simpa using this
  · simp only [List.mem_cons, List.not_mem_nil, or_false] at hs
    rcases hs with rfl | rfl | rfl <;> decide
theorem xyz_syms (b b' : Nat) : symsL (xyz b) = symsL (xyz b') := rfl
theorem xyz_same (b b' : Nat) : listEq symEq (xyz b) (xyz b') = true := by
  simp [xyz, listEq, symEq]

/-- Rows of threads of the call's own. -/
theorem thr_row {w : World} {N t : Nat} {tv : Value} {vs : List Value} {P : List Thr} (ho : w.ownsRow N 49 1 tv t (flatC oneV vs)) (hv : vs.length = t) (hp : P.length = t) (he : ∀ (i : Nat) v T, vs[i]? = some v → P[i]? = some T → OwnThr w N v T) : ThrRow w tv P := by
  obtain ⟨a, cap, rfl, hrow⟩ := crow_of_owns (by rw [flatC_length oneV 1 oneV_len, hv]) ho
  obtain ⟨h1, h2⟩ := owns_cap ho
  refine ⟨a, cap, by rw [hp], by rw [hp]; exact h1, h2, fun hne => ?_⟩
  have hpos : 0 < P.length := by
    rcases Nat.eq_zero_or_pos P.length with h' | h'
    · exact absurd (List.length_eq_zero_iff.1 h') hne
    · exact h'
  have hv0 : 0 < vs.length := by omega
  obtain ⟨g, rfl⟩ := CRow.some oneV_len (by omega) hrow (i := 0) (x := vs[0]) (List.getElem?_eq_getElem hv0)
  refine ⟨g, 0, rfl, fun i T hT => ?_⟩
  have hi : i < P.length := (List.getElem?_eq_some_iff.1 hT).1
  have hiv : i < vs.length := by omega
  refine ⟨[vs[i]], ⟨vs[i], rfl, (he i vs[i] T (List.getElem?_eq_getElem hiv) hT).insRow⟩, fun j c hj => ?_⟩
  have hj1 : j < 1 := (List.getElem?_eq_some_iff.1 hj).1
  have := CRow.cell oneV_len hrow (List.getElem?_eq_getElem hiv) hj1 hj
  rwa [Nat.zero_add]

/-- The same acts: the same text, and the same program. -/
theorem same_text {w w' : World} {N N' mn t b b' : Nat} {l : List (List Act5)} {vs vs' : List Value} {P P' : List Thr} (hmn : mn ≤ 90) (ht : t ≤ 60) (htl : t ≤ l.length) (h : MadeThrs w N mn l t vs P) (h' : MadeThrs w' N' mn l t vs' P') :
    progL (xyz b) P = progL (xyz b') P' ∧ progEq (xyz b) P (xyz b') P' = true := by
  have hs := made_alike htl h h'
  have c1 := (made_valid (b := b) hmn ht htl h).1
  have c2 := (made_valid (b := b') hmn ht htl h').1
  refine ⟨?_, ?_⟩
  · rw [progL_yes c1, progL_yes c2, xyz_names, xyz_names, ← thrsL_sk _ P, ← thrsL_sk _ P', hs, xyz_syms b b']
  · unfold progEq
    rw [xyz_same, Bool.true_and, ← thrsEq_sk, hs]
    exact listEq_refl thrEq_refl _

theorem set_mem {α : Type} {l : List α} {i : Nat} {a x : α} (h : x ∈ l.set i a) : x ∈ l ∨ x = a := List.mem_or_eq_of_mem_set h

theorem text_some {S : Syms} {P : List Thr} (hc : checkC S P = 0) (hS : S ≠ []) : progL S P ≠ [] := by
  rw [progL_yes hc]
  obtain ⟨s, S', rfl⟩ := List.exists_cons_of_ne_nil hS
  unfold symsL
  rw [List.flatMap_cons]
  simp [symL]

/-- One instruction another. -/
theorem swap_prog {w w' : World} {N N' mn t b b' k1 k2 : Nat} {l : List (List Act5)} {vs vs' : List Value} {P P' : List Thr} (hmn : mn ≤ 90) (ht : t ≤ 60) (htl : t ≤ l.length) (h : MadeThrs w N mn l t vs P) (h' : MadeThrs w' N' mn l t vs' P')
    {T : Thr} (hT : P'[k1]? = some T) {x y : Ins} {L : List ByteArray} (hx : T[k2]? = some (x, L)) (hk : k2 + 1 < T.length) {a : Act5} (on : I64 a.n) (ha : (insOf a 1).dest = ⟨#[]⟩) (hy : withLabels y (.slice none 0 0) = withLabels (insOf a 1) (.slice none 0 0)) :
    checkC (xyz b') (P'.set k1 (T.set k2 (y, L))) = 0 ∧ FineP (xyz b') (P'.set k1 (T.set k2 (y, L))) ∧ (progL (xyz b') (P'.set k1 (T.set k2 (y, L)))).length ≤ 10000000 ∧
    decide (progL (xyz b) P = progL (xyz b') (P'.set k1 (T.set k2 (y, L)))) = progEq (xyz b) P (xyz b') (P'.set k1 (T.set k2 (y, L))) := by
  have hk1 : k1 < P'.length := (List.getElem?_eq_some_iff.1 hT).1
  have hk1t : k1 < t := by rw [← h'.plen]; exact hk1
  have hv1 : k1 < vs'.length := by rw [h'.vlen]; exact hk1t
  have hl1 : k1 < l.length := by omega
  have hm := (h'.each k1 vs'[k1] T l[k1] (List.getElem?_eq_getElem hv1) hT (List.getElem?_eq_getElem hl1))
  have hi := hm.is
  have hok := hm.own.each
  have hn : min l[k1].length mn ≤ l[k1].length := Nat.min_le_left _ _
  have h90 : min l[k1].length mn ≤ 90 := Nat.le_trans (Nat.min_le_right _ _) hmn
  have hlen := hi.len
  rw [rawL_length hn] at hlen
  have hkn : k2 < min l[k1].length mn := by omega
  have ea : insOf a 1 = insOf a ((min l[k1].length mn + 1 : Nat) : Int) := insOf_many ha _
  have ha' := ha
  rw [ea] at ha' hy
  obtain ⟨v1, v2, v3⟩ := swap_valid b' hn h90 hkn hi hx ha' hy
  have hsm := made_small (b := b') hmn ht htl h'
  have hval := made_valid (b := b') hmn ht htl h'
  have hthr : ∀ U ∈ P', threadC (xyz b') U = 0 ∧ FineT U := fun U hU => by
    obtain ⟨v, acts, hmU⟩ := made_thr htl h' hU
    exact ⟨thread_made b' (Nat.min_le_left _ _) (Nat.le_trans (Nat.min_le_right _ _) hmn) hmU.is, fine_made (Nat.min_le_left _ _) (Nat.le_trans (Nat.min_le_right _ _) hmn) hmU.is⟩
  have hc : checkC (xyz b') (P'.set k1 (T.set k2 (y, L))) = 0 := by
    unfold checkC
    rw [if_neg (by rw [List.length_set, h'.plen]; show ¬ (64 < 3 ∨ 64 < t); omega), syms_made b', if_pos rfl]
    refine threads_zero fun U hU => ?_
    rcases set_mem hU with hU | rfl
    · exact (hthr U hU).1
    · exact v1
  have hf : FineP (xyz b') (P'.set k1 (T.set k2 (y, L))) := ⟨hval.2.syms, fun U hU => by
    rcases set_mem hU with hU | rfl
    · exact (hthr U hU).2
    · exact v2⟩
  have oy : y.Ok := by
    have o1 := insOf_ok a on (min l[k1].length mn + 1)
    have e1 := hy
    simp only [withLabels, Ins.mk.injEq] at e1
    obtain ⟨e1, e2, e3, e4, e5, e6, -⟩ := e1
    exact ⟨by rw [e1]; exact o1.op, by rw [e3]; exact o1.cond, by rw [e4]; exact o1.a, by rw [e5]; exact o1.b, by rw [e6]; exact o1.dest⟩
  have hnew := made_each v3
  have hsm' : SmallP (xyz b') (P'.set k1 (T.set k2 (y, L))) := by
    refine ⟨hsm.syms, hsm.name, hsm.size, hsm.inits, hsm.init, by rw [List.length_set]; exact hsm.thrs, fun U hU => ?_, fun U hU z hz => ?_, fun U hU z hz => ?_, fun U hU z hz => ?_, fun U hU z hz q hq => ?_⟩
    · rcases set_mem hU with hU | rfl
      · exact hsm.inss U hU
      · rw [List.length_set]; omega
    · rcases set_mem hU with hU | rfl
      · exact hsm.ok U hU z hz
      · rcases set_mem hz with hz | rfl
        · exact (hok z hz).1
        · exact oy
    · rcases set_mem hU with hU | rfl
      · exact hsm.dest U hU z hz
      · have := (hnew z hz).1; omega
    · rcases set_mem hU with hU | rfl
      · exact hsm.labs U hU z hz
      · have := (hnew z hz).2.1; omega
    · rcases set_mem hU with hU | rfl
      · exact hsm.lab U hU z hz q hq
      · obtain ⟨j, rfl⟩ := (hnew z hz).2.2 q hq
        show 3 ≤ 60
        omega
  refine ⟨hc, hf, progL_length hsm', ?_⟩
  have hs := made_alike htl h h'
  have c1 := (made_valid (b := b) hmn ht htl h).1
  have hset : skP (P'.set k1 (T.set k2 (y, L))) = (skP P').set k1 ((skT T).set k2 (sk (y, L))) := by
    unfold skP skT
    rw [List.map_set, List.map_set]
  have hR : (skP P')[k1]? = some (skT T) := by unfold skP; rw [List.getElem?_map, hT]; rfl
  have hRx : (skT T)[k2]? = some (withLabels x (.slice none 0 0), L) := by unfold skT; rw [List.getElem?_map, hx]; rfl
  have hrl : k2 < (rawL l[k1] (min l[k1].length mn)).length := by rw [rawL_length hn]; omega
  obtain ⟨r, hr⟩ : ∃ r, (rawL l[k1] (min l[k1].length mn))[k2]? = some r := ⟨_, List.getElem?_eq_getElem hrl⟩
  have hxr := (hi.is k2 x L r hx hr).1
  have opx : opsC (xyz b') (withLabels x (.slice none 0 0)) = 0 := by rw [hxr, ops_labels]; exact ops_raw b' h90 hr
  have opy : opsC (xyz b') (withLabels y (.slice none 0 0)) = 0 := by rw [hy, ops_labels]; exact ops_made b' a (min l[k1].length mn + 1) (by omega)
  obtain ⟨x1, x2, x3⟩ := ops_parts opx
  obtain ⟨y1, y2, y3⟩ := ops_parts opy
  have okx : (withLabels x (.slice none 0 0)).Ok := by
    have := (hok _ (List.mem_of_getElem? hx)).1
    exact ⟨this.op, this.cond, this.a, this.b, this.dest⟩
  have oky : (withLabels y (.slice none 0 0)).Ok := ⟨oy.op, oy.cond, oy.a, oy.b, oy.dest⟩
  have key := one_other (N := namesOf (xyz b')) (by rw [xyz_names]; exact xyz_apart) hR hRx okx oky x1 y1 (lacks_of_mem x2) (lacks_of_mem x3) (lacks_of_mem y2) (lacks_of_mem y3)
  unfold progEq
  rw [xyz_same, Bool.true_and, ← thrsEq_sk, hs, hset]
  show _ = listEq thrEq (skP P') ((skP P').set k1 ((skT T).set k2 (withLabels y (.slice none 0 0), L)))
  rw [← key, progL_yes c1, progL_yes hc, xyz_syms b b', ← thrsL_sk _ P, hs, ← thrsL_sk _ (P'.set k1 (T.set k2 (y, L))), hset, show namesOf (xyz b) = namesOf (xyz b') from rfl]
  rw [decide_eq_decide]
  exact List.append_right_inj _

end Go.Proofs.YtfgnogdlkhagdaaDoor
