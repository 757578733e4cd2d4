/-
  The document's own Last and SameEntries, over entries in memory. Nothing that was in memory turns. Conditions: none.
-/
import Derived.Test.YtmfifaonbbeebaaRingEq
import Derived.BigQuiet
import Derived.Deep.QuietTactic
namespace Go.Proofs.Ytmfifaonbbeebaa
open Go.RowKit Go.WideShapes
set_option linter.unusedVariables false
set_option linter.unusedSimpArgs false

set_option maxRecDepth 1000000 in
set_option maxHeartbeats 2000000 in
theorem refLast_any (w : World) (v : Value) (L : List (Int × Int)) (a : Int) (h : EntRow w v L) :
    Calls Try.prog 21 #[v, .int .i64 a] w fun e w' => e = .returned (lastV (lastF L a)) ∧ Later w w' := by
  obtain ⟨p, cap, rfl, h1, h2⟩ := h.slice
  unfold maxLen at h2
  have H : Hid (EntRow w (.slice p L.length cap) L) := h
  clear h
  obtain ⟨V, hV⟩ : ∃ V, lastV (lastF L a) = V := ⟨_, rfl⟩
  rw [hV]
  go_enter Try.func21, Try.ntmps21
  go_wp2
  go_loopw [6] (fun vi wr => ∃ z : Int, vi = .int .i64 z ∧ -1 ≤ z ∧ z < L.length ∧ wr = w ∧ lastF (L.take (z + 1).toNat) a = lastF L a) (fun vi _ => (intOf vi + 1).toNat)
  case atStart => exact ⟨(L.length : Int) - 1, rfl, by omega, by omega, rfl, by rw [show ((L.length : Int) - 1 + 1).toNat = L.length by omega, List.take_length]⟩
  case round =>
    obtain ⟨z, rfl, hz1, hz2, rfl, hF⟩ := hrel
    by_cases h8 : 0 ≤ z
    · obtain ⟨k, rfl⟩ : ∃ k : Nat, z = k := ⟨z.toNat, by omega⟩
      rw [show ((k : Int) + 1).toNat = k + 1 by omega] at hF
      obtain ⟨x, hx⟩ : ∃ x, L[k]? = some x := ⟨_, List.getElem?_eq_getElem (by omega)⟩
      obtain ⟨g, o, rfl, x0, x1⟩ := H.out.get hx
      rw [lastF_take hx] at hF
      by_cases hxa : x.1 = a
      · rw [if_pos hxa] at hF
        obtain rfl : Value.tuple #[.int .i64 x.2, .bool true] = V := by rw [← hV, ← hF]; rfl
        have hb : (x.1 == a) = true := by simp [hxa]
        clear H hF
        go_wp2
        go_returns
        exact ⟨rfl, Later.refl _⟩
      · rw [if_neg hxa] at hF
        have hb : (x.1 == a) = false := by simp [hxa]
        clear H
        go_wp2
        go_roundw
        case rel => exact ⟨(k : Int) - 1, rfl, by omega, by omega, (by first | rfl | trivial), by rw [show ((k : Int) - 1 + 1).toNat = k by omega]; exact hF⟩
        case measure => simp [intOf] <;> omega
    · obtain rfl : z = -1 := by omega
      have hF0 : lastF L a = none := by rw [← hF]; rfl
      obtain rfl : Value.tuple #[.int .i64 0, .bool false] = V := by rw [← hV, hF0]; rfl
      clear H hF
      go_wp2
      go_returns
      exact ⟨rfl, Later.refl _⟩

set_option maxRecDepth 1000000 in
set_option maxHeartbeats 2000000 in
theorem sameEnt_any (w : World) (u v : Value) (A B : List (Int × Int)) (hA : EntRow w u A) (hB : EntRow w v B) :
    Calls Try.prog 16 #[u, v] w fun e w' => e = .returned (.bool (decide (A = B))) ∧ Later w w' := by
  obtain ⟨p, cap, rfl, h1, h2⟩ := hA.slice
  obtain ⟨q, caq, rfl, h3, h4⟩ := hB.slice
  unfold maxLen at h2 h4
  have HA : Hid (EntRow w (.slice p A.length cap) A) := hA
  have HB : Hid (EntRow w (.slice q B.length caq) B) := hB
  clear hA hB
  have q1 := ent_guard
  have q2 := fun a b c d w => equal_ent a b c d w
  obtain ⟨d, hd0⟩ : ∃ d, decide (A = B) = d := ⟨_, rfl⟩
  rw [hd0]
  by_cases hl : A.length = B.length
  · rw [hl] at HA h1 ⊢
    go_enter Try.func16, Try.ntmps16
    go_wp2
    go_loopw [5] (fun vi wr => ∃ i : Nat, vi = .int .i64 (i : Nat) ∧ i ≤ B.length ∧ Later w wr ∧ A.take i = B.take i) (fun vi _ => B.length - (intOf vi).toNat)
    case atStart => exact ⟨0, rfl, by omega, Later.refl _, rfl⟩
    case round =>
      obtain ⟨i, rfl, hi, hlw, hF⟩ := hrel
      by_cases h8 : i < B.length
      · obtain ⟨x, hx⟩ : ∃ x, A[i]? = some x := ⟨_, List.getElem?_eq_getElem (by omega)⟩
        obtain ⟨y, hy⟩ : ∃ y, B[i]? = some y := ⟨_, List.getElem?_eq_getElem (by omega)⟩
        obtain ⟨g, o, rfl, x0, x1⟩ := (HA.out.later hlw).get hx
        obtain ⟨g', o', rfl, y0, y1⟩ := (HB.out.later hlw).get hy
        have hd : (A = B) → x = y := fun e => by subst e; rw [hx] at hy; exact Option.some.inj hy
        by_cases hxy : x = y
        · subst hxy
          clear HA HB
          go_wp2
          go_quiet (fail)
          go_wp2
          go_roundw
          case rel => exact ⟨i + 1, by go_num, by omega, Later.drewN hlw _, by rw [List.take_add_one, List.take_add_one, hF, hx, hy]⟩
          case measure => simp [intOf] <;> omega
        · obtain rfl : false = d := by rw [← hd0]; exact (decide_eq_false (fun e => hxy (hd e))).symm
          have hne : ¬ (x.1 = y.1 ∧ x.2 = y.2) := fun ⟨e1, e2⟩ => hxy (Prod.ext e1 e2)
          have hb : ((x.1 == y.1) && (x.2 == y.2)) = false := by simpa using hne
          clear HA HB
          go_wp2
          go_quiet (fail)
          go_wp2
          go_ret
          exact ⟨rfl, Later.drewN hlw _⟩
      · obtain rfl : i = B.length := by omega
        have he : A = B := by rw [← hl, List.take_length, hl, List.take_length] at hF; exact hF
        obtain rfl : true = d := by rw [← hd0]; exact (decide_eq_true he).symm
        clear HA HB
        go_wp2
        go_ret
        exact ⟨rfl, hlw⟩
  · obtain rfl : false = d := by rw [← hd0]; exact (decide_eq_false (fun e => hl (by rw [e]))).symm
    have hl' : ¬ (A.length : Int) = B.length := by omega
    go_enter Try.func16, Try.ntmps16
    go_wp2
    go_ret
    exact ⟨rfl, Later.refl _⟩

end Go.Proofs.Ytmfifaonbbeebaa
