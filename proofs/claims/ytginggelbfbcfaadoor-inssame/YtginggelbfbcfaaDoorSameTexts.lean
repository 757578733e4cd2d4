/-
  What the document's own comparison of two slices of texts, and the library's slices.Equal, return: whether they are the same, text by text. Nothing that was in memory turns. Conditions: both are slices of texts in memory.
-/
import Derived.Test.YtginggelbfbcfaaDoorGreat
namespace Go.Proofs.YtginggelbfbcfaaDoor
open Go.RowKit
set_option linter.unusedVariables false
set_option linter.unusedSimpArgs false

theorem take_next {L : List ByteArray} {k : Nat} {t : ByteArray} (h : L[k]? = some t) : L.take (k + 1) = L.take k ++ [t] := by
  rw [List.take_add_one, h]; rfl

theorem bytes_ne {s t : ByteArray} (h : s ≠ t) : (s.toList != t.toList) = true := by
  simp only [bne_iff_ne, ne_eq]
  intro e
  rw [ByteArray.toList_eq, ByteArray.toList_eq] at e
  exact h (ByteArray.ext (Array.toList_inj.1 e))

set_option maxRecDepth 1000000 in
set_option maxHeartbeats 4000000 in
theorem refSameTexts_any (u v : Value) (L M : List ByteArray) (w : World) (hL : TextsIn w u L) (hM : TextsIn w v M) :
    Calls Tryd.prog 39 #[u, v] w fun e w' => e = .returned (.bool (decide (L = M))) ∧ Later w w' := by
  obtain ⟨p, cap, rfl, h1, h2, h3, h4⟩ := hL
  obtain ⟨q, dap, rfl, k1, k2, k3, k4⟩ := hM
  unfold maxLen at h2 k2
  clear h3 k3
  by_cases hlen : L.length = M.length
  · have e0 : ((L.length : Int) != (M.length : Int)) = false := by simp; omega
    have hI : (M.length : Int) = (L.length : Int) := by omega
    have HH4 : Hid (L ≠ [] → ∃ g o, p = some ⟨g, o, none⟩ ∧ ∀ i t, L[i]? = some t → w.cell? ⟨g, o + i, none⟩ = some (.string t)) := h4
    have HK4 : Hid (M ≠ [] → ∃ g o, q = some ⟨g, o, none⟩ ∧ ∀ i t, M[i]? = some t → w.cell? ⟨g, o + i, none⟩ = some (.string t)) := k4
    have HLM : Hid (L.length = M.length) := hlen
    clear h4 k4 hlen hI
    go_enter Tryd.func39, Tryd.ntmps39
    go_wp2
    go_loopw [5] (fun i wr => ∃ k : Nat, i = .int .i64 k ∧ k ≤ L.length ∧ L.take k = M.take k ∧ Later w wr) (fun i _ => L.length - (intOf i).toNat)
    case atStart => exact ⟨0, rfl, Nat.zero_le _, by simp, Later.refl _⟩
    case round =>
      obtain ⟨k, rfl, hk, hT, hlw⟩ := hrel
      have HT : Hid (L.take k = M.take k) := hT
      clear hT
      by_cases hlt : k < L.length
      · obtain ⟨g, o, rfl, h5⟩ := HH4.out (by rintro rfl; simp at hlt)
        have hlm := HLM.out
        obtain ⟨g', o', rfl, k5⟩ := HK4.out (by intro h0; rw [h0, List.length_nil] at hlm; omega)
        obtain ⟨s, hs⟩ : ∃ s, L[k]? = some s := ⟨_, List.getElem?_eq_getElem hlt⟩
        obtain ⟨t, ht⟩ : ∃ t, M[k]? = some t := ⟨_, List.getElem?_eq_getElem (by omega)⟩
        have hc := cell_later (h5 k s hs) hlw
        have kc := cell_later (k5 k t ht) hlw
        have HS : Hid (L[k]? = some s) := hs
        have HU : Hid (M[k]? = some t) := ht
        have n0 : (0 : Int) ≤ k := by omega
        have n1 : (k : Int) < (L.length : Int) := by omega
        have n2 : (k : Int) < (M.length : Int) := by omega
        clear hs ht h5 k5 HH4 HK4 hlm
        rcases Decidable.em (s = t) with rfl | hne
        · go_upto_region 6 with (fail)
          go_quiet (fail)
          have hq := Later.drewN hlw nq
          go_wp2
          go_roundw
          case rel => exact ⟨k + 1, by go_num, by omega, by rw [take_next HS.out, take_next HU.out, HT.out], hq⟩
          case measure => simp [intOf]; omega
        · have hb : (s.toList == t.toList) = false := by have := bytes_ne hne; simpa using this
          go_upto_region 6 with (fail)
          go_quiet (fail)
          have hq := Later.drewN hlw nq
          go_wp2
          go_ret
          refine ⟨ret_bool ?_, hq⟩
          symm
          rw [decide_eq_false_iff_not]
          rintro rfl
          exact hne (Option.some.inj (HS.out.symm.trans HU.out))
      · go_wp2
        go_ret
        refine ⟨ret_bool ?_, hlw⟩
        symm
        rw [decide_eq_true_eq]
        have := HT.out
        rwa [List.take_of_length_le (by omega), List.take_of_length_le (by have := HLM.out; omega)] at this
  · have e0 : ((L.length : Int) != (M.length : Int)) = true := by simp; omega
    clear h4 k4
    go_enter Tryd.func39, Tryd.ntmps39
    go_wp2
    go_ret
    refine ⟨ret_bool ?_, Later.refl _⟩
    symm
    rw [decide_eq_false_iff_not]
    rintro rfl
    exact hlen rfl

set_option maxRecDepth 1000000 in
set_option maxHeartbeats 4000000 in
theorem slicesEqual_any (u v : Value) (L M : List ByteArray) (w : World) (hL : TextsIn w u L) (hM : TextsIn w v M) :
    Calls Tryd.prog 38 #[u, v] w fun e w' => e = .returned (.bool (decide (L = M))) ∧ Later w w' := by
  obtain ⟨p, cap, rfl, h1, h2, h3, h4⟩ := hL
  obtain ⟨q, dap, rfl, k1, k2, k3, k4⟩ := hM
  unfold maxLen at h2 k2
  clear h3 k3
  by_cases hlen : L.length = M.length
  · have e0 : ((L.length : Int) != (M.length : Int)) = false := by simp; omega
    have hI : (M.length : Int) = (L.length : Int) := by omega
    have HH4 : Hid (L ≠ [] → ∃ g o, p = some ⟨g, o, none⟩ ∧ ∀ i t, L[i]? = some t → w.cell? ⟨g, o + i, none⟩ = some (.string t)) := h4
    have HK4 : Hid (M ≠ [] → ∃ g o, q = some ⟨g, o, none⟩ ∧ ∀ i t, M[i]? = some t → w.cell? ⟨g, o + i, none⟩ = some (.string t)) := k4
    have HLM : Hid (L.length = M.length) := hlen
    clear h4 k4 hlen hI
    go_enter Tryd.func38, Tryd.ntmps38
    go_wp2
    go_loopw [13] (fun i wr => ∃ k : Nat, i = .int .i64 k ∧ k ≤ L.length ∧ L.take k = M.take k ∧ Later w wr) (fun i _ => L.length - (intOf i).toNat)
    case atStart => exact ⟨0, rfl, Nat.zero_le _, by simp, Later.refl _⟩
    case round =>
      obtain ⟨k, rfl, hk, hT, hlw⟩ := hrel
      have HT : Hid (L.take k = M.take k) := hT
      clear hT
      by_cases hlt : k < L.length
      · obtain ⟨g, o, rfl, h5⟩ := HH4.out (by rintro rfl; simp at hlt)
        have hlm := HLM.out
        obtain ⟨g', o', rfl, k5⟩ := HK4.out (by intro h0; rw [h0, List.length_nil] at hlm; omega)
        obtain ⟨s, hs⟩ : ∃ s, L[k]? = some s := ⟨_, List.getElem?_eq_getElem hlt⟩
        obtain ⟨t, ht⟩ : ∃ t, M[k]? = some t := ⟨_, List.getElem?_eq_getElem (by omega)⟩
        have hc := cell_later (h5 k s hs) hlw
        have kc := cell_later (k5 k t ht) hlw
        have HS : Hid (L[k]? = some s) := hs
        have HU : Hid (M[k]? = some t) := ht
        have n0 : (0 : Int) ≤ k := by omega
        have n1 : (k : Int) < (L.length : Int) := by omega
        have n2 : (k : Int) < (M.length : Int) := by omega
        clear hs ht h5 k5 HH4 HK4 hlm
        rcases Decidable.em (s = t) with rfl | hne
        · go_upto_region 6 with (fail)
          go_quiet (fail)
          have hq := Later.drewN hlw nq
          go_wp2
          go_roundw
          case rel => exact ⟨k + 1, by go_num, by omega, by rw [take_next HS.out, take_next HU.out, HT.out], hq⟩
          case measure => simp [intOf]; omega
        · have hb : (s.toList == t.toList) = false := by have := bytes_ne hne; simpa using this
          go_upto_region 6 with (fail)
          go_quiet (fail)
          have hq := Later.drewN hlw nq
          go_wp2
          go_ret
          refine ⟨ret_bool ?_, hq⟩
          symm
          rw [decide_eq_false_iff_not]
          rintro rfl
          exact hne (Option.some.inj (HS.out.symm.trans HU.out))
      · go_wp2
        go_ret
        refine ⟨ret_bool ?_, hlw⟩
        symm
        rw [decide_eq_true_eq]
        have := HT.out
        rwa [List.take_of_length_le (by omega), List.take_of_length_le (by have := HLM.out; omega)] at this
  · have e0 : ((L.length : Int) != (M.length : Int)) = true := by simp; omega
    clear h4 k4
    go_enter Tryd.func38, Tryd.ntmps38
    go_wp2
    go_ret
    refine ⟨ret_bool ?_, Later.refl _⟩
    symm
    rw [decide_eq_false_iff_not]
    rintro rfl
    exact hlen rfl

end Go.Proofs.YtginggelbfbcfaaDoor
