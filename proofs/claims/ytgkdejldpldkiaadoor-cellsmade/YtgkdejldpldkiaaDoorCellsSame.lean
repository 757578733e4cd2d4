/-
  Whether two rows of numbers are one: what the statements' SameCells returns. Nothing that was in memory turns. Conditions: both rows lie in memory.
-/
import Derived.Test.YtgkdejldpldkiaaDoorJi
import Derived.Test.YtgkdejldpldkiaaDoorJh
import Derived.BigQuiet
namespace Go.Proofs.YtgkdejldpldkiaaDoor
open Go.RowKit
set_option linter.unusedVariables false
set_option linter.unusedSimpArgs false

theorem take_next1 {α : Type} {L : List α} {k : Nat} {t : α} (h : L[k]? = some t) : L.take (k + 1) = L.take k ++ [t] := by
  rw [List.take_add_one, h]; rfl

set_option maxRecDepth 1000000 in
set_option maxHeartbeats 1000000 in
theorem sameCells_any (u v : Value) (L M : List Int) (w : World) (hL : IntsIn w u L) (hM : IntsIn w v M) :
    Calls Tryd.prog 49 #[u, v] w fun e w' => e = .returned (.bool (decide (L = M))) ∧ Later w w' := by
  obtain ⟨p, cap, rfl, h1, h2⟩ := hL.slice
  obtain ⟨q, dap, rfl, k1, k2⟩ := hM.slice
  unfold maxLen at h2 k2
  have HL : Hid (IntsIn w (.slice p L.length cap) L) := hL
  have HM : Hid (IntsIn w (.slice q M.length dap) M) := hM
  clear hL hM
  by_cases hlen : L.length = M.length
  · have e0 : ((L.length : Int) != (M.length : Int)) = false := by simp; omega
    have HLM : Hid (L.length = M.length) := hlen
    clear hlen
    go_enter Tryd.func49, Tryd.ntmps49
    go_wp2
    go_loopw [5] (fun i wr => ∃ k : Nat, i = .int .i64 k ∧ k ≤ L.length ∧ L.take k = M.take k ∧ Later w wr) (fun i _ => L.length - (intOf i).toNat)
    case atStart => exact ⟨0, rfl, Nat.zero_le _, by simp, Later.refl _⟩
    case round =>
      obtain ⟨k, rfl, hk, hT, hlw⟩ := hrel
      have HT : Hid (L.take k = M.take k) := hT
      clear hT
      by_cases hlt : k < L.length
      · have hlm := HLM.out
        obtain ⟨s, hs⟩ : ∃ s, L[k]? = some s := ⟨_, List.getElem?_eq_getElem hlt⟩
        obtain ⟨t, ht⟩ : ∃ t, M[k]? = some t := ⟨_, List.getElem?_eq_getElem (by omega)⟩
        obtain ⟨g, o, rfl, -, hc0⟩ := IntsIn.get HL.out hs
        obtain ⟨g', o', rfl, -, kc0⟩ := IntsIn.get HM.out ht
        have hc := cell_later hc0 hlw
        have kc := cell_later kc0 hlw
        have HS : Hid (L[k]? = some s) := hs
        have HU : Hid (M[k]? = some t) := ht
        have n0 : (0 : Int) ≤ k := by omega
        have n1 : (k : Int) < (L.length : Int) := by omega
        have n2 : (k : Int) < (M.length : Int) := by omega
        clear hs ht hc0 kc0 HL HM hlm
        rcases Decidable.em (s = t) with rfl | hne
        · have hb : (s != s) = false := by simp
          go_upto_region 6 with (fail)
          go_quiet (fail)
          have hq := Later.drewN hlw nq
          go_wp2
          go_roundw
          case rel => exact ⟨k + 1, by go_num, by omega, by rw [take_next1 HS.out, take_next1 HU.out, HT.out], hq⟩
          case measure => simp [intOf]; omega
        · have hb : (s != t) = true := by simpa using hne
          go_upto_region 6 with (fail)
          go_quiet (fail)
          have hq := Later.drewN hlw nq
          go_wp2
          go_ret
          refine ⟨ret_bool ?_, hq⟩
          symm
          rw [decide_eq_false_iff_not]
          rintro rfl
          exact hne (Option.some.inj (HS.out.symm.trans HU.out))
      · go_wp2
        go_ret
        refine ⟨ret_bool ?_, hlw⟩
        symm
        rw [decide_eq_true_eq]
        have := HT.out
        rwa [List.take_of_length_le (by omega), List.take_of_length_le (by have := HLM.out; omega)] at this
  · have e0 : ((L.length : Int) != (M.length : Int)) = true := by simp; omega
    go_enter Tryd.func49, Tryd.ntmps49
    go_wp2
    go_ret
    refine ⟨ret_bool ?_, Later.refl _⟩
    symm
    rw [decide_eq_false_iff_not]
    rintro rfl
    exact hlen rfl

end Go.Proofs.YtgkdejldpldkiaaDoor
