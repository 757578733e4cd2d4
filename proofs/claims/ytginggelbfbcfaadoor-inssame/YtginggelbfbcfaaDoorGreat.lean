/-
  What the statements' own word for 'too great an instruction' returns: whether it has more than 6 labels, or a text of more than 60 bytes. Nothing that was in memory turns. Conditions: its labels are a slice of texts in memory; no text is greater than a machine can hold.
-/
import Derived.Test.YtginggelbfbcfaaDoorRefIns
namespace Go.Proofs.YtginggelbfbcfaaDoor
open Go.RowKit
set_option linter.unusedVariables false
set_option linter.unusedSimpArgs false

/-- A slice of texts in memory. -/
def TextsIn (w : World) (v : Value) (L : List ByteArray) : Prop :=
  ∃ (p : Option Addr) (cap : Nat), v = .slice p L.length cap ∧ L.length ≤ cap ∧ cap ≤ maxLen ∧ (∀ t ∈ L, t.size ≤ maxLen) ∧
    (L ≠ [] → ∃ g o, p = some ⟨g, o, none⟩ ∧ ∀ i t, L[i]? = some t → w.cell? ⟨g, o + i, none⟩ = some (.string t))

theorem TextsIn.later {w w' : World} {v : Value} {L : List ByteArray} (h : TextsIn w v L) (hl : Later w w') : TextsIn w' v L := by
  obtain ⟨p, cap, rfl, h1, h2, h3, h4⟩ := h
  refine ⟨p, cap, rfl, h1, h2, h3, fun hn => ?_⟩
  obtain ⟨g, o, rfl, h5⟩ := h4 hn
  exact ⟨g, o, rfl, fun i t ht => cell_later (h5 i t ht) hl⟩

def greatF (x : Ins) (L : List ByteArray) : Bool := decide (6 < L.length) || decide (60 < x.dest.size) || L.any (fun t => decide (60 < t.size))

set_option maxRecDepth 1000000 in
set_option maxHeartbeats 4000000 in
theorem great_any (x : Ins) (L : List ByteArray) (w : World) (hd : x.dest.size ≤ maxLen) (hL : TextsIn w x.labels L) :
    Calls Tryd.prog 8 #[x.val] w fun e w' => e = .returned (.bool (greatF x L)) ∧ Later w w' := by
  obtain ⟨op, lock, cond, ⟨ak, ar, ay, an⟩, ⟨bk, br, bs, bn⟩, dest, lb⟩ := x
  unfold Ins.val Ins.cells greatF
  dsimp only at *
  have LL := Later.alloc (Later.refl w) (.cells #[.int .i64 op, .bool lock, .int .i64 cond, .int .i64 ak, .int .i64 ar, .int .i64 ay, .int .i64 an, .int .i64 bk, .int .i64 br, .int .i64 bs, .int .i64 bn, .string dest, lb] 26)
  have HB := at_new w (.cells #[.int .i64 op, .bool lock, .int .i64 cond, .int .i64 ak, .int .i64 ar, .int .i64 ay, .int .i64 an, .int .i64 bk, .int .i64 br, .int .i64 bs, .int .i64 bn, .string dest, lb] 26)
  obtain ⟨p, cap, rfl, h1, h2, h3, h4⟩ := hL.later LL
  clear hL
  unfold maxLen at hd h2 h3
  go_enter Tryd.func8, Tryd.ntmps8
  go_upto_region 1 with (fail)
  obtain ⟨b0, b1, b2, b3, b4, b5, b6, b7, b8, b9, b10, b11, b12⟩ := box13_facts HB
  generalize w.alloc (.cells #[.int .i64 op, .bool lock, .int .i64 cond, .int .i64 ak, .int .i64 ar, .int .i64 ay, .int .i64 an, .int .i64 bk, .int .i64 br, .int .i64 bs, .int .i64 bn, .string dest, .slice p L.length cap] 26) = W at *
  by_cases h6 : 6 < L.length
  · go_wp2
    all_goals go_ret
    all_goals first | exact ⟨ret_bool (by simp [h6]), LL⟩ | (exfalso; omega)
  by_cases h60 : 60 < dest.size
  · go_wp2
    all_goals go_ret
    all_goals first | exact ⟨ret_bool (by simp [h60]), LL⟩ | (exfalso; omega)
  go_wp2
  go_loop [3] (fun i => ∃ k : Nat, k ≤ L.length ∧ i = .int .i64 k ∧ ∀ j t, j < k → L[j]? = some t → t.size ≤ 60) (fun i => L.length - (intOf i).toNat)
  case atStart => exact ⟨0, Nat.zero_le _, rfl, fun j t hj => by omega⟩
  case round =>
    obtain ⟨k, hk, rfl, hp⟩ := hrel
    by_cases hlt : k < L.length
    · obtain ⟨g, o, rfl, h5⟩ := h4 (by rintro rfl; simp at hlt)
      obtain ⟨t, hkt⟩ : ∃ t, L[k]? = some t := ⟨_, List.getElem?_eq_getElem hlt⟩
      have hc := h5 k t hkt
      have HE : Hid (L[k]? = some t) := hkt
      have HM : Hid (t ∈ L) := List.mem_of_getElem? hkt
      have ht := h3 t HM.out
      have HP : Hid (∀ j t, j < k → L[j]? = some t → t.size ≤ 60) := hp
      clear hkt h5 h4 h3 hp
      by_cases h61 : 60 < t.size
      · go_wp2
        all_goals go_ret
        all_goals first | exact ⟨ret_bool (by simp [h6, h60]; exact ⟨t, HM.out, h61⟩), LL⟩ | (exfalso; omega)
      · go_wp2
        go_round
        case rel => exact ⟨k + 1, by omega, by go_num, fun j u hj hu => by
          rcases Nat.lt_succ_iff_lt_or_eq.1 hj with h | rfl
          · exact HP.out j u h hu
          · rw [HE.out] at hu; cases hu; omega⟩
        case measure => simp [intOf]; omega
    · have hall : ∀ t ∈ L, t.size ≤ 60 := fun t ht => by
        obtain ⟨j, hj, rfl⟩ := List.getElem_of_mem ht
        exact hp j _ (by omega) (List.getElem?_eq_getElem hj)
      go_wp2
      all_goals go_ret
      all_goals exact ⟨ret_bool (by simp [h6, h60]; exact hall), LL⟩

end Go.Proofs.YtginggelbfbcfaaDoor
