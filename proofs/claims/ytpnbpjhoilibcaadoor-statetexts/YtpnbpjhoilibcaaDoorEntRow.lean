/-
  Entries in memory: a row of entries; the newest of an address. Conditions: none.
-/
import Derived.Test.YtpnbpjhoilibcaaDoorRowIn
import Derived.Test.YtpnbpjhoilibcaaDoorPick
import Derived.Deep.AppendLies
import Derived.Deep.CutRange
namespace Go.Proofs.YtpnbpjhoilibcaaDoor
open Go.RowKit
set_option linter.unusedVariables false
set_option linter.unusedSimpArgs false

/-- An entry, its cells, its value. -/
def entC (x : Int × Int) : List Value := [.int .i64 x.1, .int .i64 x.2]
theorem entC_len (x : Int × Int) : (entC x).length = 2 := rfl
def entV (x : Int × Int) : Value := .agg #[.int .i64 x.1, .int .i64 x.2]
def EntE (_ : World) (x : Int × Int) (cs : List Value) : Prop := cs = entC x
def EntRow (w : World) (v : Value) (L : List (Int × Int)) : Prop := RowIn 2 EntE w v L

theorem infoEnt : (Tryd.prog.info? 41).map (fun i => (i.zero, i.size, i.bytes)) = some (some (.agg #[.int .i64 0, .int .i64 0]), 2, 16) := by kernel_rfl

theorem EntRow.kept {w w' : World} {v : Value} {L : List (Int × Int)} (h : EntRow w v L) (hl : CellsKept w w') : EntRow w' v L := RowIn.lift h (fun _ _ _ h => h) hl
theorem EntRow.later {w w' : World} {v : Value} {L : List (Int × Int)} (h : EntRow w v L) (hl : Later w w') : EntRow w' v L := h.kept hl.kept

theorem EntRow.nil (w : World) : EntRow w (.slice none 0 0) [] := ⟨none, 0, rfl, Nat.le_refl _, by unfold maxLen; omega, fun h => absurd rfl h⟩

theorem EntRow.get {w : World} {p : Option Addr} {n cap : Nat} {L : List (Int × Int)} (h : EntRow w (.slice p n cap) L) {i : Nat} {x : Int × Int} (hi : L[i]? = some x) :
    ∃ g o, p = some ⟨g, o, none⟩ ∧ w.cell? ⟨g, o + i * 2, none⟩ = some (.int .i64 x.1) ∧ w.cell? ⟨g, o + i * 2 + 1, none⟩ = some (.int .i64 x.2) := by
  obtain ⟨g, o, cs, rfl, rfl, h4⟩ := RowIn.get h hi
  exact ⟨g, o, rfl, h4 0 _ rfl, h4 1 _ rfl⟩

/-- All entries of a row at once. -/
theorem EntRow.all {w : World} {v : Value} {L : List (Int × Int)} (h : EntRow w v L) : ∃ (p : Option Addr) (cap : Nat), v = .slice p L.length cap ∧ L.length ≤ cap ∧ cap ≤ maxLen ∧
    (L ≠ [] → ∃ g o, p = some ⟨g, o, none⟩ ∧ ∀ j u, (flatC entC L)[j]? = some u → w.cell? ⟨g, o + j, none⟩ = some u) := by
  obtain ⟨p, cap, h0, h1, h2, h3⟩ := h
  refine ⟨p, cap, h0, h1, h2, fun hn => ?_⟩
  obtain ⟨g, o, rfl, h4⟩ := h3 hn
  refine ⟨g, o, rfl, fun j u hj => ?_⟩
  have hlt := (List.getElem?_eq_some_iff.1 hj).1
  rw [flatC_length entC 2 entC_len] at hlt
  have hi : L[j / 2]? = some (L[j / 2]'(by omega)) := List.getElem?_eq_getElem (by omega)
  obtain ⟨cs, rfl, h6⟩ := h4 (j / 2) _ hi
  have hm : j / 2 * 2 + j % 2 = j := by omega
  have h7 := flatC_get entC 2 entC_len L (j / 2) _ hi (j % 2) (by omega)
  rw [hm] at h7
  have h8 := h6 (j % 2) u (by rw [← h7]; exact hj)
  rwa [show o + j / 2 * 2 + j % 2 = o + j by omega] at h8

theorem entC_one (L : List (Int × Int)) : ∀ u ∈ flatC entC L, u.oneCell' = true := by
  intro u hu
  obtain ⟨x, -, hx⟩ := List.mem_flatMap.1 hu
  simp [entC] at hx
  rcases hx with rfl | rfl <;> rfl

theorem EntRow.of_owns {w : World} {base : Nat} {v : Value} {n : Nat} {L : List (Int × Int)} (hn : L.length = n) (h : w.ownsRow base 41 2 v n (flatC entC L)) : EntRow w v L :=
  RowIn.of_owns entC_len (by omega) hn h (fun _ _ => rfl)

/-- What is left of a row behind its first ones. -/
theorem EntRow.drop {w : World} {a : Option Addr} {n cap l : Nat} {pre L : List (Int × Int)} (hl : pre.length = l) (h : EntRow w (.slice a n cap) (pre ++ L)) :
    EntRow w (.slice (if cap = l then a else a.map (·.add (l * 2))) (n - l) (cap - l)) L := by
  subst hl
  obtain ⟨p', cap', h0, h1, h2, h3⟩ := h
  simp only [Value.slice.injEq] at h0
  obtain ⟨rfl, rfl, rfl⟩ := h0
  rw [List.length_append] at h1 ⊢
  refine ⟨_, _, by rw [Nat.add_sub_cancel_left], by omega, by omega, fun hL => ?_⟩
  have hpos : 0 < L.length := List.length_pos_iff.2 hL
  obtain ⟨g, o, rfl, h4⟩ := h3 (by simp [hL])
  rw [if_neg (by omega)]
  refine ⟨g, o + pre.length * 2, by simp [WideShapes.add_plain], fun i x hx => ?_⟩
  obtain ⟨cs, rfl, h6⟩ := h4 (pre.length + i) x (by rw [List.getElem?_append_right (by omega), Nat.add_sub_cancel_left]; exact hx)
  refine ⟨_, rfl, fun j u hj => ?_⟩
  have := h6 j u hj
  rwa [show o + (pre.length + i) * 2 + j = o + pre.length * 2 + i * 2 + j by omega] at this

/-- The newest of an address, of entries, the eldest first. -/
def lastF (L : List (Int × Int)) (a : Int) : Option Int := (L.reverse.find? (fun x => x.1 == a)).map (·.2)
def lastV : Option Int → Value
  | some v => .tuple #[.int .i64 v, .bool true]
  | none => .tuple #[.int .i64 0, .bool false]

theorem lastF_snoc (L : List (Int × Int)) (x : Int × Int) (a : Int) : lastF (L ++ [x]) a = if x.1 = a then some x.2 else lastF L a := by
  unfold lastF
  rw [List.reverse_append]
  show (List.find? _ (x :: L.reverse)).map (·.2) = _
  rw [List.find?_cons]
  by_cases h : x.1 = a
  · have hx : (x.1 == a) = true := by simp [h]
    rw [if_pos h, hx]; rfl
  · have hx : (x.1 == a) = false := by simp [h]
    rw [if_neg h, hx]

theorem lastF_take {L : List (Int × Int)} {i : Nat} {x : Int × Int} (h : L[i]? = some x) (a : Int) : lastF (L.take (i + 1)) a = if x.1 = a then some x.2 else lastF (L.take i) a := by
  have : L.take (i + 1) = L.take i ++ [x] := by rw [List.take_add_one, h]; rfl
  rw [this, lastF_snoc]

end Go.Proofs.YtpnbpjhoilibcaaDoor
