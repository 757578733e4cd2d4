/-
  What the document's own text of an operand is. Nothing that was in memory turns. Conditions: the names are at most 1000 texts of at most 1000 bytes that stand in memory; the operand's number is of 64 bits.
-/
import Derived.Test.YtfgnogdlkhagdaaDoorJa
import Derived.Test.YtfgnogdlkhagdaaDoorJd
import Derived.Test.YtfgnogdlkhagdaaDoorJb
import Derived.Test.YtfgnogdlkhagdaaDoorRefText
import Derived.Test.YtfgnogdlkhagdaaDoorJh
import Derived.RegionTactic
import Derived.Deep.CutRange
import Derived.Deep.RegionWith
namespace Go.Proofs.YtfgnogdlkhagdaaDoor
open Go.RowKit
set_option linter.unusedVariables false

/-- An operand's text. -/
def opdTextF (o : Opd) (T : List ByteArray) : ByteArray :=
  if opdRightF o = false then ⟨#[]⟩
  else if o.kind = 1 then textAt regsT o.reg
  else if o.kind = 2 then txt o.n
  else match T[o.sym.toNat]? with
    | none => ⟨#[]⟩
    | some t => if o.kind = 3 then t ++ ⟨#[91]⟩ ++ txt o.n ++ ⟨#[93]⟩ else t ++ ⟨#[91]⟩ ++ textAt regsT o.reg ++ ⟨#[93]⟩

theorem regText_size (r : Int) : (textAt regsT r).size ≤ 3 := by
  unfold textAt
  split
  · rename_i h
    obtain ⟨h0, h1⟩ := h
    have h2 : r.toNat < 8 := by
      have : (regsT.length : Int) = 8 := rfl
      omega
    generalize r.toNat = k at h2
    obtain rfl | rfl | rfl | rfl | rfl | rfl | rfl | rfl : k = 0 ∨ k = 1 ∨ k = 2 ∨ k = 3 ∨ k = 4 ∨ k = 5 ∨ k = 6 ∨ k = 7 := by omega
    all_goals decide
  · decide

theorem name_cell {w : World} {a : Option Addr} {T : List ByteArray} (h : CRow w a (T.map Value.string)) {i : Nat} {t : ByteArray} (ht : T[i]? = some t) : ∃ g, a = some ⟨g, 0, none⟩ ∧ w.cell? ⟨g, i, none⟩ = some (.string t) :=
  h i _ (by rw [List.getElem?_map, ht]; rfl)

set_option maxRecDepth 1000000 in
set_option maxHeartbeats 4000000 in
theorem refOpdText_any (o : Opd) (hn : -9223372036854775808 ≤ o.n ∧ o.n ≤ 9223372036854775807) (T : List ByteArray) (hT : T.length ≤ 1000) (hts : ∀ t ∈ T, t.size ≤ 1000) (a : Option Addr) (cap : Nat) (w : World) (hrow : CRow w a (T.map Value.string)) :
    Calls Tryd.prog 72 #[o.val, .slice a T.length cap] w fun e w' => e = .returned (.string (opdTextF o T)) ∧ Later w w' := by
  have cR := fun w' => refOpdRight_any o w'
  have cG := fun w' => refRegText_any o.reg w'
  have cT := fun w' => refText_any o.n hn.1 hn.2 w'
  have s1 := regText_size o.reg
  have s2 := txt_size o.n hn.1 hn.2
  have hF : opdTextF o T = if opdRightF o = false then ⟨#[]⟩ else if o.kind = 1 then textAt regsT o.reg else if o.kind = 2 then txt o.n else match T[o.sym.toNat]? with | none => ⟨#[]⟩ | some t => if o.kind = 3 then t ++ ⟨#[91]⟩ ++ txt o.n ++ ⟨#[93]⟩ else t ++ ⟨#[91]⟩ ++ textAt regsT o.reg ++ ⟨#[93]⟩ := rfl
  have hright : opdRightF o = true → (o.kind = 1 ∨ o.kind = 2 ∨ o.kind = 3 ∨ o.kind = 4) ∧ (o.kind = 3 ∨ o.kind = 4 → 0 ≤ o.sym) := fun h => by
    simp only [opdRightF, decide_eq_true_eq] at h
    omega
  unfold Opd.val at *
  generalize opdTextF o T = X at *
  generalize opdRightF o = rt at *
  generalize textAt regsT o.reg = RT at *
  generalize txt o.n = NT at *
  obtain ⟨k, r, s, n⟩ := o
  simp only at *
  cases rt with
  | false =>
    rw [if_pos rfl] at hF
    subst hF
    clear hright
    go_enter Tryd.func72, Tryd.ntmps72
    go_wp2_with (first
      | (go_at_call 115; refine (cR _).mono ?_; rintro e w1 ⟨rfl, hl1⟩))
    go_ret
    exact ⟨rfl, Later.trans (Later.alloc (Later.refl _) _) hl1⟩
  | true =>
    rw [if_neg (by decide)] at hF
    obtain ⟨hk, hs⟩ := hright rfl
    clear hright
    rcases hk with rfl | rfl | rfl | rfl
    · rw [if_pos rfl] at hF
      subst hF
      go_enter Tryd.func72, Tryd.ntmps72
      go_upto_region 1 with (fail)
      obtain ⟨b0, b1, b2, b3⟩ := four_new w 51 (.int .i64 1) (.int .i64 r) (.int .i64 s) (.int .i64 n)
      have LW := Later.alloc (Later.refl w) (.cells #[.int .i64 1, .int .i64 r, .int .i64 s, .int .i64 n] 51)
      have rowW := hrow.later LW
      generalize w.alloc (.cells #[.int .i64 1, .int .i64 r, .int .i64 s, .int .i64 n] 51) = W at *
      clear hrow
      go_wp2_with (first | (go_at_call 115; refine (cR _).mono ?_; rintro e w1 ⟨rfl, hl1⟩; have c0 := cell_later b0 hl1; have c1 := cell_later b1 hl1; have c2 := cell_later b2 hl1; have c3 := cell_later b3 hl1; have L1 := Later.trans LW hl1; have row1 := rowW.later hl1; clear b0 b1 b2 b3 rowW) | (go_at_call 116; refine (cG _).mono ?_; rintro e w2 ⟨rfl, hl2⟩; have L2 := Later.trans L1 hl2))
      go_ret
      exact ⟨rfl, L2⟩
    · rw [if_neg (by decide), if_pos rfl] at hF
      subst hF
      go_enter Tryd.func72, Tryd.ntmps72
      go_upto_region 1 with (fail)
      obtain ⟨b0, b1, b2, b3⟩ := four_new w 51 (.int .i64 2) (.int .i64 r) (.int .i64 s) (.int .i64 n)
      have LW := Later.alloc (Later.refl w) (.cells #[.int .i64 2, .int .i64 r, .int .i64 s, .int .i64 n] 51)
      have rowW := hrow.later LW
      generalize w.alloc (.cells #[.int .i64 2, .int .i64 r, .int .i64 s, .int .i64 n] 51) = W at *
      clear hrow
      go_wp2_with (first | (go_at_call 115; refine (cR _).mono ?_; rintro e w1 ⟨rfl, hl1⟩; have c0 := cell_later b0 hl1; have c1 := cell_later b1 hl1; have c2 := cell_later b2 hl1; have c3 := cell_later b3 hl1; have L1 := Later.trans LW hl1; have row1 := rowW.later hl1; clear b0 b1 b2 b3 rowW) | (go_at_call 27; refine (cT _).mono ?_; rintro e w2 ⟨rfl, hl2⟩; have L2 := Later.trans L1 hl2))
      go_ret
      exact ⟨rfl, L2⟩
    · rw [if_neg (by decide), if_neg (by decide)] at hF
      have h0 := hs (by decide)
      obtain ⟨m, rfl⟩ : ∃ m : Nat, s = m := ⟨s.toNat, by omega⟩
      rw [Int.toNat_natCast] at hF
      cases ht : T[m]? with
      | none =>
        rw [ht] at hF
        simp only at hF
        subst hF
        have hml : (T.length : Int) ≤ (m : Int) := by have := List.getElem?_eq_none_iff.1 ht; omega
        go_enter Tryd.func72, Tryd.ntmps72
        go_upto_region 1 with (fail)
        obtain ⟨b0, b1, b2, b3⟩ := four_new w 51 (.int .i64 3) (.int .i64 r) (.int .i64 (m : Int)) (.int .i64 n)
        have LW := Later.alloc (Later.refl w) (.cells #[.int .i64 3, .int .i64 r, .int .i64 (m : Int), .int .i64 n] 51)
        have rowW := hrow.later LW
        generalize w.alloc (.cells #[.int .i64 3, .int .i64 r, .int .i64 (m : Int), .int .i64 n] 51) = W at *
        clear hrow
        go_wp2_with (first | (go_at_call 115; refine (cR _).mono ?_; rintro e w1 ⟨rfl, hl1⟩; have c0 := cell_later b0 hl1; have c1 := cell_later b1 hl1; have c2 := cell_later b2 hl1; have c3 := cell_later b3 hl1; have L1 := Later.trans LW hl1; have row1 := rowW.later hl1; clear b0 b1 b2 b3 rowW))
        go_ret
        exact ⟨rfl, L1⟩
      | some t =>
        rw [ht] at hF
        simp only [if_true] at hF
        
        subst hF
        have hml : (m : Int) < (T.length : Int) := by have := (List.getElem?_eq_some_iff.1 ht).1; omega
        have hml2 : ¬ (T.length : Int) ≤ (m : Int) := by omega
        have htz := hts t (List.mem_of_getElem? ht)
        go_enter Tryd.func72, Tryd.ntmps72
        go_upto_region 1 with (fail)
        obtain ⟨b0, b1, b2, b3⟩ := four_new w 51 (.int .i64 3) (.int .i64 r) (.int .i64 (m : Int)) (.int .i64 n)
        have LW := Later.alloc (Later.refl w) (.cells #[.int .i64 3, .int .i64 r, .int .i64 (m : Int), .int .i64 n] 51)
        have rowW := hrow.later LW
        generalize w.alloc (.cells #[.int .i64 3, .int .i64 r, .int .i64 (m : Int), .int .i64 n] 51) = W at *
        clear hrow
        go_wp2_with (first | (go_at_call 115; refine (cR _).mono ?_; rintro e w1 ⟨rfl, hl1⟩; have c0 := cell_later b0 hl1; have c1 := cell_later b1 hl1; have c2 := cell_later b2 hl1; have c3 := cell_later b3 hl1; have L1 := Later.trans LW hl1; have row1 := rowW.later hl1; clear b0 b1 b2 b3 rowW))
        obtain ⟨gg, rfl, hc⟩ := name_cell row1 ht
        go_region_with (go_at_call 27; refine (cT _).mono ?_; rintro e w2 ⟨rfl, hl2⟩; have hl3 : Later w1 w2 := (by first | exact hl2 | exact Later.trans (Later.drew (Later.refl _)) hl2); have hc' := cell_later hc hl3; have c2' := cell_later c2 hl3; have c3' := cell_later c3 hl3; have c1' := cell_later c1 hl3; have L2 := Later.trans L1 hl3)
        all_goals go_wp2
        all_goals go_ret
        all_goals exact ⟨rfl, by first | assumption | exact Later.drew (by assumption)⟩
    · rw [if_neg (by decide), if_neg (by decide)] at hF
      have h0 := hs (by decide)
      obtain ⟨m, rfl⟩ : ∃ m : Nat, s = m := ⟨s.toNat, by omega⟩
      rw [Int.toNat_natCast] at hF
      cases ht : T[m]? with
      | none =>
        rw [ht] at hF
        simp only at hF
        subst hF
        have hml : (T.length : Int) ≤ (m : Int) := by have := List.getElem?_eq_none_iff.1 ht; omega
        go_enter Tryd.func72, Tryd.ntmps72
        go_upto_region 1 with (fail)
        obtain ⟨b0, b1, b2, b3⟩ := four_new w 51 (.int .i64 4) (.int .i64 r) (.int .i64 (m : Int)) (.int .i64 n)
        have LW := Later.alloc (Later.refl w) (.cells #[.int .i64 4, .int .i64 r, .int .i64 (m : Int), .int .i64 n] 51)
        have rowW := hrow.later LW
        generalize w.alloc (.cells #[.int .i64 4, .int .i64 r, .int .i64 (m : Int), .int .i64 n] 51) = W at *
        clear hrow
        go_wp2_with (first | (go_at_call 115; refine (cR _).mono ?_; rintro e w1 ⟨rfl, hl1⟩; have c0 := cell_later b0 hl1; have c1 := cell_later b1 hl1; have c2 := cell_later b2 hl1; have c3 := cell_later b3 hl1; have L1 := Later.trans LW hl1; have row1 := rowW.later hl1; clear b0 b1 b2 b3 rowW))
        go_ret
        exact ⟨rfl, L1⟩
      | some t =>
        rw [ht] at hF
        simp only [] at hF
        rw [if_neg (by decide)] at hF
        subst hF
        have hml : (m : Int) < (T.length : Int) := by have := (List.getElem?_eq_some_iff.1 ht).1; omega
        have hml2 : ¬ (T.length : Int) ≤ (m : Int) := by omega
        have htz := hts t (List.mem_of_getElem? ht)
        go_enter Tryd.func72, Tryd.ntmps72
        go_upto_region 1 with (fail)
        obtain ⟨b0, b1, b2, b3⟩ := four_new w 51 (.int .i64 4) (.int .i64 r) (.int .i64 (m : Int)) (.int .i64 n)
        have LW := Later.alloc (Later.refl w) (.cells #[.int .i64 4, .int .i64 r, .int .i64 (m : Int), .int .i64 n] 51)
        have rowW := hrow.later LW
        generalize w.alloc (.cells #[.int .i64 4, .int .i64 r, .int .i64 (m : Int), .int .i64 n] 51) = W at *
        clear hrow
        go_wp2_with (first | (go_at_call 115; refine (cR _).mono ?_; rintro e w1 ⟨rfl, hl1⟩; have c0 := cell_later b0 hl1; have c1 := cell_later b1 hl1; have c2 := cell_later b2 hl1; have c3 := cell_later b3 hl1; have L1 := Later.trans LW hl1; have row1 := rowW.later hl1; clear b0 b1 b2 b3 rowW))
        obtain ⟨gg, rfl, hc⟩ := name_cell row1 ht
        go_region_with (go_at_call 116; refine (cG _).mono ?_; rintro e w2 ⟨rfl, hl2⟩; have hl3 : Later w1 w2 := (by first | exact hl2 | exact Later.trans (Later.drew (Later.refl _)) hl2); have hc' := cell_later hc hl3; have c2' := cell_later c2 hl3; have c3' := cell_later c3 hl3; have c1' := cell_later c1 hl3; have L2 := Later.trans L1 hl3)
        all_goals go_wp2
        all_goals go_ret
        all_goals exact ⟨rfl, by first | assumption | exact Later.drew (by assumption)⟩

end Go.Proofs.YtfgnogdlkhagdaaDoor
