/-
  What opnd.Text returns of any operand. Nothing that was in memory turns. Conditions: the listed tables stand as they are laid; the names are at most 1000 texts of at most 1000 bytes that stand in memory; the operand's number is of 64 bits.
-/
import Derived.Test.YtfgnogdlkhagdaaDoorJf
import Derived.Test.YtfgnogdlkhagdaaDoorShowNum
import Derived.Test.YtfgnogdlkhagdaaDoorRefOpndText
import Derived.Deep.RegionWith
namespace Go.Proofs.YtfgnogdlkhagdaaDoor
open Go.RowKit
set_option linter.unusedVariables false
set_option linter.unusedSimpArgs false

/-- A text with a place in brackets. -/
def cellT (s p : ByteArray) : ByteArray := s ++ ⟨#[91]⟩ ++ p ++ ⟨#[93]⟩
def cellOf (T : List ByteArray) (sym : Nat) (p : ByteArray) : ByteArray := match T[sym]? with
  | none => ⟨#[]⟩
  | some t => cellT t p

theorem opdText_at (m : Nat) (n : Int) (T : List ByteArray) (hr : ¬ opdRightF ⟨3, 0, m, n⟩ = false) : opdTextF ⟨3, 0, m, n⟩ T = cellOf T m (txt n) := by
  unfold opdTextF cellOf cellT
  rw [if_neg hr]
  simp only [Int.toNat_natCast, Int.reduceEq, if_false, if_true]
  cases T[m]? <;> rfl
theorem opdText_by (m : Nat) (r n : Int) (T : List ByteArray) (hr : ¬ opdRightF ⟨4, r, m, n⟩ = false) : opdTextF ⟨4, r, m, n⟩ T = cellOf T m (textAt regsT r) := by
  unfold opdTextF cellOf cellT
  rw [if_neg hr]
  simp only [Int.toNat_natCast, Int.reduceEq, if_false]
  cases T[m]? <;> rfl

set_option maxRecDepth 1000000 in
set_option maxHeartbeats 1000000 in
theorem cellText_any (o : Opd) (hk : o.kind = 1 ∨ o.kind = 2 ∨ o.kind = 3 ∨ o.kind = 4) (hb : (backF o).kind ≠ 0) (sym : Nat) (place : ByteArray) (hp : place.size ≤ 1000000)
    (T : List ByteArray) (hT : T.length ≤ 1000) (hts : ∀ t ∈ T, t.size ≤ 1000) (a : Option Addr) (cap : Nat) (w : World) (hR : Tab w 4 regsT) (hS : CRow w a (T.map Value.string)) :
    Calls Tryd.prog 202 #[partV o, .int .i64 sym, .string place, .slice a T.length cap] w fun e w' => e = .returned (.string (cellOf T sym place)) ∧ Later w w' := by
  have cb := back_part o hk w hR
  have HS : Hid (CRow w a (T.map Value.string)) := hS
  have HR : Hid (Tab w 4 regsT) := hR
  clear hR hS hk
  generalize backF o = p at *
  generalize partV o = P at *
  obtain ⟨k, r, s, n'⟩ := p
  dsimp only at hb
  unfold Opd.val at cb
  have hb' : (k == 0) = false := by simp; exact hb
  unfold cellOf
  cases ht : T[sym]? with
  | none =>
    dsimp only
    have hge : (T.length : Int) ≤ (sym : Int) := by have := List.getElem?_eq_none_iff.1 ht; omega
    clear ht hts
    go_enter Tryd.func202, Tryd.ntmps202
    go_wp2_with (go_at_call 203; refine cb.mono ?_; rintro e w1 ⟨rfl, hl1⟩)
    go_ret
    exact ⟨rfl, hl1⟩
  | some t =>
    dsimp only
    unfold cellT
    have hlt : sym < T.length := (List.getElem?_eq_some_iff.1 ht).1
    have hz := hts t (List.mem_of_getElem? ht)
    obtain ⟨g, rfl, -⟩ := name_cell HS.out ht
    have HC : Hid (∀ w1, Later w w1 → w1.cell? ⟨g, sym, none⟩ = some (.string t)) := fun w1 h => by
      obtain ⟨g', e, hc⟩ := name_cell (HS.out.later h) ht
      cases e
      exact hc
    clear ht hts
    go_enter Tryd.func202, Tryd.ntmps202
    go_wp2_with (go_at_call 203; refine cb.mono ?_; rintro e w1 ⟨rfl, hl1⟩; have cc := HC.out w1 hl1)
    go_ret
    exact ⟨rfl, hl1⟩

theorem back_by (sym : Nat) (r : Int) (hr : 0 ≤ r ∧ r ≤ 7) : (backF ⟨4, r, sym, 0⟩).kind ≠ 0 := by
  have h : opdRightF (spreadF ⟨4, r, sym, 0⟩) = true := by simp [spreadF, opdRightF]; omega
  unfold backF
  rw [if_pos h]
  simp [spreadF]

theorem back_at (sym : Nat) (n : Int) (hn : 0 ≤ n) : (backF ⟨3, 0, sym, n⟩).kind ≠ 0 := by
  have h : opdRightF (spreadF ⟨3, 0, sym, n⟩) = true := by simp [spreadF, opdRightF]; omega
  unfold backF
  rw [if_pos h]
  simp [spreadF]

set_option maxRecDepth 1000000 in
set_option maxHeartbeats 1000000 in
theorem byText_any (sym : Nat) (r : Int) (hr : 0 ≤ r ∧ r ≤ 7)
    (T : List ByteArray) (hT : T.length ≤ 1000) (hts : ∀ t ∈ T, t.size ≤ 1000) (a : Option Addr) (cap : Nat) (w : World) (hR : Tab w 4 regsT) (hS : CRow w a (T.map Value.string)) :
    Calls Tryd.prog 205 #[.agg #[.int .i64 sym, .int .i64 r], .slice a T.length cap] w fun e w' => e = .returned (.string (cellOf T sym (textAt regsT r))) ∧ Later w w' := by
  have L := Later.alloc (Later.refl w) (.cells #[.int .i64 sym, .int .i64 r] 183)
  have cr := fun w' hT => regText_any r w' hT
  have cc := fun w' hR hS => cellText_any ⟨4, r, sym, 0⟩ (by simp) (back_by sym r hr) sym (textAt regsT r) (by have := regText_size r; omega) T hT hts a cap w' hR hS
  have HS : Hid (CRow w a (T.map Value.string)) := hS
  have HR : Hid (Tab w 4 regsT) := hR
  clear hR hS hr hts
  generalize cellOf T sym (textAt regsT r) = Z at *
  generalize textAt regsT r = X at *
  unfold partV byP at cc
  simp only [reduceIte, Int.reduceEq] at cc
  go_enter Tryd.func205, Tryd.ntmps205
  go_upto_region 1 with (fail)
  have gR := HR.out.later L
  have gS := HS.out.later L
  obtain ⟨b0, b1, -, -⟩ := box2_facts (at_new w (.cells #[.int .i64 sym, .int .i64 r] 183))
  generalize w.alloc (.cells #[.int .i64 sym, .int .i64 r] 183) = W at *
  generalize w.heap.size = B at *
  have HgR : Hid (Tab W 4 regsT) := gR
  have HgS : Hid (CRow W a (T.map Value.string)) := gS
  clear gR gS
  go_region_with (first
    | (go_at_call 177; refine (cr _ (by first | exact HgR.out | exact HgR.out.later (Later.drew (Later.refl _)))).mono ?_; rintro e w1 ⟨rfl, h1⟩; obtain rfl := h1.symm)
    | (go_at_call 202; refine (cc _ (by first | exact HgR.out | exact HgR.out.later (Later.drew (Later.refl _))) (by first | exact HgS.out | exact HgS.out.later (Later.drew (Later.refl _)))).mono ?_; rintro e w1 ⟨rfl, hl1⟩))
  all_goals go_wp2
  all_goals go_ret
  all_goals exact ⟨rfl, L.trans (by first | exact hl1 | exact Later.trans (Later.drew (Later.refl _)) hl1)⟩

set_option maxRecDepth 1000000 in
set_option maxHeartbeats 1000000 in
theorem atText_any (sym : Nat) (n : Int) (hn : 0 ≤ n) (hn' : n ≤ 9223372036854775807)
    (T : List ByteArray) (hT : T.length ≤ 1000) (hts : ∀ t ∈ T, t.size ≤ 1000) (a : Option Addr) (cap : Nat) (w : World) (hG : ShowGood w) (hS : CRow w a (T.map Value.string)) :
    Calls Tryd.prog 201 #[.agg #[.int .i64 sym, .int .i64 n], .slice a T.length cap] w fun e w' => e = .returned (.string (cellOf T sym (txt n))) ∧ Later w w' := by
  have L := Later.alloc (Later.refl w) (.cells #[.int .i64 sym, .int .i64 n] 181)
  have cr := fun w' hG => numText_any n (by omega) hn' w' hG
  have cc := fun w' hR hS => cellText_any ⟨3, 0, sym, n⟩ (by simp) (back_at sym n hn) sym (txt n) (by have := txt_size n (by omega) hn'; omega) T hT hts a cap w' hR hS
  have HS : Hid (CRow w a (T.map Value.string)) := hS
  have HG : Hid (ShowGood w) := hG
  clear hG hS hn hn' hts
  generalize cellOf T sym (txt n) = Z at *
  generalize txt n = X at *
  unfold partV atP at cc
  simp only [reduceIte, Int.reduceEq] at cc
  go_enter Tryd.func201, Tryd.ntmps201
  go_upto_region 1 with (fail)
  have gG := HG.out.later L
  have gS := HS.out.later L
  obtain ⟨b0, b1, -, -⟩ := box2_facts (at_new w (.cells #[.int .i64 sym, .int .i64 n] 181))
  generalize w.alloc (.cells #[.int .i64 sym, .int .i64 n] 181) = W at *
  generalize w.heap.size = B at *
  have HgG : Hid (ShowGood W) := gG
  have HgS : Hid (CRow W a (T.map Value.string)) := gS
  clear gG gS
  go_region_with (first
    | (go_at_call 107; refine (cr _ (by first | exact HgG.out | exact HgG.out.later (Later.drew (Later.refl _)))).mono ?_; rintro e w1 ⟨rfl, hl1⟩; have k1 : Later W w1 := (by first | exact hl1 | exact Later.trans (Later.drew (Later.refl _)) hl1); have d0 := cell_later b0 k1; have d1 := cell_later b1 k1)
    | (go_at_call 202; refine (cc _ (HgG.out.later (by first | exact k1 | exact Later.drew k1)).names.regs (HgS.out.later (by first | exact k1 | exact Later.drew k1))).mono ?_; rintro e w2 ⟨rfl, hl2⟩))
  all_goals go_wp2_with (go_at_call 202; refine (cc _ (HgG.out.later (by first | exact k1 | exact Later.drew k1)).names.regs (HgS.out.later (by first | exact k1 | exact Later.drew k1))).mono ?_; rintro e w2 ⟨rfl, hl2⟩)
  all_goals go_ret
  all_goals exact ⟨rfl, L.trans (k1.trans (by first | exact hl2 | exact Later.trans (Later.drew (Later.refl _)) hl2))⟩

set_option maxRecDepth 1000000 in
set_option maxHeartbeats 1000000 in
theorem numPart_any (n : Int) (h0 : -9223372036854775808 ≤ n) (h1 : n ≤ 9223372036854775807) (a : Option Addr) (m cap : Nat) (w : World) (hG : ShowGood w) :
    Calls Tryd.prog 200 #[.agg #[.int .i64 n], .slice a m cap] w fun e w' => e = .returned (.string (txt n)) ∧ Later w w' := by
  have L := Later.alloc (Later.refl w) (.cells #[.int .i64 n] 179)
  have cr := numText_any n h0 h1 _ (hG.later L)
  clear h0 h1 hG
  go_enter Tryd.func200, Tryd.ntmps200
  go_wp2_with (go_at_call 107; refine cr.mono ?_; rintro e w1 ⟨rfl, hl1⟩)
  go_ret
  exact ⟨rfl, L.trans hl1⟩

set_option maxRecDepth 1000000 in
set_option maxHeartbeats 1000000 in
theorem regPart_any (r : Int) (a : Option Addr) (m cap : Nat) (w : World) (hG : ShowGood w) :
    Calls Tryd.prog 199 #[.agg #[.int .i64 r], .slice a m cap] w fun e w' => e = .returned (.string (textAt regsT r)) ∧ Later w w' := by
  have L := Later.alloc (Later.refl w) (.cells #[.int .i64 r] 177)
  have cr := regText_any r _ (hG.later L).names.regs
  clear hG
  go_enter Tryd.func199, Tryd.ntmps199
  go_wp2_with (go_at_call 177; refine cr.mono ?_; rintro e w1 ⟨rfl, h1⟩; obtain rfl := h1.symm)
  go_ret
  exact ⟨rfl, L⟩

set_option maxRecDepth 1000000 in
set_option maxHeartbeats 2000000 in
theorem opndText_any (o : Opd) (hn : -9223372036854775808 ≤ o.n ∧ o.n ≤ 9223372036854775807) (T : List ByteArray) (hT : T.length ≤ 1000) (hts : ∀ t ∈ T, t.size ≤ 1000) (a : Option Addr) (cap : Nat) (w : World) (hG : ShowGood w) (hS : CRow w a (T.map Value.string)) :
    Calls Tryd.prog 111 #[o.val, .slice a T.length cap] w fun e w' => e = .returned (.string (opdTextF o T)) ∧ Later w w' := by
  have L := Later.alloc (Later.refl w) (.cells #[.int .i64 o.kind, .int .i64 o.reg, .int .i64 o.sym, .int .i64 o.n] 51)
  have HS : Hid (CRow w a (T.map Value.string)) := hS
  have HG : Hid (ShowGood w) := hG
  by_cases hr : opdRightF o = false
  · have cf := of_no o hr _ (hG.later L).names.regs
    unfold opdTextF
    rw [if_pos hr]
    clear hr hG hS hts
    obtain ⟨k, r, s, n⟩ := o
    unfold Opd.val at *
    go_enter Tryd.func111, Tryd.ntmps111
    go_wp2_with (go_at_call 133; refine cf.mono ?_; rintro e w1 ⟨rfl, hl1⟩)
    go_ret
    exact ⟨rfl, L.trans hl1⟩
  · have hr' : opdRightF o = true := by simpa using hr
    have cf := of_yes o hr' _ (hG.later L).names.regs
    have hk := kinds_of_right hr'
    obtain ⟨k, r, s, n⟩ := o
    dsimp only at hk hn
    simp only [opdRightF, decide_eq_true_eq] at hr'
    clear hG hS
    rcases hk with rfl | rfl | rfl | rfl
    · have cb := fun w' hG => regPart_any r a T.length cap w' hG
      rw [show opdTextF ⟨1, r, s, n⟩ T = textAt regsT r by unfold opdTextF; rw [if_neg hr]; rfl]
      unfold partV regP Opd.val at *
      simp only [reduceIte, Int.reduceEq] at *
      clear hr hr' hts hn
      generalize textAt regsT r = Z at *
      go_enter Tryd.func111, Tryd.ntmps111
      go_wp2_with (first
        | (go_at_call 133; refine cf.mono ?_; rintro e w1 ⟨rfl, hl1⟩)
        | (go_at_call 199; refine (cb _ (HG.out.later (L.trans hl1))).mono ?_; rintro e w2 ⟨rfl, hl2⟩))
      go_ret
      exact ⟨rfl, L.trans (hl1.trans hl2)⟩
    · have cb := fun w' hG => numPart_any n hn.1 hn.2 a T.length cap w' hG
      rw [show opdTextF ⟨2, r, s, n⟩ T = txt n by unfold opdTextF; rw [if_neg hr]; rfl]
      unfold partV numP Opd.val at *
      simp only [reduceIte, Int.reduceEq] at *
      clear hr hr' hts hn
      generalize txt n = Z at *
      go_enter Tryd.func111, Tryd.ntmps111
      go_wp2_with (first
        | (go_at_call 133; refine cf.mono ?_; rintro e w1 ⟨rfl, hl1⟩)
        | (go_at_call 200; refine (cb _ (HG.out.later (L.trans hl1))).mono ?_; rintro e w2 ⟨rfl, hl2⟩))
      go_ret
      exact ⟨rfl, L.trans (hl1.trans hl2)⟩
    · obtain ⟨m, rfl⟩ : ∃ m : Nat, s = m := ⟨s.toNat, by omega⟩
      obtain rfl : r = 0 := by omega
      have cb := fun w' hG hS => atText_any m n (by omega) hn.2 T hT hts a cap w' hG hS
      rw [opdText_at m n T hr]
      unfold partV atP Opd.val at *
      simp only [reduceIte, Int.reduceEq] at *
      clear hr hr' hts hn
      generalize cellOf T m (txt n) = Z at *
      go_enter Tryd.func111, Tryd.ntmps111
      go_wp2_with (first
        | (go_at_call 133; refine cf.mono ?_; rintro e w1 ⟨rfl, hl1⟩)
        | (go_at_call 201; refine (cb _ (HG.out.later (L.trans hl1)) (HS.out.later (L.trans hl1))).mono ?_; rintro e w2 ⟨rfl, hl2⟩))
      go_ret
      exact ⟨rfl, L.trans (hl1.trans hl2)⟩
    · obtain ⟨m, rfl⟩ : ∃ m : Nat, s = m := ⟨s.toNat, by omega⟩
      have cb := fun w' hG hS => byText_any m r (by omega) T hT hts a cap w' hG hS
      rw [opdText_by m r n T hr]
      unfold partV byP Opd.val at *
      simp only [reduceIte, Int.reduceEq] at *
      clear hr hr' hts hn
      generalize cellOf T m (textAt regsT r) = Z at *
      go_enter Tryd.func111, Tryd.ntmps111
      go_wp2_with (first
        | (go_at_call 133; refine cf.mono ?_; rintro e w1 ⟨rfl, hl1⟩)
        | (go_at_call 205; refine (cb _ (HG.out.later (L.trans hl1)).names.regs (HS.out.later (L.trans hl1))).mono ?_; rintro e w2 ⟨rfl, hl2⟩))
      go_ret
      exact ⟨rfl, L.trans (hl1.trans hl2)⟩

end Go.Proofs.YtfgnogdlkhagdaaDoor
