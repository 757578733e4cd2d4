/-
  What opnd.Text returns of the cell of a symbol that a register tells. Nothing that was in memory turns. Conditions: the table of the registers' words stands as the program's text lays it.
-/
import Derived.Test.YtcajbhokebmmdaaDoorOpndSmall
import Derived.Deep.RegionWith
namespace Go.Proofs.YtcajbhokebmmdaaDoor
open Go.RowKit
set_option linter.unusedVariables false
set_option linter.unusedSimpArgs false

/-- A text with a place in brackets. -/
def cellT (s p : ByteArray) : ByteArray := s ++ ⟨#[91]⟩ ++ p ++ ⟨#[93]⟩

set_option maxRecDepth 1000000 in
set_option maxHeartbeats 1000000 in
theorem cellText_yes (o : Opd) (hk : o.kind = 1 ∨ o.kind = 2 ∨ o.kind = 3 ∨ o.kind = 4) (hb : (backF o).kind ≠ 0) (sym : Nat) (place : ByteArray) (hp : place.size ≤ 1000000)
    (T : List ByteArray) (t : ByteArray) (ht : T[sym]? = some t) (hts : t.size ≤ 1000000) (g n c : Nat) (hn : T.length = n) (hn' : n ≤ 1000000) (hc : n ≤ c) (w : World) (hR : Tab w 0 regsT) (hS : Tab w g T) :
    Calls Tryd.prog 62 #[partV o, .int .i64 sym, .string place, .slice (some ⟨g, 0, none⟩) n c] w fun e w' => e = .returned (.string (cellT t place)) ∧ Later w w' := by
  have cb := back_part o hk w hR
  have hlt : sym < n := by rw [← hn]; exact (List.getElem?_eq_some_iff.1 ht).1
  have HS : Hid (Tab w g T) := hS
  have HR : Hid (Tab w 0 regsT) := hR
  have HTT : Hid (T[sym]? = some t) := ht
  clear hR hS ht hn hk
  generalize backF o = p at *
  generalize partV o = P at *
  obtain ⟨k, r, s, n'⟩ := p
  dsimp only at hb
  unfold Opd.val at cb
  have hb' : (k == 0) = false := by simp; exact hb
  unfold cellT
  go_enter Tryd.func62, Tryd.ntmps62
  go_wp2_with (go_at_call 18; refine cb.mono ?_; rintro e w1 ⟨rfl, hl1⟩; have cc := HS.out.later hl1 sym t HTT.out)
  go_ret
  exact ⟨rfl, hl1⟩

theorem back_by (sym : Nat) (r : Int) (hr : 0 ≤ r ∧ r ≤ 7) : (backF ⟨4, r, sym, 0⟩).kind ≠ 0 := by
  have h : opdRightF (spreadF ⟨4, r, sym, 0⟩) = true := by simp [spreadF, opdRightF]; omega
  unfold backF
  rw [if_pos h]
  simp [spreadF]

theorem textAt_size (r : Int) : (textAt regsT r).size ≤ 3 := by
  unfold textAt
  split
  · rename_i h
    obtain ⟨k, rfl⟩ : ∃ k : Nat, r = (k : Nat) := ⟨r.toNat, by omega⟩
    match k, h with
    | 0, _ => decide
    | 1, _ => decide
    | 2, _ => decide
    | 3, _ => decide
    | 4, _ => decide
    | 5, _ => decide
    | 6, _ => decide
    | 7, _ => decide
    | n + 8, h => simp [regsT] at h; omega
  · decide

set_option maxRecDepth 1000000 in
set_option maxHeartbeats 1000000 in
theorem byText_yes (sym : Nat) (r : Int) (hr : 0 ≤ r ∧ r ≤ 7)
    (T : List ByteArray) (t : ByteArray) (ht : T[sym]? = some t) (hts : t.size ≤ 1000000) (g n c : Nat) (hn : T.length = n) (hn' : n ≤ 1000000) (hc : n ≤ c) (w : World) (hR : Tab w 0 regsT) (hS : Tab w g T) :
    Calls Tryd.prog 63 #[.agg #[.int .i64 sym, .int .i64 r], .slice (some ⟨g, 0, none⟩) n c] w fun e w' => e = .returned (.string (cellT t (textAt regsT r))) ∧ Later w w' := by
  have L := Later.alloc (Later.refl w) (.cells #[.int .i64 sym, .int .i64 r] 49)
  have cr := fun w' hT => regText_any r w' hT
  have cc := fun w' hT hS => cellText_yes ⟨4, r, sym, 0⟩ (by simp) (back_by sym r hr) sym (textAt regsT r) (by have := textAt_size r; omega) T t ht hts g n c hn hn' hc w' hT hS
  have HS : Hid (Tab w g T) := hS
  have HR : Hid (Tab w 0 regsT) := hR
  clear hR hS ht hn hr
  generalize cellT t (textAt regsT r) = Z at *
  generalize textAt regsT r = X at *
  unfold partV byP at cc
  simp only [reduceIte, Int.reduceEq] at cc
  go_enter Tryd.func63, Tryd.ntmps63
  go_upto_region 1 with (fail)
  have gR := HR.out.later L
  have gS := HS.out.later L
  obtain ⟨b0, b1, -, -⟩ := box2_facts (at_new w (.cells #[.int .i64 sym, .int .i64 r] 49))
  generalize w.alloc (.cells #[.int .i64 sym, .int .i64 r] 49) = W at *
  generalize w.heap.size = B at *
  have HgR : Hid (Tab W 0 regsT) := gR
  have HgS : Hid (Tab W g T) := gS
  clear gR gS
  go_region_with (first
    | (go_at_call 28; refine (cr _ (by first | exact HgR.out | exact HgR.out.later (Later.drew (Later.refl _)))).mono ?_; rintro e w1 ⟨rfl, h1⟩; obtain rfl := h1.symm)
    | (go_at_call 62; refine (cc _ (by first | exact HgR.out | exact HgR.out.later (Later.drew (Later.refl _))) (by first | exact HgS.out | exact HgS.out.later (Later.drew (Later.refl _)))).mono ?_; rintro e w1 ⟨rfl, hl1⟩))
  all_goals go_wp2
  all_goals go_ret
  all_goals exact ⟨rfl, L.trans (by first | exact hl1 | exact Later.trans (Later.drew (Later.refl _)) hl1)⟩

set_option maxRecDepth 1000000 in
set_option maxHeartbeats 1000000 in
theorem text_by (sym : Nat) (r : Int) (hr : 0 ≤ r ∧ r ≤ 7)
    (T : List ByteArray) (t : ByteArray) (ht : T[sym]? = some t) (hts : t.size ≤ 1000000) (g n c : Nat) (hn : T.length = n) (hn' : n ≤ 1000000) (hc : n ≤ c) (w : World) (hR : Tab w 0 regsT) (hS : Tab w g T) :
    Calls Tryd.prog 12 #[(⟨4, r, sym, 0⟩ : Opd).val, .slice (some ⟨g, 0, none⟩) n c] w fun e w' => e = .returned (.string (cellT t (textAt regsT r))) ∧ Later w w' := by
  have L := Later.alloc (Later.refl w) (.cells #[.int .i64 4, .int .i64 r, .int .i64 sym, .int .i64 0] 23)
  have cf := of_yes ⟨4, r, sym, 0⟩ (by simp [opdRightF]; omega) _ (hR.later L)
  have cb := fun w' hT hS => byText_yes sym r hr T t ht hts g n c hn hn' hc w' hT hS
  have HS : Hid (Tab w g T) := hS
  have HR : Hid (Tab w 0 regsT) := hR
  clear hR hS ht hn hr
  generalize cellT t (textAt regsT r) = Z at *
  unfold partV byP Opd.val at *
  simp only [reduceIte, Int.reduceEq] at cf
  go_enter Tryd.func12, Tryd.ntmps12
  go_wp2_with (first
    | (go_at_call 9; refine cf.mono ?_; rintro e w1 ⟨rfl, hl1⟩)
    | (go_at_call 63; refine (cb _ (HR.out.later (L.trans hl1)) (HS.out.later (L.trans hl1))).mono ?_; rintro e w2 ⟨rfl, hl2⟩))
  go_ret
  exact ⟨rfl, L.trans (hl1.trans hl2)⟩

end Go.Proofs.YtcajbhokebmmdaaDoor
