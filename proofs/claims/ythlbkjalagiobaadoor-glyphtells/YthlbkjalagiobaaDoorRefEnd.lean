/-
  What the document's own End returns, and that two rows of the same runes are held the same. Nothing that was in memory turns. Conditions: the text has at most 1000 bytes; the rows stand in memory.
-/
import Derived.Test.YthlbkjalagiobaaDoorRefSpots
namespace Go.Proofs.YthlbkjalagiobaaDoor
open Go.RowKit

theorem place_last (s : ByteArray) (E : List Sp) (x : Sp) (h : E ++ [x] = spots s) : (placeOf (spots s)).2 = (nl x.line x.rune, nc x.col x.rune) := by
  obtain ⟨_, h2, h3, _, _⟩ := spots_at s E.length x (by rw [← h]; simp)
  rw [← h, List.take_left] at h2 h3
  rw [← h, placeOf_snoc]
  show (nl _ _, nc _ _) = _
  rw [← h2, ← h3]

theorem six_new (w : World) (t : TypeId) (a b c d e f : Value) : (w.alloc (.cells #[a, b, c, d, e, f] t)).cell? ⟨w.heap.size, 0, none⟩ = some a ∧ (w.alloc (.cells #[a, b, c, d, e, f] t)).cell? ⟨w.heap.size, 1, none⟩ = some b ∧ (w.alloc (.cells #[a, b, c, d, e, f] t)).cell? ⟨w.heap.size, 2, none⟩ = some c ∧ (w.alloc (.cells #[a, b, c, d, e, f] t)).cell? ⟨w.heap.size, 3, none⟩ = some d ∧ (w.alloc (.cells #[a, b, c, d, e, f] t)).cell? ⟨w.heap.size, 4, none⟩ = some e ∧ (w.alloc (.cells #[a, b, c, d, e, f] t)).cell? ⟨w.heap.size, 5, none⟩ = some f := by
  refine ⟨?_, ?_, ?_, ?_, ?_, ?_⟩ <;> simp

set_option maxRecDepth 1000000 in
set_option maxHeartbeats 1000000 in
theorem refEnd_any (s : ByteArray) (hsz : s.size ≤ 1000) (w : World) :
    Calls Tryd.prog 10 #[.string s] w fun e w' => e = .returned (.tuple #[.int .i64 ((placeOf (spots s)).2.1 : Nat), .int .i64 ((placeOf (spots s)).2.2 : Nat)]) ∧ Later w w' := by
  have hc := fun w' => refSpots_any s hsz w'
  rcases nil_or_snoc (spots s) with h0 | ⟨E, x, h0⟩
  · rw [h0] at hc ⊢
    go_enter Tryd.func10, Tryd.ntmps10
    go_wp2_with (go_at_call 13; refine (hc _).mono ?_; rintro e w1 ⟨⟨a, cap, rfl, -⟩, hl1⟩)
    go_returns
    exact ⟨rfl, hl1⟩
  · have hpl := place_last s E x h0.symm
    have hx : (spots s)[E.length]? = some x := by rw [h0]; simp
    have hle := spot_le s E.length x hx
    have hlen : (spots s).length = E.length + 1 := by rw [h0]; simp
    have hEl : E.length ≤ 1000 := by have := (place_all s).2.2; omega
    rw [hlen] at hc
    generalize spots s = L at *
    generalize (placeOf L).2 = p at *
    subst hpl
    have hi0 : (0 : Int) < (E.length : Int) + 1 := by omega
    have hi1 : (E.length : Int) < (E.length : Int) + 1 := by omega
    have hi2 : (E.length : Int) < ((E.length + 1 : Nat) : Int) := by omega
    have hi3 : (((E.length : Int) + 1) == 0) = false := by simp; omega
    have HX : Hid (L[E.length]? = some x) := hx
    clear h0 hx hlen
    by_cases hr : x.rune = 10
    · rw [hr]
      go_enter Tryd.func10, Tryd.ntmps10
      go_wp2_with (go_at_call 13; refine (hc _).mono ?_; rintro e w1 ⟨⟨a, cap, rfl, hrow⟩, hl1⟩; obtain ⟨gg, rfl, p0, p1, p2, p3, p4, p5⟩ := hrow.get HX.out; rw [hr] at p0; clear hrow)
      go_returns
      exact ⟨rfl, Later.alloc hl1 _⟩
    · have hr' : ((x.rune : Int) == 10) = false := by simp; omega
      go_enter Tryd.func10, Tryd.ntmps10
      go_wp2_with (go_at_call 13; refine (hc _).mono ?_; rintro e w1 ⟨⟨a, cap, rfl, hrow⟩, hl1⟩; obtain ⟨gg, rfl, p0, p1, p2, p3, p4, p5⟩ := hrow.get HX.out; clear hrow)
      obtain ⟨b0, b1, b2, b3, b4, b5⟩ := six_new w1 40 (.int .i32 (x.rune : Nat)) (.int .i64 (x.at_ : Nat)) (.int .i64 (x.size : Nat)) (.int .i64 (x.line : Nat)) (.int .i64 (x.col : Nat)) (.bool x.bad)
      have HL : Hid (Later w (w1.alloc (.cells #[.int .i32 (x.rune : Nat), .int .i64 (x.at_ : Nat), .int .i64 (x.size : Nat), .int .i64 (x.line : Nat), .int .i64 (x.col : Nat), .bool x.bad] 40))) := Later.alloc hl1 _
      generalize w1.alloc (.cells #[.int .i32 (x.rune : Nat), .int .i64 (x.at_ : Nat), .int .i64 (x.size : Nat), .int .i64 (x.line : Nat), .int .i64 (x.col : Nat), .bool x.bad] 40) = W2 at b0 b1 b2 b3 b4 b5 HL ⊢
      clear p0 p1 p2 p3 p4 p5
      go_quiet (fail)
      go_wp2
      go_returns
      exact ⟨by simp [nl, nc, hr], Later.drewN HL.out _⟩

set_option maxRecDepth 1000000 in
set_option maxHeartbeats 1000000 in
theorem same_any (w : World) (L : List Sp) (a b : Option Addr) (ca cb : Nat) (hL : L.length ≤ 1000) (ra : Row w a L) (rb : Row w b L) :
    Calls Tryd.prog 11 #[.slice a L.length ca, .slice b L.length cb] w fun e w' => e = .returned (.bool true) ∧ Later w w' := by
  go_enter Tryd.func11, Tryd.ntmps11
  go_wp2
  go_loopw [5] (fun vi wr => ∃ (k : Nat), vi = .int .i64 (k : Nat) ∧ k ≤ L.length ∧ Later w wr ∧ Row wr a L ∧ Row wr b L) (fun vi _ => L.length - (intOf vi).toNat)
  case atStart => exact ⟨0, rfl, by omega, Later.refl _, ra, rb⟩
  case round =>
    clear ra rb
    obtain ⟨k, rfl, hk, hlw, ra, rb⟩ := hrel
    have HA : Hid (Row wr a L) := ra
    have HB : Hid (Row wr b L) := rb
    by_cases hlt : k < L.length
    · obtain ⟨x, hx⟩ : ∃ x, L[k]? = some x := ⟨_, List.getElem?_eq_getElem hlt⟩
      obtain ⟨ga, rfl, p0, p1, p2, p3, p4, p5⟩ := ra.get hx
      obtain ⟨gb, rfl, q0, q1, q2, q3, q4, q5⟩ := rb.get hx
      clear hx ra rb
      generalize x.rune = r at *
      generalize x.at_ = at1 at *
      generalize x.size = sz at *
      generalize x.line = ln at *
      generalize x.col = cl at *
      generalize x.bad = bd at *
      go_wp2
      go_quiet (fail)
      go_wp2
      go_roundw
      case rel => exact ⟨k + 1, by go_num, by omega, Later.drewN hlw _, Row.later HA.out (Later.drewN (Later.refl _) _), Row.later HB.out (Later.drewN (Later.refl _) _)⟩
      case measure => simp [intOf]; omega
    · go_wp2
      go_ret
      exact ⟨rfl, hlw⟩

end Go.Proofs.YthlbkjalagiobaaDoor
