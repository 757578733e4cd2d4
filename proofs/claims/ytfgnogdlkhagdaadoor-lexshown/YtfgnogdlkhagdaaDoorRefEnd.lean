/-
  What the document's own End returns. Nothing that was in memory turns. Conditions: the text has at most 1000000 bytes.
-/
import Derived.Test.YtfgnogdlkhagdaaDoorJb
namespace Go.Proofs.YtfgnogdlkhagdaaDoor
open Go.RowKit

theorem place_last (s : ByteArray) (E : List Sp) (x : Sp) (h : E ++ [x] = spots s) : (placeOf (spots s)).2 = (nl x.line x.rune, nc x.col x.rune) := by
  obtain ⟨_, h2, h3, _, _⟩ := spots_at s E.length x (by rw [← h]; simp)
  rw [← h, List.take_left] at h2 h3
  rw [← h, placeOf_snoc]
  show (nl _ _, nc _ _) = _
  rw [← h2, ← h3]

theorem six_new (w : World) (t : TypeId) (a b c d e f : Value) : (w.alloc (.cells #[a, b, c, d, e, f] t)).cell? ⟨w.heap.size, 0, none⟩ = some a ∧ (w.alloc (.cells #[a, b, c, d, e, f] t)).cell? ⟨w.heap.size, 1, none⟩ = some b ∧ (w.alloc (.cells #[a, b, c, d, e, f] t)).cell? ⟨w.heap.size, 2, none⟩ = some c ∧ (w.alloc (.cells #[a, b, c, d, e, f] t)).cell? ⟨w.heap.size, 3, none⟩ = some d ∧ (w.alloc (.cells #[a, b, c, d, e, f] t)).cell? ⟨w.heap.size, 4, none⟩ = some e ∧ (w.alloc (.cells #[a, b, c, d, e, f] t)).cell? ⟨w.heap.size, 5, none⟩ = some f := by
  refine ⟨?_, ?_, ?_, ?_, ?_, ?_⟩ <;> simp

set_option maxRecDepth 1000000 in
set_option maxHeartbeats 1000000 in
theorem refEnd_any (s : ByteArray) (hsz : s.size ≤ 1000000) (w : World) :
    Calls Tryd.prog 41 #[.string s] w fun e w' => e = .returned (.tuple #[.int .i64 ((placeOf (spots s)).2.1 : Nat), .int .i64 ((placeOf (spots s)).2.2 : Nat)]) ∧ Later w w' := by
  have hc := fun w' => refSpots_any s hsz w'
  rcases nil_or_snoc (spots s) with h0 | ⟨E, x, h0⟩
  · rw [h0] at hc ⊢
    go_enter Tryd.func41, Tryd.ntmps41
    go_wp2_with (go_at_call 36; refine (hc _).mono ?_; rintro e w1 ⟨⟨a, cap, rfl, -⟩, hl1⟩)
    go_returns
    exact ⟨rfl, hl1⟩
  · have hpl := place_last s E x h0.symm
    have hx : (spots s)[E.length]? = some x := by rw [h0]; simp
    have hle := spot_le s E.length x hx
    have hlen : (spots s).length = E.length + 1 := by rw [h0]; simp
    have hEl : E.length ≤ 1000000 := by have := (place_all s).2.2; omega
    rw [hlen] at hc
    generalize spots s = L at *
    generalize (placeOf L).2 = p at *
    subst hpl
    have hi0 : (0 : Int) < (E.length : Int) + 1 := by omega
    have hi1 : (E.length : Int) < (E.length : Int) + 1 := by omega
    have hi2 : (E.length : Int) < ((E.length + 1 : Nat) : Int) := by omega
    have hi3 : (((E.length : Int) + 1) == 0) = false := by simp; omega
    have HX : Hid (L[E.length]? = some x) := hx
    clear h0 hx hlen
    by_cases hr : x.rune = 10
    · rw [hr]
      go_enter Tryd.func41, Tryd.ntmps41
      go_wp2_with (go_at_call 36; refine (hc _).mono ?_; rintro e w1 ⟨⟨a, cap, rfl, hrow⟩, hl1⟩; obtain ⟨gg, rfl, p0, p1, p2, p3, p4, p5⟩ := hrow.get HX.out; rw [hr] at p0; clear hrow)
      go_returns
      exact ⟨rfl, Later.alloc hl1 _⟩
    · have hr' : ((x.rune : Int) == 10) = false := by simp; omega
      go_enter Tryd.func41, Tryd.ntmps41
      go_wp2_with (go_at_call 36; refine (hc _).mono ?_; rintro e w1 ⟨⟨a, cap, rfl, hrow⟩, hl1⟩; obtain ⟨gg, rfl, p0, p1, p2, p3, p4, p5⟩ := hrow.get HX.out; clear hrow)
      obtain ⟨b0, b1, b2, b3, b4, b5⟩ := six_new w1 80 (.int .i32 (x.rune : Nat)) (.int .i64 (x.at_ : Nat)) (.int .i64 (x.size : Nat)) (.int .i64 (x.line : Nat)) (.int .i64 (x.col : Nat)) (.bool x.bad)
      have HL : Hid (Later w (w1.alloc (.cells #[.int .i32 (x.rune : Nat), .int .i64 (x.at_ : Nat), .int .i64 (x.size : Nat), .int .i64 (x.line : Nat), .int .i64 (x.col : Nat), .bool x.bad] 80))) := Later.alloc hl1 _
      generalize w1.alloc (.cells #[.int .i32 (x.rune : Nat), .int .i64 (x.at_ : Nat), .int .i64 (x.size : Nat), .int .i64 (x.line : Nat), .int .i64 (x.col : Nat), .bool x.bad] 80) = W2 at b0 b1 b2 b3 b4 b5 HL ⊢
      clear p0 p1 p2 p3 p4 p5
      go_quiet (fail)
      go_wp2
      go_returns
      exact ⟨by simp [nl, nc, hr], Later.drewN HL.out _⟩

end Go.Proofs.YtfgnogdlkhagdaaDoor
