/-
  One ring, made since some world: each call of it; and the statements' own first calls. Conditions: the ring is no longer than a million.
-/
import Derived.Test.YtmfifaonbbeebaaRingB
import Derived.Test.YtmfifaonbbeebaaRingEq
import Derived.Test.YtmfifaonbbeebaaRingLast
namespace Go.Proofs.Ytmfifaonbbeebaa
open Go.RowKit Go.WideShapes
set_option linter.unusedVariables false
set_option linter.unusedSimpArgs false

/-- A ring made since w0, and all of w0 as it was. -/
def One (w0 w : World) (p : Nat) (L : List (Int × Int)) (N : Nat) : Prop := ∃ b, RingAt w0.heap.size w p b L N ∧ Later w0 w

theorem One.later {w0 w w' : World} {p : Nat} {L : List (Int × Int)} {N : Nat} (h : One w0 w p L N) (hl : Later w w') : One w0 w' p L N := by
  obtain ⟨b, h1, h2⟩ := h
  exact ⟨b, h1.later hl, h2.trans hl⟩
theorem One.all {w0 w : World} {p : Nat} {L : List (Int × Int)} {N : Nat} (h : One w0 w p L N) : Later w0 w := by
  obtain ⟨b, h1, h2⟩ := h
  exact h2
theorem One.more {w0 w : World} {p : Nat} {L : List (Int × Int)} {N M : Nat} (h : One w0 w p L N) (hM : N ≤ M) : One w0 w p L M := by
  obtain ⟨b, h1, h2⟩ := h
  exact ⟨b, h1.more hM, h2⟩
theorem One.len {w0 w : World} {p : Nat} {L : List (Int × Int)} {N : Nat} (h : One w0 w p L N) : L.length ≤ N := by
  obtain ⟨b, h1, h2⟩ := h
  exact h1.len

theorem one_new (w0 w : World) (h : Later w0 w) : Calls Try.prog 8 #[] w fun e w' => ∃ p, e = .returned (.pointer (some ⟨p, 0, none⟩)) ∧ One w0 w' p [] 0 ∧ Later w w' :=
  (new_any w0.heap.size w h.size).mono fun e w' ⟨h1, h2, h3⟩ => ⟨_, h1, ⟨none, h3, h.trans h2⟩, h2⟩

theorem touch_later {w0 w w' : World} {p : Nat} {b : Option Nat} {L : List (Int × Int)} {N : Nat} (h : RingAt w0.heap.size w p b L N) (hl : Later w0 w) (ht : Touch p b w w') : Later w0 w' := by
  obtain ⟨h1, h2, -, -⟩ := h.ge
  exact Below.trans hl (ht.below hl.size h1 h2)

theorem one_push (w0 w : World) (p : Nat) (x : Int × Int) (L : List (Int × Int)) (N : Nat) (h : One w0 w p L N) (hN : N < 1000000) :
    Calls Try.prog 11 #[.pointer (some ⟨p, 0, none⟩), .agg #[.int .i64 x.1, .int .i64 x.2]] w fun e w' => e = .returned (.tuple #[]) ∧ One w0 w' p (L ++ [x]) (N + 1) := by
  obtain ⟨b, h1, h2⟩ := h
  exact (push_any _ w p b x L N h1 hN).mono fun e w' ⟨k1, b', k2, k3, k4⟩ => ⟨k1, b', k2, touch_later h1 h2 k3⟩

theorem one_pop (w0 w : World) (p : Nat) (x : Int × Int) (L : List (Int × Int)) (N : Nat) (h : One w0 w p (x :: L) N) (hN : N ≤ 1000000) :
    Calls Try.prog 12 #[.pointer (some ⟨p, 0, none⟩)] w fun e w' => e = .returned (.tuple #[.agg #[.int .i64 x.1, .int .i64 x.2], .bool true]) ∧ One w0 w' p L N := by
  obtain ⟨b, h1, h2⟩ := h
  exact (pop_some _ w p b x L N h1 hN).mono fun e w' ⟨k1, b', k2, k3, k4⟩ => ⟨k1, b', k2, touch_later h1 h2 k3⟩

theorem one_pop0 (w0 w : World) (p : Nat) (N : Nat) (h : One w0 w p [] N) (hN : N ≤ 1000000) :
    Calls Try.prog 12 #[.pointer (some ⟨p, 0, none⟩)] w fun e w' => e = .returned (.tuple #[.agg #[.int .i64 0, .int .i64 0], .bool false]) ∧ One w0 w' p [] N := by
  obtain ⟨b, h1, h2⟩ := h
  exact (pop_none _ w p b N h1 hN).mono fun e w' ⟨k1, k2⟩ => ⟨k1, b, h1.later k2, h2.trans k2⟩

theorem one_last (w0 w : World) (p : Nat) (L : List (Int × Int)) (N : Nat) (a : Int) (h : One w0 w p L N) (hN : N ≤ 1000000) :
    Calls Try.prog 18 #[.pointer (some ⟨p, 0, none⟩), .int .i64 a] w fun e w' => e = .returned (lastV (lastF L a)) ∧ One w0 w' p L N := by
  obtain ⟨b, h1, h2⟩ := h
  exact (last_any _ w p b L N a h1 hN).mono fun e w' ⟨k1, k2⟩ => ⟨k1, b, h1.later k2, h2.trans k2⟩

theorem one_len (w0 w : World) (p : Nat) (L : List (Int × Int)) (N : Nat) (h : One w0 w p L N) (hN : N ≤ 1000000) :
    Calls Try.prog 14 #[.pointer (some ⟨p, 0, none⟩)] w fun e w' => e = .returned (.int .i64 L.length) ∧ One w0 w' p L N := by
  obtain ⟨b, h1, h2⟩ := h
  exact (len_any _ w p b L N h1 hN).mono fun e w' ⟨k1, k2⟩ => ⟨k1, b, h1.later k2, h2.trans k2⟩

set_option maxRecDepth 1000000 in
set_option maxHeartbeats 4000000 in
theorem ringAlive_any (w : World) : Calls Try.prog 9 #[] w fun e w' => e = .returned (.bool true) ∧ Later w w' := by
  have q1 := ent_guard
  have q2 := fun a b c d w => equal_ent a b c d w
  have eL : lastV (lastF [(1, 5), (1, 7)] 1) = .tuple #[.int .i64 7, .bool true] := rfl
  go_enter Try.func9, Try.ntmps9
  go_upto_region 8 with (first
    | (go_at_call 8; refine (one_new w _ (Later.refl w)).mono ?_; rintro e w1 ⟨p, rfl, h1, -⟩)
    | (go_at_call 11; refine (one_push w _ p (1, 5) [] 0 h1 (by omega)).mono ?_; rintro e w2 ⟨rfl, h2⟩; clear h1)
    | (go_at_call 11; refine (one_push w _ p (1, 7) _ _ h2 (by omega)).mono ?_; rintro e w3 ⟨rfl, h3⟩; clear h2)
    | (go_at_call 18; refine (one_last w _ p _ _ 1 h3 (by omega)).mono ?_; rintro e w4 ⟨rfl, h4⟩; rw [show lastV (lastF (([] ++ [(1, 5)]) ++ [(1, 7)]) 1) = .tuple #[.int .i64 7, .bool true] from rfl])
    | (go_at_call 12; refine (one_pop w _ p (1, 5) [(1, 7)] _ h4 (by omega)).mono ?_; rintro e w5 ⟨rfl, h5⟩))
  have hb := at_new w5 (.cells #[.int .i64 1, .int .i64 5] 31)
  obtain ⟨b0, b1, -⟩ := box2_facts hb
  have h6 := h5.later (Later.alloc (Later.refl w5) (.cells #[.int .i64 1, .int .i64 5] 31))
  clear h5 h4 h3 hb
  go_wp2_with (go_at_call 14; refine (one_len w _ p [(1, 7)] _ h6 (by omega)).mono ?_; rintro e w7 ⟨rfl, h7⟩; rw [show (([(1, 7)] : List (Int × Int)).length : Int) = 1 from rfl])
  go_ret
  exact ⟨rfl, h7.all⟩

end Go.Proofs.Ytmfifaonbbeebaa
