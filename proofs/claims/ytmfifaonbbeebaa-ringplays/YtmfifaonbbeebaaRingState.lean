/-
  A ring and a slice of the call's own beside it, neither in the other's memory: what each call leaves of both; and the statement's own comparison of the two. Conditions: neither is longer than a million.
-/
import Derived.Test.YtmfifaonbbeebaaRingSub
namespace Go.Proofs.Ytmfifaonbbeebaa
open Go.RowKit Go.WideShapes
set_option linter.unusedVariables false
set_option linter.unusedSimpArgs false

theorem last_form2 (L : List (Int × Int)) (a : Int) : ∃ v b, lastV (lastF L a) = .tuple #[.int .i64 v, .bool b] := by
  cases lastF L a with
  | none => exact ⟨0, false, rfl⟩
  | some v => exact ⟨v, true, rfl⟩

set_option maxRecDepth 1000000 in
set_option maxHeartbeats 4000000 in
theorem ringSame_any (n0 : Nat) (w : World) (p : Nat) (b : Option Nat) (L : List (Int × Int)) (N : Nat) (v : Value) (a : Int) (h : RingAt n0 w p b L N) (hN : N ≤ 1000000) (hv : EntRow w v L) :
    Calls Try.prog 13 #[.pointer (some ⟨p, 0, none⟩), v, .int .i64 a] w fun e w' => e = .returned (.bool true) ∧ Later w w' := by
  obtain ⟨v1, b1, e1⟩ := last_form2 L a
  obtain ⟨lp, lcap, rfl, -, -⟩ := hv.slice
  have cS := fun (w3 : World) (v3 r : Value) (h3 : EntRow w3 v3 L) (h4 : EntRow w3 r L) => sameEnt_any w3 v3 r L L h3 h4
  rw [show decide (L = L) = true from decide_eq_true rfl] at cS
  go_enter Try.func13, Try.ntmps13
  go_wp2_with (first
    | (go_at_call 18; refine (last_any n0 _ p b L N a h hN).mono ?_; rintro e w1 ⟨rfl, l1⟩; rw [e1]; have h1 := h.later l1; have r1 := hv.later l1; clear h hv)
    | (go_at_call 21; refine (refLast_any _ _ L a r1).mono ?_; rintro e w2 ⟨rfl, l2⟩; rw [e1]; have h2 := h1.later l2; have r2 := r1.later l2; clear h1 r1)
    | (go_at_call 14; refine (len_any n0 _ p b L N h2 hN).mono ?_; rintro e w3 ⟨rfl, l3⟩; have h3 := h2.later l3; have r3 := r2.later l3; clear h2 r2)
    | (go_at_call 17; refine (list_any n0 _ p b L N h3 hN).mono ?_; rintro e w4 ⟨v4, rfl, ho4, l4⟩; have r4 := r3.later l4; have o4 := EntRow.of_owns rfl ho4; clear h3 r3 ho4)
    | (go_at_call 16; refine (cS _ _ _ o4 r4).mono ?_; rintro e w5 ⟨rfl, l5⟩))
  go_ret
  exact ⟨rfl, l1.trans (l2.trans (l3.trans (l4.trans l5)))⟩

/-- A ring that holds A, a slice that holds B, both made since w0, apart. -/
structure St (w0 w : World) (p : Nat) (b : Option Nat) (A : List (Int × Int)) (v : Value) (B : List (Int × Int)) (N : Nat) : Prop where
  ring : RingAt w0.heap.size w p b A N
  row : SubRow w0.heap.size w v B
  apart : ∀ k, v.ownBlock = some k → b ≠ some k
  later : Later w0 w

theorem St.next {w0 w w' : World} {p : Nat} {b : Option Nat} {A : List (Int × Int)} {v : Value} {B : List (Int × Int)} {N : Nat} (h : St w0 w p b A v B N) (hl : Later w w') : St w0 w' p b A v B N :=
  ⟨h.ring.later hl, h.row.later hl, h.apart, h.later.trans hl⟩

theorem St.more {w0 w : World} {p : Nat} {b : Option Nat} {A : List (Int × Int)} {v : Value} {B : List (Int × Int)} {N M : Nat} (h : St w0 w p b A v B N) (hM : N ≤ M) : St w0 w p b A v B M :=
  ⟨h.ring.more hM, h.row, h.apart, h.later⟩

/-- Where the boxes of a round lie: neither in the ring, nor in its row, nor in the slice's. -/
theorem St.far {w0 w : World} {p : Nat} {b : Option Nat} {A : List (Int × Int)} {v : Value} {B : List (Int × Int)} {N k : Nat} (h : St w0 w p b A v B N) (hk : w.heap.size ≤ k) : k ≠ p ∧ some k ≠ b ∧ some k ≠ v.ownBlock := by
  obtain ⟨-, -, h3, h4⟩ := h.ring.ge
  refine ⟨by omega, fun e => ?_, fun e => ?_⟩
  · have := h4 k e.symm; omega
  · have := (h.row.own k e.symm).2; omega

theorem St.not_p {w0 w : World} {p : Nat} {b : Option Nat} {A : List (Int × Int)} {v : Value} {B : List (Int × Int)} {N : Nat} (h : St w0 w p b A v B N) : v.ownBlock ≠ some p := by
  obtain ⟨u, pre, -, h2, -⟩ := h.ring
  exact h.row.not h2 (by decide)

/-- Behind a call that turns the ring's two blocks alone. -/
theorem St.of_touch {w0 w w' : World} {p : Nat} {b b' : Option Nat} {A A' : List (Int × Int)} {v : Value} {B : List (Int × Int)} {N M : Nat} (h : St w0 w p b A v B N) (hr : RingAt w0.heap.size w' p b' A' M) (ht : Touch p b w w') (hs : Same w b b') : St w0 w' p b' A' v B M := by
  refine ⟨hr, h.row.touch ht h.not_p (fun k hk e => h.apart k hk e.symm), fun k hk => ?_, touch_later h.ring h.later ht⟩
  rcases hs with rfl | rfl | ⟨j, rfl, hj⟩
  · exact h.apart k hk
  · simp
  · intro e
    simp only [Option.some.injEq] at e
    have := (h.row.own k hk).2
    omega

theorem st_push (w0 w : World) (p : Nat) (b : Option Nat) (x : Int × Int) (A : List (Int × Int)) (v : Value) (B : List (Int × Int)) (N : Nat) (h : St w0 w p b A v B N) (hN : N < 1000000) :
    Calls Try.prog 11 #[.pointer (some ⟨p, 0, none⟩), .agg #[.int .i64 x.1, .int .i64 x.2]] w fun e w' => e = .returned (.tuple #[]) ∧ ∃ b', St w0 w' p b' (A ++ [x]) v B (N + 1) ∧ Touch p b w w' :=
  (push_any _ w p b x A N h.ring hN).mono fun e w' ⟨k1, b', k2, k3, k4⟩ => ⟨k1, b', h.of_touch k2 k3 k4, k3⟩

theorem st_pop (w0 w : World) (p : Nat) (b : Option Nat) (x : Int × Int) (A : List (Int × Int)) (v : Value) (B : List (Int × Int)) (N : Nat) (h : St w0 w p b (x :: A) v B N) (hN : N ≤ 1000000) :
    Calls Try.prog 12 #[.pointer (some ⟨p, 0, none⟩)] w fun e w' => e = .returned (.tuple #[.agg #[.int .i64 x.1, .int .i64 x.2], .bool true]) ∧ ∃ b', St w0 w' p b' A v B N ∧ Touch p b w w' :=
  (pop_some _ w p b x A N h.ring hN).mono fun e w' ⟨k1, b', k2, k3, k4⟩ => ⟨k1, b', h.of_touch k2 k3 k4, k3⟩

theorem st_pop0 (w0 w : World) (p : Nat) (b : Option Nat) (v : Value) (B : List (Int × Int)) (N : Nat) (h : St w0 w p b [] v B N) (hN : N ≤ 1000000) :
    Calls Try.prog 12 #[.pointer (some ⟨p, 0, none⟩)] w fun e w' => e = .returned (.tuple #[.agg #[.int .i64 0, .int .i64 0], .bool false]) ∧ Later w w' :=
  pop_none _ w p b N h.ring hN

/-- Behind an append to the slice. -/
theorem St.app {w0 w w' : World} {p : Nat} {b : Option Nat} {A : List (Int × Int)} {v v' : Value} {B B' : List (Int × Int)} {N : Nat} (h : St w0 w p b A v B N) (hr : SubRow w0.heap.size w' v' B') (hg : w.grownBy w' v.ownBlock) (ho : v'.ownBlock = v.ownBlock ∨ v'.ownBlock = some w.heap.size) : St w0 w' p b A v' B' N := by
  obtain ⟨h1, h2, h3, h4⟩ := h.ring.ge
  have hnp := h.not_p
  refine ⟨?_, hr, fun k hk => ?_, ?_⟩
  · obtain ⟨u, pre, k1, k2, rfl, k4, k5⟩ := h.ring
    refine ⟨u, pre, k1, ?_, rfl, k4, ?_⟩
    · rw [hg.block p h3 hnp.symm]; exact k2
    · refine k5.kept hg ?_
      cases hu : u.ownBlock with
      | none => exact .inl rfl
      | some j =>
        right
        rw [← hu]
        intro e
        exact h.apart j (by rw [← e, hu]) hu
  · rcases ho with ho | ho
    · exact h.apart k (by rw [← ho]; exact hk)
    · rw [hk] at ho
      simp only [Option.some.injEq] at ho
      intro e
      have := h4 k e
      omega
  · exact Below.grown h.later hg h.later.size (fun k hk => (h.row.own k hk).1)

theorem St.tail {w0 w : World} {p : Nat} {b : Option Nat} {A : List (Int × Int)} {a : Option Addr} {n cap : Nat} {x : Int × Int} {B : List (Int × Int)} {N : Nat} (h : St w0 w p b A (.slice a n cap) (x :: B) N) :
    ∃ q, St w0 w p b A (.slice q (n - 1) (cap - 1)) B N ∧ (∀ w', (Instr.slice 26 (.slice a n cap) (some (.int .i64 1)) none none).run Try.prog w' = .ok (.slice q (n - 1) (cap - 1)) w') := by
  obtain ⟨q, h1, h2, h3⟩ := h.row.tail
  exact ⟨q, ⟨h.ring, h1, fun k hk => h.apart k (by rw [← h2]; exact hk), h.later⟩, h3⟩

end Go.Proofs.Ytmfifaonbbeebaa
