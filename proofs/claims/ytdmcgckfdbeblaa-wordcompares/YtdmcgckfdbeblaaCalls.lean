/-
  What each small function that package word's laws call does, for every argument and in every world: it returns the value that is written out here, and turns nothing that was in memory. Conditions: none, but for the bounds of 64 bits where a theorem names them.
-/
import Derived.Test.YtdmcgckfdbeblaaRows
import Derived.WalkKit
import Derived.ProofKit
import Derived.OpenShut
import Derived.Handy
import Derived.WalkSpells
namespace Go.Proofs.Ytdmcgckfdbeblaa
open Go.RowKit

/-- Nothing that was there has turned: new blocks at the most. -/
structure Later (w w' : World) : Prop where
  grown : Grown w w'
  below : Below w.heap.size w w'

theorem Later.refl (w : World) : Later w w := ⟨Grown.refl w, Below.refl _ w⟩
theorem Later.trans {a b c : World} (h : Later a b) (k : Later b c) : Later a c :=
  ⟨⟨World.keptBut_trans h.grown.1 k.grown.1, fun x => (k.grown.2.1 x).trans (h.grown.2.1 x), Nat.le_trans h.grown.2.2 k.grown.2.2⟩,
    h.below.trans (k.below.mono h.grown.2.2)⟩

/-- Which condition holds just where this one does not. -/
def turnedF (c : Int) : Int :=
  if c == 1 then 2 else if c == 2 then 1 else if c == 3 then 6 else if c == 4 then 5 else if c == 5 then 4
  else if c == 6 then 3 else if c == 7 then 10 else if c == 8 then 9 else if c == 9 then 8 else if c == 10 then 7 else 0

/-- Whether a condition holds of the flags. -/
def holdsF (c : Int) (z s k o : Bool) : Bool :=
  if c == 1 then z else if c == 2 then !z else if c == 3 then s != o else if c == 4 then (s != o) || z
  else if c == 5 then !(s != o) && !z else if c == 6 then s == o else if c == 7 then k else if c == 8 then k || z
  else if c == 9 then !k && !z else if c == 10 then !k else false

theorem ret_int {k : IntKind} {a b : Int} (h : a = b) : Ending.returned (.int k a) = .returned (.int k b) := by rw [h]
theorem ret_bool {a b : Bool} (h : a = b) : Ending.returned (.bool a) = .returned (.bool b) := by rw [h]

/-- A number is one of the ten conditions, or none of them. -/
theorem conds (c : Int) : c = 1 ∨ c = 2 ∨ c = 3 ∨ c = 4 ∨ c = 5 ∨ c = 6 ∨ c = 7 ∨ c = 8 ∨ c = 9 ∨ c = 10 ∨
    ((c == 1) = false ∧ (c == 2) = false ∧ (c == 3) = false ∧ (c == 4) = false ∧ (c == 5) = false ∧ (c == 6) = false ∧ (c == 7) = false ∧ (c == 8) = false ∧ (c == 9) = false ∧ (c == 10) = false) := by
  simp only [beq_eq_false_iff_ne, ne_eq]
  omega

theorem turnedF_none {c : Int} (h1 : (c == 1) = false) (h2 : (c == 2) = false) (h3 : (c == 3) = false) (h4 : (c == 4) = false) (h5 : (c == 5) = false) (h6 : (c == 6) = false) (h7 : (c == 7) = false) (h8 : (c == 8) = false) (h9 : (c == 9) = false) (h10 : (c == 10) = false) : turnedF c = 0 := by
  simp [turnedF, h1, h2, h3, h4, h5, h6, h7, h8, h9, h10]
theorem holdsF_none {c : Int} (z s k o : Bool) (h1 : (c == 1) = false) (h2 : (c == 2) = false) (h3 : (c == 3) = false) (h4 : (c == 4) = false) (h5 : (c == 5) = false) (h6 : (c == 6) = false) (h7 : (c == 7) = false) (h8 : (c == 8) = false) (h9 : (c == 9) = false) (h10 : (c == 10) = false) : holdsF c z s k o = false := by
  simp [holdsF, h1, h2, h3, h4, h5, h6, h7, h8, h9, h10]

set_option maxHeartbeats 1000000 in
theorem turned_any (c : Int) (w : World) :
    Calls Try.prog 15 #[.int .i64 c] w fun e w' => e = .returned (.int .i64 (turnedF c)) ∧ w' = w := by
  rcases conds c with rfl | rfl | rfl | rfl | rfl | rfl | rfl | rfl | rfl | rfl | ⟨h1, h2, h3, h4, h5, h6, h7, h8, h9, h10⟩
  case inr.inr.inr.inr.inr.inr.inr.inr.inr.inr =>
    rw [turnedF_none h1 h2 h3 h4 h5 h6 h7 h8 h9 h10]
    go_enter Try.func15, Try.ntmps15
    go_wp2
    go_ret
    exact ⟨rfl, rfl⟩
  all_goals
    go_enter Try.func15, Try.ntmps15
    go_wp2
    go_ret
    exact ⟨rfl, rfl⟩

set_option maxHeartbeats 1000000 in
theorem refTurned_any (c : Int) (w : World) :
    Calls Try.prog 16 #[.int .i64 c] w fun e w' => e = .returned (.int .i64 (turnedF c)) ∧ w' = w := by
  rcases conds c with rfl | rfl | rfl | rfl | rfl | rfl | rfl | rfl | rfl | rfl | ⟨h1, h2, h3, h4, h5, h6, h7, h8, h9, h10⟩
  case inr.inr.inr.inr.inr.inr.inr.inr.inr.inr =>
    rw [turnedF_none h1 h2 h3 h4 h5 h6 h7 h8 h9 h10]
    go_enter Try.func16, Try.ntmps16
    go_wp2
    go_ret
    exact ⟨rfl, rfl⟩
  all_goals
    go_enter Try.func16, Try.ntmps16
    go_wp2
    go_ret
    exact ⟨rfl, rfl⟩

set_option maxHeartbeats 2000000 in
theorem holds_any (c : Int) (z s k o : Bool) (w : World) :
    Calls Try.prog 13 #[.int .i64 c, .agg #[.bool z, .bool s, .bool k, .bool o]] w fun e w' =>
      e = .returned (.bool (holdsF c z s k o)) ∧ Later w w' := by
  rcases conds c with rfl | rfl | rfl | rfl | rfl | rfl | rfl | rfl | rfl | rfl | ⟨h1, h2, h3, h4, h5, h6, h7, h8, h9, h10⟩
  case inr.inr.inr.inr.inr.inr.inr.inr.inr.inr =>
    rw [holdsF_none z s k o h1 h2 h3 h4 h5 h6 h7 h8 h9 h10]
    go_enter Try.func13, Try.ntmps13
    go_wp2
    go_ret
    exact ⟨rfl, by go_grown, by go_grown⟩
  case inr.inr.inr.inl =>
    cases s <;> cases o
    all_goals
      go_enter Try.func13, Try.ntmps13
      go_wp2
      go_ret
      exact ⟨rfl, by go_grown, by go_grown⟩
  case inr.inr.inr.inr.inl =>
    cases s <;> cases o
    all_goals
      go_enter Try.func13, Try.ntmps13
      go_wp2
      go_ret
      exact ⟨rfl, by go_grown, by go_grown⟩
  case inr.inr.inr.inr.inr.inr.inr.inl =>
    cases k
    all_goals
      go_enter Try.func13, Try.ntmps13
      go_wp2
      go_ret
      exact ⟨rfl, by go_grown, by go_grown⟩
  case inr.inr.inr.inr.inr.inr.inr.inr.inl =>
    cases k
    all_goals
      go_enter Try.func13, Try.ntmps13
      go_wp2
      go_ret
      exact ⟨rfl, by go_grown, by go_grown⟩
  all_goals
    go_enter Try.func13, Try.ntmps13
    go_wp2
    go_ret
    exact ⟨rfl, by go_grown, by go_grown⟩

set_option maxHeartbeats 2000000 in
theorem refHolds_any (c : Int) (z s k o : Bool) (w : World) :
    Calls Try.prog 14 #[.int .i64 c, .agg #[.bool z, .bool s, .bool k, .bool o]] w fun e w' =>
      e = .returned (.bool (holdsF c z s k o)) ∧ Later w w' := by
  rcases conds c with rfl | rfl | rfl | rfl | rfl | rfl | rfl | rfl | rfl | rfl | ⟨h1, h2, h3, h4, h5, h6, h7, h8, h9, h10⟩
  case inr.inr.inr.inr.inr.inr.inr.inr.inr.inr =>
    rw [holdsF_none z s k o h1 h2 h3 h4 h5 h6 h7 h8 h9 h10]
    go_enter Try.func14, Try.ntmps14
    go_wp2
    go_ret
    exact ⟨rfl, by go_grown, by go_grown⟩
  case inr.inr.inr.inl =>
    cases s <;> cases o
    all_goals
      go_enter Try.func14, Try.ntmps14
      go_wp2
      go_ret
      exact ⟨rfl, by go_grown, by go_grown⟩
  case inr.inr.inr.inr.inl =>
    cases s <;> cases o
    all_goals
      go_enter Try.func14, Try.ntmps14
      go_wp2
      go_ret
      exact ⟨rfl, by go_grown, by go_grown⟩
  case inr.inr.inr.inr.inr.inr.inr.inl =>
    cases k
    all_goals
      go_enter Try.func14, Try.ntmps14
      go_wp2
      go_ret
      exact ⟨rfl, by go_grown, by go_grown⟩
  case inr.inr.inr.inr.inr.inr.inr.inr.inl =>
    cases k
    all_goals
      go_enter Try.func14, Try.ntmps14
      go_wp2
      go_ret
      exact ⟨rfl, by go_grown, by go_grown⟩
  all_goals
    go_enter Try.func14, Try.ntmps14
    go_wp2
    go_ret
    exact ⟨rfl, by go_grown, by go_grown⟩

theorem pick_ten (n : Int) (w : World) :
    Calls Try.prog 17 #[.int .i64 n, .int .i64 10] w fun e w' => ∃ r, 0 ≤ r ∧ r < 10 ∧ e = .returned (.int .i64 r) ∧ w' = w := by
  have b1 : n.tmod 10 < 10 := Int.tmod_lt_of_pos n (by decide)
  have b2 : -10 < n.tmod 10 := Int.lt_tmod_of_pos n (by decide)
  go_enter Try.func17, Try.ntmps17
  go_wp2
  all_goals go_ret
  all_goals exact ⟨_, by omega, by omega, rfl, rfl⟩

theorem signFlags_any (n : Int) (w : World) :
    Calls Try.prog 20 #[.int .i64 n] w fun e w' => e = .returned (.agg #[.bool (n == 0), .bool (decide (n < 0)), .bool false, .bool false]) ∧ Later w w' := by
  go_enter Try.func20, Try.ntmps20
  go_wp2
  go_returns
  exact ⟨rfl, by go_grown, by go_grown⟩

end Go.Proofs.Ytdmcgckfdbeblaa
