/-
  What word.Do and the document's own Do reckon, op by op, for every two numbers and in every world: the value that is written out here; nothing that was in memory turns. Conditions: none.
-/
import Derived.Test.YtdmcgckfdbeblaaCalls
namespace Go.Proofs.Ytdmcgckfdbeblaa
open Go.RowKit

def isZ (n : Int) : Bool := n == 0
def isS (n : Int) : Bool := decide (n < 0)
def lessU (a b : Int) : Bool := decide (IntKind.u64.wrap a < IntKind.u64.wrap b)
def addO (a b n : Int) : Bool := (decide (a < 0) == decide (b < 0)) && (decide (n < 0) != decide (a < 0))
def subO (a b n : Int) : Bool := (decide (a < 0) != decide (b < 0)) && (decide (n < 0) != decide (a < 0))

theorem ret_do {n n' : Int} {z z' s s' c c' o o' k : Bool} (hn : n = n') (hz : z = z') (hs : s = s') (hc : c = c') (ho : o = o') :
    Ending.returned (.tuple #[.int .i64 n, .agg #[.bool z, .bool s, .bool c, .bool o], .bool k]) = Ending.returned (.tuple #[.int .i64 n', .agg #[.bool z', .bool s', .bool c', .bool o'], .bool k]) := by
  rw [hn, hz, hs, hc, ho]

theorem add_yes {a b : Int} (n : Int) (h : a < 0 ↔ b < 0) : (!(decide (n < 0) == decide (b < 0))) = addO a b n := by
  have e : decide (a < 0) = decide (b < 0) := by simp only [h]
  unfold addO
  rw [e]
  cases decide (n < 0) <;> cases decide (b < 0) <;> rfl
theorem add_no {a b : Int} (n : Int) (h : ¬(a < 0 ↔ b < 0)) : false = addO a b n := by
  have e : (decide (a < 0) == decide (b < 0)) = false := by simpa [decide_eq_decide] using h
  unfold addO
  rw [e]
  rfl
theorem sub_no {a b : Int} (n : Int) (h : a < 0 ↔ b < 0) : false = subO a b n := by
  have e : (decide (a < 0) == decide (b < 0)) = true := by simpa [decide_eq_decide] using h
  unfold subO
  simp only [bne, e]
  rfl

set_option maxHeartbeats 1000000 in
theorem do_add (a b : Int) (w : World) :
    Calls Try.prog 10 #[.int .i64 2, .int .i64 a, .int .i64 b] w fun e w' =>
      e = .returned (.tuple #[.int .i64 (wrap64 (a + b)), .agg #[.bool (isZ (wrap64 (a + b))), .bool (isS (wrap64 (a + b))), .bool (lessU (wrap64 (a + b)) a), .bool (addO a b (wrap64 (a + b)))], .bool true]) ∧ Later w w' := by
  go_enter Try.func10, Try.ntmps10
  go_wp2
  all_goals go_returns
  all_goals exact ⟨ret_do rfl rfl rfl rfl (by first | exact add_no _ ‹_› | exact add_yes _ ‹_›), by go_grown, by go_grown⟩

set_option maxHeartbeats 1000000 in
theorem do_sub (a b : Int) (w : World) :
    Calls Try.prog 10 #[.int .i64 3, .int .i64 a, .int .i64 b] w fun e w' =>
      e = .returned (.tuple #[.int .i64 (wrap64 (a - b)), .agg #[.bool (isZ (wrap64 (a - b))), .bool (isS (wrap64 (a - b))), .bool (lessU a b), .bool (subO a b (wrap64 (a - b)))], .bool true]) ∧ Later w w' := by
  go_enter Try.func10, Try.ntmps10
  go_wp2
  all_goals go_returns
  all_goals exact ⟨ret_do rfl rfl rfl rfl (by first | exact sub_no _ ‹_› | rfl), by go_grown, by go_grown⟩

set_option maxHeartbeats 1000000 in
theorem do_cmp (a b : Int) (w : World) :
    Calls Try.prog 10 #[.int .i64 7, .int .i64 a, .int .i64 b] w fun e w' =>
      e = .returned (.tuple #[.int .i64 (a), .agg #[.bool (isZ (wrap64 (a - b))), .bool (isS (wrap64 (a - b))), .bool (lessU a b), .bool (subO a b (wrap64 (a - b)))], .bool true]) ∧ Later w w' := by
  go_enter Try.func10, Try.ntmps10
  go_wp2
  all_goals go_returns
  all_goals exact ⟨ret_do rfl rfl rfl rfl (by first | exact sub_no _ ‹_› | rfl), by go_grown, by go_grown⟩

set_option maxHeartbeats 1000000 in
theorem do_and (a b : Int) (w : World) :
    Calls Try.prog 10 #[.int .i64 4, .int .i64 a, .int .i64 b] w fun e w' =>
      e = .returned (.tuple #[.int .i64 (bits .and .i64 a b), .agg #[.bool (isZ (bits .and .i64 a b)), .bool (isS (bits .and .i64 a b)), .bool (false), .bool (false)], .bool true]) ∧ Later w w' := by
  go_enter Try.func10, Try.ntmps10
  go_wp2
  all_goals go_returns
  all_goals exact ⟨ret_do rfl rfl rfl rfl rfl, by go_grown, by go_grown⟩

set_option maxHeartbeats 1000000 in
theorem do_or (a b : Int) (w : World) :
    Calls Try.prog 10 #[.int .i64 5, .int .i64 a, .int .i64 b] w fun e w' =>
      e = .returned (.tuple #[.int .i64 (bits .or .i64 a b), .agg #[.bool (isZ (bits .or .i64 a b)), .bool (isS (bits .or .i64 a b)), .bool (false), .bool (false)], .bool true]) ∧ Later w w' := by
  go_enter Try.func10, Try.ntmps10
  go_wp2
  all_goals go_returns
  all_goals exact ⟨ret_do rfl rfl rfl rfl rfl, by go_grown, by go_grown⟩

set_option maxHeartbeats 1000000 in
theorem do_xor (a b : Int) (w : World) :
    Calls Try.prog 10 #[.int .i64 6, .int .i64 a, .int .i64 b] w fun e w' =>
      e = .returned (.tuple #[.int .i64 (bits .xor .i64 a b), .agg #[.bool (isZ (bits .xor .i64 a b)), .bool (isS (bits .xor .i64 a b)), .bool (false), .bool (false)], .bool true]) ∧ Later w w' := by
  go_enter Try.func10, Try.ntmps10
  go_wp2
  all_goals go_returns
  all_goals exact ⟨ret_do rfl rfl rfl rfl rfl, by go_grown, by go_grown⟩

set_option maxHeartbeats 1000000 in
theorem do_none (op a b : Int) (h2 : (op == 2) = false) (h3 : (op == 3) = false) (h4 : (op == 4) = false) (h5 : (op == 5) = false) (h6 : (op == 6) = false) (h7 : (op == 7) = false) (w : World) :
    Calls Try.prog 10 #[.int .i64 op, .int .i64 a, .int .i64 b] w fun e w' =>
      e = .returned (.tuple #[.int .i64 0, .agg #[.bool false, .bool false, .bool false, .bool false], .bool false]) ∧ Later w w' := by
  go_enter Try.func10, Try.ntmps10
  go_wp2
  all_goals go_returns
  all_goals exact ⟨rfl, by go_grown, by go_grown⟩

set_option maxHeartbeats 1000000 in
theorem ref_add (a b : Int) (w : World) :
    Calls Try.prog 11 #[.int .i64 2, .int .i64 a, .int .i64 b] w fun e w' =>
      e = .returned (.tuple #[.int .i64 (wrap64 (a + b)), .agg #[.bool (isZ (wrap64 (a + b))), .bool (isS (wrap64 (a + b))), .bool (lessU (wrap64 (a + b)) a), .bool (addO a b (wrap64 (a + b)))], .bool true]) ∧ Later w w' := by
  go_enter Try.func11, Try.ntmps11
  go_wp2
  all_goals go_region
  all_goals go_wp2
  all_goals go_returns
  all_goals exact ⟨ret_do rfl rfl rfl rfl (by first | exact add_no _ ‹_› | exact add_yes _ ‹_›), by go_grown, by go_grown⟩

set_option maxHeartbeats 1000000 in
theorem ref_sub (a b : Int) (w : World) :
    Calls Try.prog 11 #[.int .i64 3, .int .i64 a, .int .i64 b] w fun e w' =>
      e = .returned (.tuple #[.int .i64 (wrap64 (a - b)), .agg #[.bool (isZ (wrap64 (a - b))), .bool (isS (wrap64 (a - b))), .bool (lessU a b), .bool (subO a b (wrap64 (a - b)))], .bool true]) ∧ Later w w' := by
  go_enter Try.func11, Try.ntmps11
  go_wp2
  all_goals go_region
  all_goals go_wp2
  all_goals go_returns
  all_goals exact ⟨ret_do rfl rfl rfl rfl (by first | exact sub_no _ ‹_› | rfl), by go_grown, by go_grown⟩

set_option maxHeartbeats 1000000 in
theorem ref_cmp (a b : Int) (w : World) :
    Calls Try.prog 11 #[.int .i64 7, .int .i64 a, .int .i64 b] w fun e w' =>
      e = .returned (.tuple #[.int .i64 (a), .agg #[.bool (isZ (wrap64 (a - b))), .bool (isS (wrap64 (a - b))), .bool (lessU a b), .bool (subO a b (wrap64 (a - b)))], .bool true]) ∧ Later w w' := by
  go_enter Try.func11, Try.ntmps11
  go_wp2
  all_goals go_region
  all_goals go_wp2
  all_goals go_returns
  all_goals exact ⟨ret_do rfl rfl rfl rfl (by first | exact sub_no _ ‹_› | rfl), by go_grown, by go_grown⟩

set_option maxHeartbeats 1000000 in
theorem ref_and (a b : Int) (w : World) :
    Calls Try.prog 11 #[.int .i64 4, .int .i64 a, .int .i64 b] w fun e w' =>
      e = .returned (.tuple #[.int .i64 (bits .and .i64 a b), .agg #[.bool (isZ (bits .and .i64 a b)), .bool (isS (bits .and .i64 a b)), .bool (false), .bool (false)], .bool true]) ∧ Later w w' := by
  go_enter Try.func11, Try.ntmps11
  go_wp2
  all_goals go_region
  all_goals go_wp2
  all_goals go_returns
  all_goals exact ⟨ret_do rfl rfl rfl rfl rfl, by go_grown, by go_grown⟩

set_option maxHeartbeats 1000000 in
theorem ref_or (a b : Int) (w : World) :
    Calls Try.prog 11 #[.int .i64 5, .int .i64 a, .int .i64 b] w fun e w' =>
      e = .returned (.tuple #[.int .i64 (bits .or .i64 a b), .agg #[.bool (isZ (bits .or .i64 a b)), .bool (isS (bits .or .i64 a b)), .bool (false), .bool (false)], .bool true]) ∧ Later w w' := by
  go_enter Try.func11, Try.ntmps11
  go_wp2
  all_goals go_region
  all_goals go_wp2
  all_goals go_returns
  all_goals exact ⟨ret_do rfl rfl rfl rfl rfl, by go_grown, by go_grown⟩

set_option maxHeartbeats 1000000 in
theorem ref_xor (a b : Int) (w : World) :
    Calls Try.prog 11 #[.int .i64 6, .int .i64 a, .int .i64 b] w fun e w' =>
      e = .returned (.tuple #[.int .i64 (bits .xor .i64 a b), .agg #[.bool (isZ (bits .xor .i64 a b)), .bool (isS (bits .xor .i64 a b)), .bool (false), .bool (false)], .bool true]) ∧ Later w w' := by
  go_enter Try.func11, Try.ntmps11
  go_wp2
  all_goals go_region
  all_goals go_wp2
  all_goals go_returns
  all_goals exact ⟨ret_do rfl rfl rfl rfl rfl, by go_grown, by go_grown⟩

set_option maxHeartbeats 1000000 in
theorem ref_none (op a b : Int) (h2 : (op == 2) = false) (h3 : (op == 3) = false) (h4 : (op == 4) = false) (h5 : (op == 5) = false) (h6 : (op == 6) = false) (h7 : (op == 7) = false) (w : World) :
    Calls Try.prog 11 #[.int .i64 op, .int .i64 a, .int .i64 b] w fun e w' =>
      e = .returned (.tuple #[.int .i64 0, .agg #[.bool false, .bool false, .bool false, .bool false], .bool false]) ∧ Later w w' := by
  go_enter Try.func11, Try.ntmps11
  go_wp2
  all_goals go_returns
  all_goals exact ⟨rfl, by go_grown, by go_grown⟩

/-- An op is one of the six that reckon, or none of them. -/
theorem opsOf (op : Int) : op = 2 ∨ op = 3 ∨ op = 4 ∨ op = 5 ∨ op = 6 ∨ op = 7 ∨
    ((op == 2) = false ∧ (op == 3) = false ∧ (op == 4) = false ∧ (op == 5) = false ∧ (op == 6) = false ∧ (op == 7) = false) := by
  simp only [beq_eq_false_iff_ne, ne_eq]
  omega

end Go.Proofs.Ytdmcgckfdbeblaa
