/-
  What word.Do and the document's own Do tell of any op and any two numbers is one and the same value, written out here; nothing that was in memory turns. Conditions: none.
-/
import Derived.Test.YtdmcgckfdbeblaaAlive
namespace Go.Proofs.Ytdmcgckfdbeblaa
open Go.RowKit

/-- What Do tells: the number, and the five things besides. -/
structure Told where
  n : Int
  z : Bool
  s : Bool
  c : Bool
  o : Bool
  ok : Bool

def told (op a b : Int) : Told :=
  if op == 2 then ⟨wrap64 (a + b), isZ (wrap64 (a + b)), isS (wrap64 (a + b)), lessU (wrap64 (a + b)) a, addO a b (wrap64 (a + b)), true⟩
  else if op == 3 then ⟨wrap64 (a - b), isZ (wrap64 (a - b)), isS (wrap64 (a - b)), lessU a b, subO a b (wrap64 (a - b)), true⟩
  else if op == 4 then ⟨bits .and .i64 a b, isZ (bits .and .i64 a b), isS (bits .and .i64 a b), false, false, true⟩
  else if op == 5 then ⟨bits .or .i64 a b, isZ (bits .or .i64 a b), isS (bits .or .i64 a b), false, false, true⟩
  else if op == 6 then ⟨bits .xor .i64 a b, isZ (bits .xor .i64 a b), isS (bits .xor .i64 a b), false, false, true⟩
  else if op == 7 then ⟨a, isZ (wrap64 (a - b)), isS (wrap64 (a - b)), lessU a b, subO a b (wrap64 (a - b)), true⟩
  else ⟨0, false, false, false, false, false⟩

theorem told_none {op : Int} (a b : Int) (h2 : (op == 2) = false) (h3 : (op == 3) = false) (h4 : (op == 4) = false) (h5 : (op == 5) = false) (h6 : (op == 6) = false) (h7 : (op == 7) = false) :
    told op a b = ⟨0, false, false, false, false, false⟩ := by
  unfold told
  rw [h2, h3, h4, h5, h6, h7]
  rfl

theorem do_any (op a b : Int) (w : World) :
    Calls Try.prog 10 #[.int .i64 op, .int .i64 a, .int .i64 b] w fun e w' =>
      e = .returned (.tuple #[.int .i64 (told op a b).n, .agg #[.bool (told op a b).z, .bool (told op a b).s, .bool (told op a b).c, .bool (told op a b).o], .bool (told op a b).ok]) ∧ Later w w' := by
  rcases opsOf op with rfl | rfl | rfl | rfl | rfl | rfl | ⟨h2, h3, h4, h5, h6, h7⟩
  · exact do_add a b w
  · exact do_sub a b w
  · exact do_and a b w
  · exact do_or a b w
  · exact do_xor a b w
  · exact do_cmp a b w
  · rw [told_none a b h2 h3 h4 h5 h6 h7]
    exact do_none op a b h2 h3 h4 h5 h6 h7 w

theorem ref_any (op a b : Int) (w : World) :
    Calls Try.prog 11 #[.int .i64 op, .int .i64 a, .int .i64 b] w fun e w' =>
      e = .returned (.tuple #[.int .i64 (told op a b).n, .agg #[.bool (told op a b).z, .bool (told op a b).s, .bool (told op a b).c, .bool (told op a b).o], .bool (told op a b).ok]) ∧ Later w w' := by
  rcases opsOf op with rfl | rfl | rfl | rfl | rfl | rfl | ⟨h2, h3, h4, h5, h6, h7⟩
  · exact ref_add a b w
  · exact ref_sub a b w
  · exact ref_and a b w
  · exact ref_or a b w
  · exact ref_xor a b w
  · exact ref_cmp a b w
  · rw [told_none a b h2 h3 h4 h5 h6 h7]
    exact ref_none op a b h2 h3 h4 h5 h6 h7 w
end Go.Proofs.Ytdmcgckfdbeblaa
