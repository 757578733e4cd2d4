/-
  What num.Text returns: the number's decimal text; nothing that was in memory turns. Conditions: the listed tables stand as they are laid.
-/
import Derived.Test.YtfgnogdlkhagdaaDoorShelf
import Derived.Test.YtfgnogdlkhagdaaDoorJa
import Derived.Test.YtfgnogdlkhagdaaDoorJc
namespace Go.Proofs.YtfgnogdlkhagdaaDoor
open Go.RowKit

/-- The tables that the calls read. -/
structure ShowGood (w : World) : Prop where
  names : NamesGood w
  tab : Lib.TabIs Tryd.prog w "internal/strconv.uint64pow10" .u64 Lib.pow10Tab

theorem ShowGood.later {w w' : World} (g : ShowGood w) (h : Later w w') : ShowGood w' := ⟨g.names.later h, var_later g.tab h⟩

theorem Later.grow (w : World) (k : Nat) (os : Array Obj) : Later w (Sort.grow (w.drewN k) os) :=
  ⟨rfl, rfl, rfl, by simp [Sort.grow, World.drewN], fun j hj => Sort.heap_grow_old (w.drewN k) os hj⟩

theorem numText_any (n : Int) (h0 : -9223372036854775808 ≤ n) (h1 : n ≤ 9223372036854775807) (w : World) (g : ShowGood w) :
    Calls Tryd.prog 107 #[.int .i64 n] w fun e w' => e = .returned (.string (txt n)) ∧ Later w w' := by
  have ht := g.tab
  go_enter Tryd.func107, Tryd.ntmps107
  go_wp2_with (go_at_call 129; refine (Tryd.strconv_FormatInt_10 n h0 h1 _ ht).mono ?_; rintro e w' ⟨rfl, k, os, rfl⟩)
  go_ret
  exact ⟨rfl, Later.grow _ _ _⟩

end Go.Proofs.YtfgnogdlkhagdaaDoor
