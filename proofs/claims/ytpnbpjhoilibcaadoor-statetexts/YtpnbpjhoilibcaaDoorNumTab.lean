/-
  What num.Text returns: the number's decimal text; nothing that was in memory turns. Conditions: the listed table of powers of ten stands as it is laid.
-/
import Derived.Test.YtpnbpjhoilibcaaDoorShelf
import Derived.Test.YtpnbpjhoilibcaaDoorLater
import Derived.Test.YtpnbpjhoilibcaaDoorNumTxt
namespace Go.Proofs.YtpnbpjhoilibcaaDoor
open Go.RowKit

/-- The table that the call reads. -/
def TabGood (w : World) : Prop := Lib.TabIs Tryd.prog w "internal/strconv.uint64pow10" .u64 Lib.pow10Tab

theorem TabGood.later {w w' : World} (g : TabGood w) (h : Later w w') : TabGood w' := var_later g h

theorem Later.grow (w : World) (k : Nat) (os : Array Obj) : Later w (Sort.grow (w.drewN k) os) :=
  ⟨rfl, rfl, rfl, by simp [Sort.grow, World.drewN], fun j hj => Sort.heap_grow_old (w.drewN k) os hj⟩

theorem numTab_any (n : Int) (h0 : -9223372036854775808 ≤ n) (h1 : n ≤ 9223372036854775807) (w : World) (g : TabGood w) :
    Calls Tryd.prog 28 #[.int .i64 n] w fun e w' => e = .returned (.string (txt n)) ∧ Later w w' := by
  have ht : Lib.TabIs Tryd.prog w "internal/strconv.uint64pow10" .u64 Lib.pow10Tab := g
  go_enter Tryd.func28, Tryd.ntmps28
  go_wp2_with (go_at_call 41; refine (Tryd.strconv_FormatInt_10 n h0 h1 _ ht).mono ?_; rintro e w' ⟨rfl, k, os, rfl⟩)
  go_ret
  exact ⟨rfl, Later.grow _ _ _⟩

end Go.Proofs.YtpnbpjhoilibcaaDoor
