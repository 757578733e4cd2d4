/-
  What the statements' own maker of instructions returns of any raw act. Nothing that was in memory turns. Conditions: its numbers are of 64 bits; there are 1 to 100 instructions.
-/
import Derived.Test.YtegogmbcjjjjjaaDoorBookInsA
import Derived.Test.YtegogmbcjjjjjaaDoorBookInsB
import Derived.Test.YtegogmbcjjjjjaaDoorBookInsL
import Derived.Test.YtegogmbcjjjjjaaDoorBookInsM
namespace Go.Proofs.YtegogmbcjjjjjaaDoor
open Go.RowKit

theorem bookIns_any (x : Act5) (hx : x.Ok) (many : Nat) (hm : 0 < many ∧ many ≤ 100) (w : World) :
    Calls Tryd.prog 15 #[x.val, .int .i64 many] w fun e w' => e = .returned (insOf x many).val ∧ Later w w' := by
  obtain ⟨k, hk, hlt⟩ := pick_nat x.kind 22 (by omega)
  rw [show ((22 : Nat) : Int) = 22 from rfl] at hk
  have e : (pick x.kind 22).toNat = k := by rw [hk]; omega
  unfold insOf
  rw [e]
  clear e
  match k, hlt, hk with
  | 0, _, hk => exact bookIns_0 x hx many w hk
  | 1, _, hk => exact bookIns_1 x hx many w hk
  | 2, _, hk => exact bookIns_2 x hx many w hk
  | 3, _, hk => exact bookIns_3 x hx many w hk
  | 4, _, hk => exact bookIns_4 x hx many w hk
  | 5, _, hk => exact bookIns_5 x hx many w hk
  | 6, _, hk => exact bookIns_6 x hx many w hk
  | 7, _, hk => exact bookIns_7 x hx many w hk
  | 8, _, hk => exact bookIns_8 x hx many w hk
  | 9, _, hk => exact bookIns_9 x hx many w hk
  | 10, _, hk => exact bookIns_10 x hx many w hk
  | 11, _, hk => exact bookIns_11 x hx many hm w hk
  | 12, _, hk => exact bookIns_12 x hx many hm w hk
  | 13, _, hk => exact bookIns_13 x hx many w hk
  | 14, _, hk => exact bookIns_14 x hx many w hk
  | 15, _, hk => exact bookIns_15 x hx many w hk
  | 16, _, hk => exact bookIns_16 x hx many w hk
  | 17, _, hk => exact bookIns_17 x hx many w hk
  | 18, _, hk => exact bookIns_18 x hx many w hk
  | 19, _, hk => exact bookIns_19 x hx many w hk
  | 20, _, hk => exact bookIns_20 x hx many w hk
  | 21, _, hk => exact bookIns_21 x hx many w hk
  | n + 22, h, _ => omega

end Go.Proofs.YtegogmbcjjjjjaaDoor
