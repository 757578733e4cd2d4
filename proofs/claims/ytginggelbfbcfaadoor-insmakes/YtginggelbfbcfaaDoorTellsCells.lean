/-
  What the statements of chapter 7 ask of one instruction, said of its thirteen cells. Conditions: as there.
-/
import Derived.Test.YtginggelbfbcfaaDoorInsTellsCall
namespace Go.Proofs.YtginggelbfbcfaaDoor
open Go.RowKit
set_option linter.unusedVariables false
set_option linter.unusedSimpArgs false

theorem tells_cells {op cond ak ar ay an bk br bs bn : Int} {lock : Bool} {dest : ByteArray} {lb : Value} (hd : dest.size ≤ 1000) (w : World) (hG : NamesGood w) :
    Calls Tryd.prog 10 #[.agg #[.int .i64 op, .bool lock, .int .i64 cond, .int .i64 ak, .int .i64 ar, .int .i64 ay, .int .i64 an, .int .i64 bk, .int .i64 br, .int .i64 bs, .int .i64 bn, .string dest, lb]] w fun e w' => e = .returned (.bool true) ∧ Later w w' := tells_any ⟨op, lock, cond, ⟨ak, ar, ay, an⟩, ⟨bk, br, bs, bn⟩, dest, lb⟩ hd w hG

end Go.Proofs.YtginggelbfbcfaaDoor
