/-
  What a part of each kind, or none, gives where it is asserted to be of a kind, with two values, and the register with one. Nothing turns. Conditions: none.
-/
import Derived.Test.YtginggelbfbcfaaDoorLater
namespace Go.Proofs.YtginggelbfbcfaaDoor
open Go.RowKit

@[go_sem] theorem asRegReg (v : Value) (w : World) : (Instr.typeAssert (.iface 82 v) 56 82 true).run Tryd.prog w = .ok (.tuple #[v, .bool true]) w := by kernel_rfl
@[go_sem] theorem asNumReg (v : Value) (w : World) : (Instr.typeAssert (.iface 84 v) 56 82 true).run Tryd.prog w = .ok (.tuple #[.agg #[.int .i64 0], .bool false]) w := by kernel_rfl
@[go_sem] theorem asAtReg (v : Value) (w : World) : (Instr.typeAssert (.iface 60 v) 56 82 true).run Tryd.prog w = .ok (.tuple #[.agg #[.int .i64 0], .bool false]) w := by kernel_rfl
@[go_sem] theorem asByReg (v : Value) (w : World) : (Instr.typeAssert (.iface 63 v) 56 82 true).run Tryd.prog w = .ok (.tuple #[.agg #[.int .i64 0], .bool false]) w := by kernel_rfl
@[go_sem] theorem asNilReg (w : World) : (Instr.typeAssert .nilIface 56 82 true).run Tryd.prog w = .ok (.tuple #[.agg #[.int .i64 0], .bool false]) w := by kernel_rfl
@[go_sem] theorem asRegNum (v : Value) (w : World) : (Instr.typeAssert (.iface 82 v) 56 84 true).run Tryd.prog w = .ok (.tuple #[.agg #[.int .i64 0], .bool false]) w := by kernel_rfl
@[go_sem] theorem asNumNum (v : Value) (w : World) : (Instr.typeAssert (.iface 84 v) 56 84 true).run Tryd.prog w = .ok (.tuple #[v, .bool true]) w := by kernel_rfl
@[go_sem] theorem asAtNum (v : Value) (w : World) : (Instr.typeAssert (.iface 60 v) 56 84 true).run Tryd.prog w = .ok (.tuple #[.agg #[.int .i64 0], .bool false]) w := by kernel_rfl
@[go_sem] theorem asByNum (v : Value) (w : World) : (Instr.typeAssert (.iface 63 v) 56 84 true).run Tryd.prog w = .ok (.tuple #[.agg #[.int .i64 0], .bool false]) w := by kernel_rfl
@[go_sem] theorem asNilNum (w : World) : (Instr.typeAssert .nilIface 56 84 true).run Tryd.prog w = .ok (.tuple #[.agg #[.int .i64 0], .bool false]) w := by kernel_rfl
@[go_sem] theorem asRegAt (v : Value) (w : World) : (Instr.typeAssert (.iface 82 v) 56 60 true).run Tryd.prog w = .ok (.tuple #[.agg #[.int .i64 0, .int .i64 0], .bool false]) w := by kernel_rfl
@[go_sem] theorem asNumAt (v : Value) (w : World) : (Instr.typeAssert (.iface 84 v) 56 60 true).run Tryd.prog w = .ok (.tuple #[.agg #[.int .i64 0, .int .i64 0], .bool false]) w := by kernel_rfl
@[go_sem] theorem asAtAt (v : Value) (w : World) : (Instr.typeAssert (.iface 60 v) 56 60 true).run Tryd.prog w = .ok (.tuple #[v, .bool true]) w := by kernel_rfl
@[go_sem] theorem asByAt (v : Value) (w : World) : (Instr.typeAssert (.iface 63 v) 56 60 true).run Tryd.prog w = .ok (.tuple #[.agg #[.int .i64 0, .int .i64 0], .bool false]) w := by kernel_rfl
@[go_sem] theorem asNilAt (w : World) : (Instr.typeAssert .nilIface 56 60 true).run Tryd.prog w = .ok (.tuple #[.agg #[.int .i64 0, .int .i64 0], .bool false]) w := by kernel_rfl
@[go_sem] theorem asRegBy (v : Value) (w : World) : (Instr.typeAssert (.iface 82 v) 56 63 true).run Tryd.prog w = .ok (.tuple #[.agg #[.int .i64 0, .int .i64 0], .bool false]) w := by kernel_rfl
@[go_sem] theorem asNumBy (v : Value) (w : World) : (Instr.typeAssert (.iface 84 v) 56 63 true).run Tryd.prog w = .ok (.tuple #[.agg #[.int .i64 0, .int .i64 0], .bool false]) w := by kernel_rfl
@[go_sem] theorem asAtBy (v : Value) (w : World) : (Instr.typeAssert (.iface 60 v) 56 63 true).run Tryd.prog w = .ok (.tuple #[.agg #[.int .i64 0, .int .i64 0], .bool false]) w := by kernel_rfl
@[go_sem] theorem asByBy (v : Value) (w : World) : (Instr.typeAssert (.iface 63 v) 56 63 true).run Tryd.prog w = .ok (.tuple #[v, .bool true]) w := by kernel_rfl
@[go_sem] theorem asNilBy (w : World) : (Instr.typeAssert .nilIface 56 63 true).run Tryd.prog w = .ok (.tuple #[.agg #[.int .i64 0, .int .i64 0], .bool false]) w := by kernel_rfl
@[go_sem] theorem asReg (v : Value) (w : World) : (Instr.typeAssert (.iface 82 v) 56 82 false).run Tryd.prog w = .ok v w := by kernel_rfl
@[go_sem] theorem fieldReg (v : Value) (w : World) : (Instr.field 82 (.agg #[v]) 0).run Tryd.prog w = .ok v w := by kernel_rfl

end Go.Proofs.YtginggelbfbcfaaDoor
