/-
  Two entries held against each other. Conditions: none.
-/
import Derived.Test.YtpnbpjhoilibcaaDoorEntRow
import Derived.Laws.StructEq
namespace Go.Proofs.YtpnbpjhoilibcaaDoor
open Go.RowKit Go.WideShapes
set_option linter.unusedVariables false
set_option linter.unusedSimpArgs false

theorem ent_fields : Tryd.prog.underlying 41 = some (.struct (Tryd.prog.fieldsOf 41)) := by kernel_rfl
theorem ent_held : Tryd.prog.stoodInHeld 41 = false := by kernel_rfl
theorem ent_guard : Tryd.prog.eqGuardType Tryd.prog.depth 41 = false := by kernel_rfl
theorem ent_list : ((Tryd.prog.fieldsOf 41).toList.map fun f => (f.type, f.offset, decide (f.name ≠ "_"))) = [(3, 0, true), (2, 1, true)] := by kernel_rfl

theorem guard_ent (op : BinOp) (x y : Operand) (xs ys : Array Value) (w : World) : (eqGuard op 41 x y (.agg xs) (.agg ys)).run Tryd.prog w = .ok () w := run_eqGuard_agg w op _ x y xs ys ent_guard

theorem equal_ent (a b c d : Int) (w : World) : (Op.equalIn 10000 41 (.agg #[.int .i64 a, .int .i64 b]) (.agg #[.int .i64 c, .int .i64 d])).run Tryd.prog w = .ok (a == c && b == d) w := by
  rw [show (10000 : Nat) = 9999 + 1 from rfl, run_equalIn_agg w 9999 _ _ _ ent_fields ent_held]
  have hl := ent_list
  generalize (Tryd.prog.fieldsOf 41).toList = fs at *
  obtain ⟨f, g, rfl⟩ : ∃ f g, fs = [f, g] := by
    have h := congrArg List.length hl
    simp at h
    match fs, h with
    | [f, g], _ => exact ⟨f, g, rfl⟩
  simp only [List.map_cons, List.map_nil, List.cons.injEq, Prod.mk.injEq, decide_eq_true_eq, and_true] at hl
  obtain ⟨⟨h1, h2, h3⟩, h4, h5, h6⟩ := hl
  unfold Op.eqFields
  rw [if_pos h3]
  unfold Op.eqFields
  rw [if_pos h6, h1, h2, h4, h5]
  unfold Op.eqFields
  have p0 : ∀ (u v : Value) w, (part 3 #[u, v] 0).run Tryd.prog w = .ok u w := fun u v w => by kernel_rfl
  have p1 : ∀ (u v : Value) w, (part 2 #[u, v] 1).run Tryd.prog w = .ok v w := fun u v w => by kernel_rfl
  have q0 := fun w => run_equalIn_int w 9998 3 .i64 .i64 a c Tryd.underlying3
  have q1 := fun w => run_equalIn_int w 9998 2 .i64 .i64 b d Tryd.underlying2
  simp only [Sem.run_bind, p0, p1, Result.andThen_ok, Nat.reduceAdd] at q0 q1 ⊢
  rw [q0]
  cases a == c <;> (cases hb : b == d) <;> simp [p1, q1] <;> simpa using hb

theorem eql_ent (a b c d : Int) (w : World) : (binOp .eql 41 (.agg #[.int .i64 a, .int .i64 b]) (.agg #[.int .i64 c, .int .i64 d])).run Tryd.prog w = .ok (.bool (a == c && b == d)) w := by
  rw [run_eql_struct, equal_ent]; rfl

theorem neq_ent (a b c d : Int) (w : World) : (binOp .neq 41 (.agg #[.int .i64 a, .int .i64 b]) (.agg #[.int .i64 c, .int .i64 d])).run Tryd.prog w = .ok (.bool (!(a == c && b == d))) w := by
  rw [run_neq_struct, equal_ent]; rfl

end Go.Proofs.YtpnbpjhoilibcaaDoor
