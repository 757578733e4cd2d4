/-
  Two threads' states held against each other by ==. Conditions: none.
-/
import Derived.Test.YtpnbpjhoilibcaaDoorStateIn
import Derived.Laws.StructEq
import Derived.ChangeKeysEq
namespace Go.Proofs.YtpnbpjhoilibcaaDoor
open Go.RowKit Go.WideShapes
set_option linter.unusedVariables false
set_option linter.unusedSimpArgs false

theorem eqFields_step {P : Program} {w : World} {d : Nat} {xs ys : Array Value} {f : Field} {fs : List Field} {t : TypeId} {o : Nat} {a b : Value} {r r' : Bool} (hf : (f.type, f.offset, decide (f.name ≠ "_")) = (t, o, true))
    (ha : (part t xs o).run P w = .ok a w) (hb : (part t ys o).run P w = .ok b w) (hr : (Op.equalIn d t a b).run P w = .ok r w) (h : (Op.eqFields d xs ys fs).run P w = .ok r' w) : (Op.eqFields d xs ys (f :: fs)).run P w = .ok (r && r') w := by
  simp only [Prod.mk.injEq, decide_eq_true_eq] at hf
  obtain ⟨rfl, rfl, hn⟩ := hf
  unfold Op.eqFields
  rw [if_pos hn]
  simp only [Sem.run_bind, ha, hb, hr, Result.andThen_ok]
  cases r <;> simp [h]

theorem eqItems_step {P : Program} {w : World} {d c : Nat} {e : TypeId} {xs ys : Array Value} {i : Nat} {is : List Nat} {a b : Value} {r r' : Bool}
    (ha : (part e xs (i * c)).run P w = .ok a w) (hb : (part e ys (i * c)).run P w = .ok b w) (hr : (Op.equalIn d e a b).run P w = .ok r w) (h : (Op.eqItems d e c xs ys is).run P w = .ok r' w) : (Op.eqItems d e c xs ys (i :: is)).run P w = .ok (r && r') w := by
  unfold Op.eqItems
  simp only [Sem.run_bind, ha, hb, hr, Result.andThen_ok]
  cases r <;> simp [h]

theorem ts_fields : Tryd.prog.underlying 38 = some (.struct (Tryd.prog.fieldsOf 38)) := by kernel_rfl
theorem ts_held : Tryd.prog.stoodInHeld 38 = false := by kernel_rfl
theorem ts_guard : Tryd.prog.eqGuardType Tryd.prog.depth 38 = false := by kernel_rfl
theorem ts_list : ((Tryd.prog.fieldsOf 38).toList.map fun f => (f.type, f.offset, decide (f.name ≠ "_"))) = [(34, 0, true), (36, 8, true), (3, 12, true), (3, 13, true), (2, 14, true), (3, 15, true)] := by kernel_rfl
theorem fl_fields : Tryd.prog.underlying 36 = some (.struct (Tryd.prog.fieldsOf 36)) := by kernel_rfl
theorem fl_held : Tryd.prog.stoodInHeld 36 = false := by kernel_rfl
theorem fl_list : ((Tryd.prog.fieldsOf 36).toList.map fun f => (f.type, f.offset, decide (f.name ≠ "_"))) = [(4, 0, true), (4, 1, true), (4, 2, true), (4, 3, true)] := by kernel_rfl
theorem rg_info : ∃ i, Tryd.prog.info? 2 = some i := info_of_underlying Tryd.underlying2
theorem rg_cells : Tryd.prog.cellsOf 2 = 1 := by kernel_rfl

theorem equal_regs (d : Nat) (a b : Nat → Int) (w : World) :
    (Op.equalIn (d + 2) 34 (.agg #[.int .i64 (a 0), .int .i64 (a 1), .int .i64 (a 2), .int .i64 (a 3), .int .i64 (a 4), .int .i64 (a 5), .int .i64 (a 6), .int .i64 (a 7)]) (.agg #[.int .i64 (b 0), .int .i64 (b 1), .int .i64 (b 2), .int .i64 (b 3), .int .i64 (b 4), .int .i64 (b 5), .int .i64 (b 6), .int .i64 (b 7)])).run Tryd.prog w =
      .ok (a 0 == b 0 && a 1 == b 1 && a 2 == b 2 && a 3 == b 3 && a 4 == b 4 && a 5 == b 5 && a 6 == b 6 && a 7 == b 7) w := by
  obtain ⟨i, hi⟩ := rg_info
  rw [show d + 2 = (d + 1) + 1 from rfl, run_equalIn_array w (d + 1) _ _ Tryd.underlying34 hi, rg_cells]
  show (Op.eqItems (d + 1) 2 1 _ _ [0, 1, 2, 3, 4, 5, 6, 7]).run Tryd.prog w = _
  have q := fun x y => run_equalIn_int w d 2 .i64 .i64 x y Tryd.underlying2
  refine Eq.trans (eqItems_step (by kernel_rfl) (by kernel_rfl) (q (a 0) (b 0)) (eqItems_step (by kernel_rfl) (by kernel_rfl) (q (a 1) (b 1)) (eqItems_step (by kernel_rfl) (by kernel_rfl) (q (a 2) (b 2)) (eqItems_step (by kernel_rfl) (by kernel_rfl) (q (a 3) (b 3)) (eqItems_step (by kernel_rfl) (by kernel_rfl) (q (a 4) (b 4)) (eqItems_step (by kernel_rfl) (by kernel_rfl) (q (a 5) (b 5)) (eqItems_step (by kernel_rfl) (by kernel_rfl) (q (a 6) (b 6)) (eqItems_step (by kernel_rfl) (by kernel_rfl) (q (a 7) (b 7)) (by simp [Op.eqItems] : _ = Result.ok true w))))))))) ?_
  simp only [Bool.and_true, Bool.and_assoc]

theorem equal_flags (d : Nat) (a0 a1 a2 a3 b0 b1 b2 b3 : Bool) (w : World) :
    (Op.equalIn (d + 2) 36 (.agg #[.bool a0, .bool a1, .bool a2, .bool a3]) (.agg #[.bool b0, .bool b1, .bool b2, .bool b3])).run Tryd.prog w = .ok (a0 == b0 && a1 == b1 && a2 == b2 && a3 == b3) w := by
  rw [show d + 2 = (d + 1) + 1 from rfl, run_equalIn_agg w (d + 1) _ _ _ fl_fields fl_held]
  have hl := fl_list
  generalize (Tryd.prog.fieldsOf 36).toList = fs at *
  obtain ⟨f0, f1, f2, f3, rfl⟩ : ∃ f0 f1 f2 f3, fs = [f0, f1, f2, f3] := by
    have h := congrArg List.length hl
    simp at h
    match fs, h with
    | [f0, f1, f2, f3], _ => exact ⟨f0, f1, f2, f3, rfl⟩
  simp only [List.map_cons, List.map_nil, List.cons.injEq, and_true] at hl
  obtain ⟨h0, h1, h2, h3⟩ := hl
  have q := fun x y => run_equalIn_bool' w d 4 x y Tryd.underlying4
  refine Eq.trans (eqFields_step h0 (by kernel_rfl) (by kernel_rfl) (q a0 b0) (eqFields_step h1 (by kernel_rfl) (by kernel_rfl) (q a1 b1) (eqFields_step h2 (by kernel_rfl) (by kernel_rfl) (q a2 b2) (eqFields_step h3 (by kernel_rfl) (by kernel_rfl) (q a3 b3) (by simp [Op.eqFields] : _ = Result.ok true w))))) ?_
  simp only [Bool.and_true, Bool.and_assoc]

theorem equal_ts (a b : TS) (w : World) : (Op.equalIn 10000 38 (tsV a) (tsV b)).run Tryd.prog w = .ok (tsEq a b) w := by
  unfold tsV
  rw [show (10000 : Nat) = 9999 + 1 from rfl, run_equalIn_agg w 9999 _ _ _ ts_fields ts_held]
  have hl := ts_list
  generalize (Tryd.prog.fieldsOf 38).toList = fs at *
  obtain ⟨f0, f1, f2, f3, f4, f5, rfl⟩ : ∃ f0 f1 f2 f3 f4 f5, fs = [f0, f1, f2, f3, f4, f5] := by
    have h := congrArg List.length hl
    simp at h
    match fs, h with
    | [f0, f1, f2, f3, f4, f5], _ => exact ⟨f0, f1, f2, f3, f4, f5, rfl⟩
  simp only [List.map_cons, List.map_nil, List.cons.injEq, and_true] at hl
  obtain ⟨h0, h1, h2, h3, h4, h5⟩ := hl
  have q := fun x y => run_equalIn_int w 9998 3 .i64 .i64 x y Tryd.underlying3
  have q' := fun x y => run_equalIn_int w 9998 2 .i64 .i64 x y Tryd.underlying2
  refine Eq.trans (eqFields_step h0 (by kernel_rfl) (by kernel_rfl) (equal_regs 9997 a.r b.r w) (eqFields_step h1 (by kernel_rfl) (by kernel_rfl) (equal_flags 9997 a.z a.s a.c a.o b.z b.s b.c b.o w) (eqFields_step h2 (by kernel_rfl) (by kernel_rfl) (q a.pc b.pc) (eqFields_step h3 (by kernel_rfl) (by kernel_rfl) (q a.phase b.phase) (eqFields_step h4 (by kernel_rfl) (by kernel_rfl) (q' a.latch b.latch) (eqFields_step h5 (by kernel_rfl) (by kernel_rfl) (q a.status b.status) (by simp [Op.eqFields] : _ = Result.ok true w))))))) ?_
  simp only [tsEq, Bool.and_true, Bool.and_assoc]

end Go.Proofs.YtpnbpjhoilibcaaDoor
