/-
  What package ins's Same and the document's own return of two instructions: whether all fields are the same, the labels text by text. Nothing that was in memory turns. Conditions: both have labels that are slices of texts in memory.
-/
import Derived.Test.YtegogmbcjjjjjaaDoorJh
namespace Go.Proofs.YtegogmbcjjjjjaaDoor
open Go.RowKit
set_option linter.unusedVariables false
set_option linter.unusedSimpArgs false

def opdEq (o p : Opd) : Bool := decide (o.kind = p.kind ∧ o.reg = p.reg ∧ o.sym = p.sym ∧ o.n = p.n)
/-- All fields are the same. -/
def sameF (x : Ins) (L : List ByteArray) (y : Ins) (M : List ByteArray) : Bool :=
  decide (x.op = y.op) && decide (x.lock = y.lock) && decide (x.cond = y.cond) && opdEq x.a y.a && opdEq x.b y.b && decide (x.dest = y.dest) && decide (L = M)

theorem bytes_eq_iff (s t : ByteArray) : (s.toList == t.toList) = decide (s = t) := by
  rw [Bool.eq_iff_iff, beq_iff_eq, decide_eq_true_eq, ByteArray.toList_eq, ByteArray.toList_eq]
  exact ⟨fun h => ByteArray.ext (Array.toList_inj.1 h), fun h => by rw [h]⟩

set_option maxRecDepth 1000000 in
set_option maxHeartbeats 4000000 in
theorem insSame_any (x y : Ins) (L M : List ByteArray) (w : World) (hL : TextsIn w x.labels L) (hM : TextsIn w y.labels M) :
    Calls Tryd.prog 43 #[x.val, y.val] w fun e w' => e = .returned (.bool (sameF x L y M)) ∧ Later w w' := by
  obtain ⟨op, lock, cond, ⟨ak, ar, ay, an⟩, ⟨bk, br, bs, bn⟩, dest, lb⟩ := x
  obtain ⟨op', lock', cond', ⟨ak', ar', ay', an'⟩, ⟨bk', br', bs', bn'⟩, dest', lb'⟩ := y
  unfold Ins.val Ins.cells sameF opdEq
  dsimp only at *
  have cT := fun w' h h' => slicesEqual_any lb lb' L M w' h h'
  have LL := Later.alloc (Later.alloc (Later.refl w) (.cells #[.int .i64 op, .bool lock, .int .i64 cond, .int .i64 ak, .int .i64 ar, .int .i64 ay, .int .i64 an, .int .i64 bk, .int .i64 br, .int .i64 bs, .int .i64 bn, .string dest, lb] 39)) (.cells #[.int .i64 op', .bool lock', .int .i64 cond', .int .i64 ak', .int .i64 ar', .int .i64 ay', .int .i64 an', .int .i64 bk', .int .i64 br', .int .i64 bs', .int .i64 bn', .string dest', lb'] 39)
  obtain ⟨HB, HC⟩ := two_new2 w (.cells #[.int .i64 op, .bool lock, .int .i64 cond, .int .i64 ak, .int .i64 ar, .int .i64 ay, .int .i64 an, .int .i64 bk, .int .i64 br, .int .i64 bs, .int .i64 bn, .string dest, lb] 39) (.cells #[.int .i64 op', .bool lock', .int .i64 cond', .int .i64 ak', .int .i64 ar', .int .i64 ay', .int .i64 an', .int .i64 bk', .int .i64 br', .int .i64 bs', .int .i64 bn', .string dest', lb'] 39)
  replace hL := hL.later LL
  replace hM := hM.later LL
  have he := bytes_eq_iff dest dest'
  generalize decide (dest = dest') = de at *
  generalize decide (L = M) = dl at *
  go_enter Tryd.func43, Tryd.ntmps43
  go_upto_region 1 with (fail)
  generalize (w.alloc _).alloc _ = W at *
  obtain ⟨b0, b1, b2, b3, b4, b5, b6, b7, b8, b9, b10, b11, b12⟩ := box13_facts HB
  obtain ⟨y0, y1, y2, y3, y4, y5, y6, y7, y8, y9, y10, y11, y12⟩ := box13_facts HC
  generalize w.heap.size = A at *
  go_wp2_with (go_at_call 52; apply Calls.mono; (focus (with_reducible (exact cT _ hL hM))); rintro e wn ⟨rfl, hl⟩; replace LL := Later.trans LL hl)
  all_goals go_ret
  all_goals refine ⟨ret_bool ?_, LL⟩
  all_goals (try cases de) <;> simp_all

set_option maxRecDepth 1000000 in
set_option maxHeartbeats 4000000 in
theorem refSameIns_any (x y : Ins) (L M : List ByteArray) (w : World) (hL : TextsIn w x.labels L) (hM : TextsIn w y.labels M) :
    Calls Tryd.prog 23 #[x.val, y.val] w fun e w' => e = .returned (.bool (sameF x L y M)) ∧ Later w w' := by
  obtain ⟨op, lock, cond, ⟨ak, ar, ay, an⟩, ⟨bk, br, bs, bn⟩, dest, lb⟩ := x
  obtain ⟨op', lock', cond', ⟨ak', ar', ay', an'⟩, ⟨bk', br', bs', bn'⟩, dest', lb'⟩ := y
  unfold Ins.val Ins.cells sameF opdEq
  dsimp only at *
  have cT := fun w' h h' => refSameTexts_any lb lb' L M w' h h'
  have LL := Later.alloc (Later.alloc (Later.refl w) (.cells #[.int .i64 op, .bool lock, .int .i64 cond, .int .i64 ak, .int .i64 ar, .int .i64 ay, .int .i64 an, .int .i64 bk, .int .i64 br, .int .i64 bs, .int .i64 bn, .string dest, lb] 39)) (.cells #[.int .i64 op', .bool lock', .int .i64 cond', .int .i64 ak', .int .i64 ar', .int .i64 ay', .int .i64 an', .int .i64 bk', .int .i64 br', .int .i64 bs', .int .i64 bn', .string dest', lb'] 39)
  obtain ⟨HB, HC⟩ := two_new2 w (.cells #[.int .i64 op, .bool lock, .int .i64 cond, .int .i64 ak, .int .i64 ar, .int .i64 ay, .int .i64 an, .int .i64 bk, .int .i64 br, .int .i64 bs, .int .i64 bn, .string dest, lb] 39) (.cells #[.int .i64 op', .bool lock', .int .i64 cond', .int .i64 ak', .int .i64 ar', .int .i64 ay', .int .i64 an', .int .i64 bk', .int .i64 br', .int .i64 bs', .int .i64 bn', .string dest', lb'] 39)
  replace hL := hL.later LL
  replace hM := hM.later LL
  have he := bytes_eq_iff dest dest'
  generalize decide (dest = dest') = de at *
  generalize decide (L = M) = dl at *
  go_enter Tryd.func23, Tryd.ntmps23
  go_upto_region 1 with (fail)
  generalize (w.alloc _).alloc _ = W at *
  obtain ⟨b0, b1, b2, b3, b4, b5, b6, b7, b8, b9, b10, b11, b12⟩ := box13_facts HB
  obtain ⟨y0, y1, y2, y3, y4, y5, y6, y7, y8, y9, y10, y11, y12⟩ := box13_facts HC
  generalize w.heap.size = A at *
  go_wp2_with (go_at_call 40; apply Calls.mono; (focus (with_reducible (exact cT _ hL hM))); rintro e wn ⟨rfl, hl⟩; replace LL := Later.trans LL hl)
  all_goals go_ret
  all_goals refine ⟨ret_bool ?_, LL⟩
  all_goals (try cases de) <;> simp_all

end Go.Proofs.YtegogmbcjjjjjaaDoor
