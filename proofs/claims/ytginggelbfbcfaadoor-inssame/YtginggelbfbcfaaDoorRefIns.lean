/-
  What the document's own functions over an instruction return: whether its operands are those of a row, and what is wrong with it. Nothing that was in memory turns. Conditions: as each theorem names them.
-/
import Derived.Test.YtginggelbfbcfaaDoorRefOpndMore
import Derived.Test.YtginggelbfbcfaaDoorBoxes
import Derived.RegionTactic
import Derived.Deep.CutRange
import Derived.Deep.RegionWith
namespace Go.Proofs.YtginggelbfbcfaaDoor
open Go.RowKit
set_option linter.unusedVariables false
set_option linter.unusedSimpArgs false

/-- An instruction; its labels as they lie in memory. -/
structure Ins where
  op : Int
  lock : Bool
  cond : Int
  a : Opd
  b : Opd
  dest : ByteArray
  labels : Value

/-- Its thirteen cells. -/
def Ins.cells (x : Ins) : Array Value := #[.int .i64 x.op, .bool x.lock, .int .i64 x.cond, .int .i64 x.a.kind, .int .i64 x.a.reg, .int .i64 x.a.sym, .int .i64 x.a.n, .int .i64 x.b.kind, .int .i64 x.b.reg, .int .i64 x.b.sym, .int .i64 x.b.n, .string x.dest, x.labels]
def Ins.val (x : Ins) : Value := .agg x.cells

def opdZero (o : Opd) : Bool := decide (o.kind = 0 ∧ o.reg = 0 ∧ o.sym = 0 ∧ o.n = 0)

/-- Whether the operands are those of a row. -/
def rowF (x : Ins) : Bool :=
  if x.op < 1 ∨ 9 < x.op then opdZero x.a && opdZero x.b && !x.lock
  else if opdRightF x.a = false ∨ opdRightF x.b = false then false
  else if x.op = 8 then memF x.a && decide (x.b.kind = 1) && !x.lock
  else if x.op = 9 then memF x.a && decide (x.b.kind = 1) && x.lock
  else if x.a.kind = 1 then (plainF x.b || memF x.b) && !x.lock
  else memF x.a && plainF x.b && (!x.lock || reckonsF x.op)

theorem box13_facts {w : World} {B : Nat} {a0 a1 a2 a3 a4 a5 a6 a7 a8 a9 a10 a11 a12 : Value} {t : TypeId} (h : w.heap[B]? = some (.cells #[a0, a1, a2, a3, a4, a5, a6, a7, a8, a9, a10, a11, a12] t)) :
    w.cell? ⟨B, 0, none⟩ = some a0 ∧ w.cell? ⟨B, 1, none⟩ = some a1 ∧ w.cell? ⟨B, 2, none⟩ = some a2 ∧ w.cell? ⟨B, 3, none⟩ = some a3 ∧ w.cell? ⟨B, 4, none⟩ = some a4 ∧ w.cell? ⟨B, 5, none⟩ = some a5 ∧ w.cell? ⟨B, 6, none⟩ = some a6 ∧ w.cell? ⟨B, 7, none⟩ = some a7 ∧ w.cell? ⟨B, 8, none⟩ = some a8 ∧ w.cell? ⟨B, 9, none⟩ = some a9 ∧ w.cell? ⟨B, 10, none⟩ = some a10 ∧ w.cell? ⟨B, 11, none⟩ = some a11 ∧ w.cell? ⟨B, 12, none⟩ = some a12 := by
  simp [World.cell?, h]

theorem three_new (w : World) (o p q : Obj) : (((w.alloc o).alloc p).alloc q).drew.heap[w.heap.size]? = some o ∧ (((w.alloc o).alloc p).alloc q).drew.heap[w.heap.size + 1]? = some p ∧ (((w.alloc o).alloc p).alloc q).drew.heap[w.heap.size + 1 + 1]? = some q := by
  have e1 : (w.alloc o).heap.size = w.heap.size + 1 := by simp
  have e2 : ((w.alloc o).alloc p).heap.size = w.heap.size + 1 + 1 := by simp
  refine ⟨?_, ?_, ?_⟩
  · exact heap_later (Later.drew (Later.alloc (Later.alloc (Later.refl _) p) q)) (at_new w o)
  · have h := heap_later (Later.drew (Later.alloc (Later.refl _) q)) (at_new (w.alloc o) p)
    rw [e1] at h
    exact h
  · have h := at_new ((w.alloc o).alloc p) q
    rw [e2] at h
    exact heap_later (Later.drew (Later.refl _)) h

theorem three_later (w : World) (o p q : Obj) : Later w (((w.alloc o).alloc p).alloc q).drew := Later.drew (Later.alloc (Later.alloc (Later.alloc (Later.refl _) o) p) q)

set_option maxRecDepth 1000000 in
set_option maxHeartbeats 4000000 in
theorem refRow_any (x : Ins) (w : World) :
    Calls Tryd.prog 42 #[x.val] w fun e w' => e = .returned (.bool (rowF x)) ∧ Later w w' := by
  obtain ⟨op, lock, cond, ⟨ak, ar, ay, an⟩, ⟨bk, br, bs, bn⟩, dest, lb⟩ := x
  have c1 := fun w' => refOpdRight_any ⟨ak, ar, ay, an⟩ w'
  have c2 := fun w' => refOpdRight_any ⟨bk, br, bs, bn⟩ w'
  have c3 := fun w' => refMemory_any ⟨ak, ar, ay, an⟩ w'
  have c4 := fun w' => refMemory_any ⟨bk, br, bs, bn⟩ w'
  have c5 := fun w' => refPlain_any ⟨bk, br, bs, bn⟩ w'
  have c6 := fun w' => refReckons_any op w'
  unfold rowF Ins.val Ins.cells
  unfold Opd.val at c1 c2 c3 c4 c5
  dsimp only at *
  by_cases h1 : op < 1 ∨ 9 < op
  · rw [if_pos h1]
    clear c1 c2 c3 c4 c5 c6
    go_enter Tryd.func42, Tryd.ntmps42
    go_upto_region 1 with (fail)
    go_region
    all_goals go_wp2
    all_goals go_ret
    all_goals refine ⟨ret_bool ?_, three_later _ _ _ _⟩
    all_goals simp_all [opdZero]
  · rw [if_neg h1]
    have h1a : ¬ op < 1 := fun h => h1 (Or.inl h)
    have h1b : ¬ 9 < op := fun h => h1 (Or.inr h)
    clear h1
    generalize opdRightF ⟨ak, ar, ay, an⟩ = ra at *
    generalize opdRightF ⟨bk, br, bs, bn⟩ = rb at *
    generalize memF ⟨ak, ar, ay, an⟩ = ma at *
    generalize memF ⟨bk, br, bs, bn⟩ = mb at *
    generalize plainF ⟨bk, br, bs, bn⟩ = pb at *
    generalize reckonsF op = rk at *
    have hN := three_new w (.cells #[.int .i64 op, .bool lock, .int .i64 cond, .int .i64 ak, .int .i64 ar, .int .i64 ay, .int .i64 an, .int .i64 bk, .int .i64 br, .int .i64 bs, .int .i64 bn, .string dest, lb] 26)
    have lN := three_later w (.cells #[.int .i64 op, .bool lock, .int .i64 cond, .int .i64 ak, .int .i64 ar, .int .i64 ay, .int .i64 an, .int .i64 bk, .int .i64 br, .int .i64 bs, .int .i64 bn, .string dest, lb] 26)
    go_enter Tryd.func42, Tryd.ntmps42
    go_upto_region 1 with (fail)
    go_region
    · as_aux_lemma =>
      obtain ⟨HB, HA, HC⟩ := hN (.cells #[.int .i64 ak, .int .i64 ar, .int .i64 ay, .int .i64 an] 23) (.cells #[.int .i64 bk, .int .i64 br, .int .i64 bs, .int .i64 bn] 23)
      have LL := lN (.cells #[.int .i64 ak, .int .i64 ar, .int .i64 ay, .int .i64 an] 23) (.cells #[.int .i64 bk, .int .i64 br, .int .i64 bs, .int .i64 bn] 23)
      clear hN lN
      generalize World.drew _ = W at *
      obtain ⟨b0, b1, b2, b3, b4, b5, b6, b7, b8, b9, b10, b11, b12⟩ := box13_facts HB; obtain ⟨p0, p1, p2, p3, -, -, -, -⟩ := box4_facts HA; obtain ⟨q0, q1, q2, q3, -, -, -, -⟩ := box4_facts HC
      rcases Bool.eq_false_or_eq_true ra with rfl | rfl
      · rcases Bool.eq_false_or_eq_true rb with rfl | rfl
        · by_cases h8 : op = 8
          · subst h8
            cases ma <;> rcases Decidable.em (bk = 1) with rfl | hk
            all_goals go_wp2_with (first
          | (go_at_call 52; apply Calls.mono; (focus (with_reducible (exact c1 _))); rintro e wn ⟨rfl, hl⟩; replace HB := heap_later hl HB; replace HA := heap_later hl HA; replace HC := heap_later hl HC; replace LL := Later.trans LL hl; obtain ⟨b0, b1, b2, b3, b4, b5, b6, b7, b8, b9, b10, b11, b12⟩ := box13_facts HB; obtain ⟨p0, p1, p2, p3, -, -, -, -⟩ := box4_facts HA; obtain ⟨q0, q1, q2, q3, -, -, -, -⟩ := box4_facts HC)
          | (go_at_call 52; apply Calls.mono; (focus (with_reducible (exact c2 _))); rintro e wn ⟨rfl, hl⟩; replace HB := heap_later hl HB; replace HA := heap_later hl HA; replace HC := heap_later hl HC; replace LL := Later.trans LL hl; obtain ⟨b0, b1, b2, b3, b4, b5, b6, b7, b8, b9, b10, b11, b12⟩ := box13_facts HB; obtain ⟨p0, p1, p2, p3, -, -, -, -⟩ := box4_facts HA; obtain ⟨q0, q1, q2, q3, -, -, -, -⟩ := box4_facts HC)
          | (go_at_call 40; apply Calls.mono; (focus (with_reducible (exact c3 _))); rintro e wn ⟨rfl, hl⟩; replace HB := heap_later hl HB; replace HA := heap_later hl HA; replace HC := heap_later hl HC; replace LL := Later.trans LL hl; obtain ⟨b0, b1, b2, b3, b4, b5, b6, b7, b8, b9, b10, b11, b12⟩ := box13_facts HB; obtain ⟨p0, p1, p2, p3, -, -, -, -⟩ := box4_facts HA; obtain ⟨q0, q1, q2, q3, -, -, -, -⟩ := box4_facts HC)
          | (go_at_call 40; apply Calls.mono; (focus (with_reducible (exact c4 _))); rintro e wn ⟨rfl, hl⟩; replace HB := heap_later hl HB; replace HA := heap_later hl HA; replace HC := heap_later hl HC; replace LL := Later.trans LL hl; obtain ⟨b0, b1, b2, b3, b4, b5, b6, b7, b8, b9, b10, b11, b12⟩ := box13_facts HB; obtain ⟨p0, p1, p2, p3, -, -, -, -⟩ := box4_facts HA; obtain ⟨q0, q1, q2, q3, -, -, -, -⟩ := box4_facts HC)
          | (go_at_call 53; apply Calls.mono; (focus (with_reducible (exact c5 _))); rintro e wn ⟨rfl, hl⟩; replace HB := heap_later hl HB; replace HA := heap_later hl HA; replace HC := heap_later hl HC; replace LL := Later.trans LL hl; obtain ⟨b0, b1, b2, b3, b4, b5, b6, b7, b8, b9, b10, b11, b12⟩ := box13_facts HB; obtain ⟨p0, p1, p2, p3, -, -, -, -⟩ := box4_facts HA; obtain ⟨q0, q1, q2, q3, -, -, -, -⟩ := box4_facts HC)
          | (go_at_call 54; apply Calls.mono; (focus (with_reducible (exact c6 _))); rintro e wn ⟨rfl, hr⟩; obtain rfl := hr.symm))
            all_goals first | go_ret | trace_state
            all_goals exact ⟨ret_bool (by simp_all), LL⟩
          · by_cases h9 : op = 9
            · subst h9
              cases ma <;> rcases Decidable.em (bk = 1) with rfl | hk
              all_goals go_wp2_with (first
          | (go_at_call 52; apply Calls.mono; (focus (with_reducible (exact c1 _))); rintro e wn ⟨rfl, hl⟩; replace HB := heap_later hl HB; replace HA := heap_later hl HA; replace HC := heap_later hl HC; replace LL := Later.trans LL hl; obtain ⟨b0, b1, b2, b3, b4, b5, b6, b7, b8, b9, b10, b11, b12⟩ := box13_facts HB; obtain ⟨p0, p1, p2, p3, -, -, -, -⟩ := box4_facts HA; obtain ⟨q0, q1, q2, q3, -, -, -, -⟩ := box4_facts HC)
          | (go_at_call 52; apply Calls.mono; (focus (with_reducible (exact c2 _))); rintro e wn ⟨rfl, hl⟩; replace HB := heap_later hl HB; replace HA := heap_later hl HA; replace HC := heap_later hl HC; replace LL := Later.trans LL hl; obtain ⟨b0, b1, b2, b3, b4, b5, b6, b7, b8, b9, b10, b11, b12⟩ := box13_facts HB; obtain ⟨p0, p1, p2, p3, -, -, -, -⟩ := box4_facts HA; obtain ⟨q0, q1, q2, q3, -, -, -, -⟩ := box4_facts HC)
          | (go_at_call 40; apply Calls.mono; (focus (with_reducible (exact c3 _))); rintro e wn ⟨rfl, hl⟩; replace HB := heap_later hl HB; replace HA := heap_later hl HA; replace HC := heap_later hl HC; replace LL := Later.trans LL hl; obtain ⟨b0, b1, b2, b3, b4, b5, b6, b7, b8, b9, b10, b11, b12⟩ := box13_facts HB; obtain ⟨p0, p1, p2, p3, -, -, -, -⟩ := box4_facts HA; obtain ⟨q0, q1, q2, q3, -, -, -, -⟩ := box4_facts HC)
          | (go_at_call 40; apply Calls.mono; (focus (with_reducible (exact c4 _))); rintro e wn ⟨rfl, hl⟩; replace HB := heap_later hl HB; replace HA := heap_later hl HA; replace HC := heap_later hl HC; replace LL := Later.trans LL hl; obtain ⟨b0, b1, b2, b3, b4, b5, b6, b7, b8, b9, b10, b11, b12⟩ := box13_facts HB; obtain ⟨p0, p1, p2, p3, -, -, -, -⟩ := box4_facts HA; obtain ⟨q0, q1, q2, q3, -, -, -, -⟩ := box4_facts HC)
          | (go_at_call 53; apply Calls.mono; (focus (with_reducible (exact c5 _))); rintro e wn ⟨rfl, hl⟩; replace HB := heap_later hl HB; replace HA := heap_later hl HA; replace HC := heap_later hl HC; replace LL := Later.trans LL hl; obtain ⟨b0, b1, b2, b3, b4, b5, b6, b7, b8, b9, b10, b11, b12⟩ := box13_facts HB; obtain ⟨p0, p1, p2, p3, -, -, -, -⟩ := box4_facts HA; obtain ⟨q0, q1, q2, q3, -, -, -, -⟩ := box4_facts HC)
          | (go_at_call 54; apply Calls.mono; (focus (with_reducible (exact c6 _))); rintro e wn ⟨rfl, hr⟩; obtain rfl := hr.symm))
              all_goals go_ret
              all_goals exact ⟨ret_bool (by simp_all), LL⟩
            · by_cases ha : ak = 1
              · subst ha
                cases pb <;> cases mb
                all_goals go_wp2_with (first
          | (go_at_call 52; apply Calls.mono; (focus (with_reducible (exact c1 _))); rintro e wn ⟨rfl, hl⟩; replace HB := heap_later hl HB; replace HA := heap_later hl HA; replace HC := heap_later hl HC; replace LL := Later.trans LL hl; obtain ⟨b0, b1, b2, b3, b4, b5, b6, b7, b8, b9, b10, b11, b12⟩ := box13_facts HB; obtain ⟨p0, p1, p2, p3, -, -, -, -⟩ := box4_facts HA; obtain ⟨q0, q1, q2, q3, -, -, -, -⟩ := box4_facts HC)
          | (go_at_call 52; apply Calls.mono; (focus (with_reducible (exact c2 _))); rintro e wn ⟨rfl, hl⟩; replace HB := heap_later hl HB; replace HA := heap_later hl HA; replace HC := heap_later hl HC; replace LL := Later.trans LL hl; obtain ⟨b0, b1, b2, b3, b4, b5, b6, b7, b8, b9, b10, b11, b12⟩ := box13_facts HB; obtain ⟨p0, p1, p2, p3, -, -, -, -⟩ := box4_facts HA; obtain ⟨q0, q1, q2, q3, -, -, -, -⟩ := box4_facts HC)
          | (go_at_call 40; apply Calls.mono; (focus (with_reducible (exact c3 _))); rintro e wn ⟨rfl, hl⟩; replace HB := heap_later hl HB; replace HA := heap_later hl HA; replace HC := heap_later hl HC; replace LL := Later.trans LL hl; obtain ⟨b0, b1, b2, b3, b4, b5, b6, b7, b8, b9, b10, b11, b12⟩ := box13_facts HB; obtain ⟨p0, p1, p2, p3, -, -, -, -⟩ := box4_facts HA; obtain ⟨q0, q1, q2, q3, -, -, -, -⟩ := box4_facts HC)
          | (go_at_call 40; apply Calls.mono; (focus (with_reducible (exact c4 _))); rintro e wn ⟨rfl, hl⟩; replace HB := heap_later hl HB; replace HA := heap_later hl HA; replace HC := heap_later hl HC; replace LL := Later.trans LL hl; obtain ⟨b0, b1, b2, b3, b4, b5, b6, b7, b8, b9, b10, b11, b12⟩ := box13_facts HB; obtain ⟨p0, p1, p2, p3, -, -, -, -⟩ := box4_facts HA; obtain ⟨q0, q1, q2, q3, -, -, -, -⟩ := box4_facts HC)
          | (go_at_call 53; apply Calls.mono; (focus (with_reducible (exact c5 _))); rintro e wn ⟨rfl, hl⟩; replace HB := heap_later hl HB; replace HA := heap_later hl HA; replace HC := heap_later hl HC; replace LL := Later.trans LL hl; obtain ⟨b0, b1, b2, b3, b4, b5, b6, b7, b8, b9, b10, b11, b12⟩ := box13_facts HB; obtain ⟨p0, p1, p2, p3, -, -, -, -⟩ := box4_facts HA; obtain ⟨q0, q1, q2, q3, -, -, -, -⟩ := box4_facts HC)
          | (go_at_call 54; apply Calls.mono; (focus (with_reducible (exact c6 _))); rintro e wn ⟨rfl, hr⟩; obtain rfl := hr.symm))
                all_goals go_ret
                all_goals exact ⟨ret_bool (by simp_all), LL⟩
              · cases ma <;> cases pb <;> cases lock
                all_goals go_wp2_with (first
          | (go_at_call 52; apply Calls.mono; (focus (with_reducible (exact c1 _))); rintro e wn ⟨rfl, hl⟩; replace HB := heap_later hl HB; replace HA := heap_later hl HA; replace HC := heap_later hl HC; replace LL := Later.trans LL hl; obtain ⟨b0, b1, b2, b3, b4, b5, b6, b7, b8, b9, b10, b11, b12⟩ := box13_facts HB; obtain ⟨p0, p1, p2, p3, -, -, -, -⟩ := box4_facts HA; obtain ⟨q0, q1, q2, q3, -, -, -, -⟩ := box4_facts HC)
          | (go_at_call 52; apply Calls.mono; (focus (with_reducible (exact c2 _))); rintro e wn ⟨rfl, hl⟩; replace HB := heap_later hl HB; replace HA := heap_later hl HA; replace HC := heap_later hl HC; replace LL := Later.trans LL hl; obtain ⟨b0, b1, b2, b3, b4, b5, b6, b7, b8, b9, b10, b11, b12⟩ := box13_facts HB; obtain ⟨p0, p1, p2, p3, -, -, -, -⟩ := box4_facts HA; obtain ⟨q0, q1, q2, q3, -, -, -, -⟩ := box4_facts HC)
          | (go_at_call 40; apply Calls.mono; (focus (with_reducible (exact c3 _))); rintro e wn ⟨rfl, hl⟩; replace HB := heap_later hl HB; replace HA := heap_later hl HA; replace HC := heap_later hl HC; replace LL := Later.trans LL hl; obtain ⟨b0, b1, b2, b3, b4, b5, b6, b7, b8, b9, b10, b11, b12⟩ := box13_facts HB; obtain ⟨p0, p1, p2, p3, -, -, -, -⟩ := box4_facts HA; obtain ⟨q0, q1, q2, q3, -, -, -, -⟩ := box4_facts HC)
          | (go_at_call 40; apply Calls.mono; (focus (with_reducible (exact c4 _))); rintro e wn ⟨rfl, hl⟩; replace HB := heap_later hl HB; replace HA := heap_later hl HA; replace HC := heap_later hl HC; replace LL := Later.trans LL hl; obtain ⟨b0, b1, b2, b3, b4, b5, b6, b7, b8, b9, b10, b11, b12⟩ := box13_facts HB; obtain ⟨p0, p1, p2, p3, -, -, -, -⟩ := box4_facts HA; obtain ⟨q0, q1, q2, q3, -, -, -, -⟩ := box4_facts HC)
          | (go_at_call 53; apply Calls.mono; (focus (with_reducible (exact c5 _))); rintro e wn ⟨rfl, hl⟩; replace HB := heap_later hl HB; replace HA := heap_later hl HA; replace HC := heap_later hl HC; replace LL := Later.trans LL hl; obtain ⟨b0, b1, b2, b3, b4, b5, b6, b7, b8, b9, b10, b11, b12⟩ := box13_facts HB; obtain ⟨p0, p1, p2, p3, -, -, -, -⟩ := box4_facts HA; obtain ⟨q0, q1, q2, q3, -, -, -, -⟩ := box4_facts HC)
          | (go_at_call 54; apply Calls.mono; (focus (with_reducible (exact c6 _))); rintro e wn ⟨rfl, hr⟩; obtain rfl := hr.symm))
                all_goals go_ret
                all_goals exact ⟨ret_bool (by simp_all), LL⟩
        · all_goals go_wp2_with (first
            | (go_at_call 52; apply Calls.mono; (focus (with_reducible (exact c1 _))); rintro e wn ⟨rfl, hl⟩; replace HB := heap_later hl HB; replace HA := heap_later hl HA; replace HC := heap_later hl HC; replace LL := Later.trans LL hl; obtain ⟨b0, b1, b2, b3, b4, b5, b6, b7, b8, b9, b10, b11, b12⟩ := box13_facts HB; obtain ⟨p0, p1, p2, p3, -, -, -, -⟩ := box4_facts HA; obtain ⟨q0, q1, q2, q3, -, -, -, -⟩ := box4_facts HC)
            | (go_at_call 52; apply Calls.mono; (focus (with_reducible (exact c2 _))); rintro e wn ⟨rfl, hl⟩; replace HB := heap_later hl HB; replace HA := heap_later hl HA; replace HC := heap_later hl HC; replace LL := Later.trans LL hl; obtain ⟨b0, b1, b2, b3, b4, b5, b6, b7, b8, b9, b10, b11, b12⟩ := box13_facts HB; obtain ⟨p0, p1, p2, p3, -, -, -, -⟩ := box4_facts HA; obtain ⟨q0, q1, q2, q3, -, -, -, -⟩ := box4_facts HC)
            | (go_at_call 40; apply Calls.mono; (focus (with_reducible (exact c3 _))); rintro e wn ⟨rfl, hl⟩; replace HB := heap_later hl HB; replace HA := heap_later hl HA; replace HC := heap_later hl HC; replace LL := Later.trans LL hl; obtain ⟨b0, b1, b2, b3, b4, b5, b6, b7, b8, b9, b10, b11, b12⟩ := box13_facts HB; obtain ⟨p0, p1, p2, p3, -, -, -, -⟩ := box4_facts HA; obtain ⟨q0, q1, q2, q3, -, -, -, -⟩ := box4_facts HC)
            | (go_at_call 40; apply Calls.mono; (focus (with_reducible (exact c4 _))); rintro e wn ⟨rfl, hl⟩; replace HB := heap_later hl HB; replace HA := heap_later hl HA; replace HC := heap_later hl HC; replace LL := Later.trans LL hl; obtain ⟨b0, b1, b2, b3, b4, b5, b6, b7, b8, b9, b10, b11, b12⟩ := box13_facts HB; obtain ⟨p0, p1, p2, p3, -, -, -, -⟩ := box4_facts HA; obtain ⟨q0, q1, q2, q3, -, -, -, -⟩ := box4_facts HC)
            | (go_at_call 53; apply Calls.mono; (focus (with_reducible (exact c5 _))); rintro e wn ⟨rfl, hl⟩; replace HB := heap_later hl HB; replace HA := heap_later hl HA; replace HC := heap_later hl HC; replace LL := Later.trans LL hl; obtain ⟨b0, b1, b2, b3, b4, b5, b6, b7, b8, b9, b10, b11, b12⟩ := box13_facts HB; obtain ⟨p0, p1, p2, p3, -, -, -, -⟩ := box4_facts HA; obtain ⟨q0, q1, q2, q3, -, -, -, -⟩ := box4_facts HC)
            | (go_at_call 54; apply Calls.mono; (focus (with_reducible (exact c6 _))); rintro e wn ⟨rfl, hr⟩; obtain rfl := hr.symm))
          all_goals go_ret
          all_goals exact ⟨ret_bool (by simp_all), LL⟩
      · all_goals go_wp2_with (first
          | (go_at_call 52; apply Calls.mono; (focus (with_reducible (exact c1 _))); rintro e wn ⟨rfl, hl⟩; replace HB := heap_later hl HB; replace HA := heap_later hl HA; replace HC := heap_later hl HC; replace LL := Later.trans LL hl; obtain ⟨b0, b1, b2, b3, b4, b5, b6, b7, b8, b9, b10, b11, b12⟩ := box13_facts HB; obtain ⟨p0, p1, p2, p3, -, -, -, -⟩ := box4_facts HA; obtain ⟨q0, q1, q2, q3, -, -, -, -⟩ := box4_facts HC)
          | (go_at_call 52; apply Calls.mono; (focus (with_reducible (exact c2 _))); rintro e wn ⟨rfl, hl⟩; replace HB := heap_later hl HB; replace HA := heap_later hl HA; replace HC := heap_later hl HC; replace LL := Later.trans LL hl; obtain ⟨b0, b1, b2, b3, b4, b5, b6, b7, b8, b9, b10, b11, b12⟩ := box13_facts HB; obtain ⟨p0, p1, p2, p3, -, -, -, -⟩ := box4_facts HA; obtain ⟨q0, q1, q2, q3, -, -, -, -⟩ := box4_facts HC)
          | (go_at_call 40; apply Calls.mono; (focus (with_reducible (exact c3 _))); rintro e wn ⟨rfl, hl⟩; replace HB := heap_later hl HB; replace HA := heap_later hl HA; replace HC := heap_later hl HC; replace LL := Later.trans LL hl; obtain ⟨b0, b1, b2, b3, b4, b5, b6, b7, b8, b9, b10, b11, b12⟩ := box13_facts HB; obtain ⟨p0, p1, p2, p3, -, -, -, -⟩ := box4_facts HA; obtain ⟨q0, q1, q2, q3, -, -, -, -⟩ := box4_facts HC)
          | (go_at_call 40; apply Calls.mono; (focus (with_reducible (exact c4 _))); rintro e wn ⟨rfl, hl⟩; replace HB := heap_later hl HB; replace HA := heap_later hl HA; replace HC := heap_later hl HC; replace LL := Later.trans LL hl; obtain ⟨b0, b1, b2, b3, b4, b5, b6, b7, b8, b9, b10, b11, b12⟩ := box13_facts HB; obtain ⟨p0, p1, p2, p3, -, -, -, -⟩ := box4_facts HA; obtain ⟨q0, q1, q2, q3, -, -, -, -⟩ := box4_facts HC)
          | (go_at_call 53; apply Calls.mono; (focus (with_reducible (exact c5 _))); rintro e wn ⟨rfl, hl⟩; replace HB := heap_later hl HB; replace HA := heap_later hl HA; replace HC := heap_later hl HC; replace LL := Later.trans LL hl; obtain ⟨b0, b1, b2, b3, b4, b5, b6, b7, b8, b9, b10, b11, b12⟩ := box13_facts HB; obtain ⟨p0, p1, p2, p3, -, -, -, -⟩ := box4_facts HA; obtain ⟨q0, q1, q2, q3, -, -, -, -⟩ := box4_facts HC)
          | (go_at_call 54; apply Calls.mono; (focus (with_reducible (exact c6 _))); rintro e wn ⟨rfl, hr⟩; obtain rfl := hr.symm))
        all_goals go_ret
        all_goals exact ⟨ret_bool (by simp_all), LL⟩
    · as_aux_lemma =>
      obtain ⟨HB, HC, HA⟩ := hN (.cells #[.int .i64 bk, .int .i64 br, .int .i64 bs, .int .i64 bn] 23) (.cells #[.int .i64 ak, .int .i64 ar, .int .i64 ay, .int .i64 an] 23)
      have LL := lN (.cells #[.int .i64 bk, .int .i64 br, .int .i64 bs, .int .i64 bn] 23) (.cells #[.int .i64 ak, .int .i64 ar, .int .i64 ay, .int .i64 an] 23)
      clear hN lN
      generalize World.drew _ = W at *
      obtain ⟨b0, b1, b2, b3, b4, b5, b6, b7, b8, b9, b10, b11, b12⟩ := box13_facts HB; obtain ⟨p0, p1, p2, p3, -, -, -, -⟩ := box4_facts HA; obtain ⟨q0, q1, q2, q3, -, -, -, -⟩ := box4_facts HC
      rcases Bool.eq_false_or_eq_true ra with rfl | rfl
      · rcases Bool.eq_false_or_eq_true rb with rfl | rfl
        · by_cases h8 : op = 8
          · subst h8
            cases ma <;> rcases Decidable.em (bk = 1) with rfl | hk
            all_goals go_wp2_with (first
          | (go_at_call 52; apply Calls.mono; (focus (with_reducible (exact c1 _))); rintro e wn ⟨rfl, hl⟩; replace HB := heap_later hl HB; replace HA := heap_later hl HA; replace HC := heap_later hl HC; replace LL := Later.trans LL hl; obtain ⟨b0, b1, b2, b3, b4, b5, b6, b7, b8, b9, b10, b11, b12⟩ := box13_facts HB; obtain ⟨p0, p1, p2, p3, -, -, -, -⟩ := box4_facts HA; obtain ⟨q0, q1, q2, q3, -, -, -, -⟩ := box4_facts HC)
          | (go_at_call 52; apply Calls.mono; (focus (with_reducible (exact c2 _))); rintro e wn ⟨rfl, hl⟩; replace HB := heap_later hl HB; replace HA := heap_later hl HA; replace HC := heap_later hl HC; replace LL := Later.trans LL hl; obtain ⟨b0, b1, b2, b3, b4, b5, b6, b7, b8, b9, b10, b11, b12⟩ := box13_facts HB; obtain ⟨p0, p1, p2, p3, -, -, -, -⟩ := box4_facts HA; obtain ⟨q0, q1, q2, q3, -, -, -, -⟩ := box4_facts HC)
          | (go_at_call 40; apply Calls.mono; (focus (with_reducible (exact c3 _))); rintro e wn ⟨rfl, hl⟩; replace HB := heap_later hl HB; replace HA := heap_later hl HA; replace HC := heap_later hl HC; replace LL := Later.trans LL hl; obtain ⟨b0, b1, b2, b3, b4, b5, b6, b7, b8, b9, b10, b11, b12⟩ := box13_facts HB; obtain ⟨p0, p1, p2, p3, -, -, -, -⟩ := box4_facts HA; obtain ⟨q0, q1, q2, q3, -, -, -, -⟩ := box4_facts HC)
          | (go_at_call 40; apply Calls.mono; (focus (with_reducible (exact c4 _))); rintro e wn ⟨rfl, hl⟩; replace HB := heap_later hl HB; replace HA := heap_later hl HA; replace HC := heap_later hl HC; replace LL := Later.trans LL hl; obtain ⟨b0, b1, b2, b3, b4, b5, b6, b7, b8, b9, b10, b11, b12⟩ := box13_facts HB; obtain ⟨p0, p1, p2, p3, -, -, -, -⟩ := box4_facts HA; obtain ⟨q0, q1, q2, q3, -, -, -, -⟩ := box4_facts HC)
          | (go_at_call 53; apply Calls.mono; (focus (with_reducible (exact c5 _))); rintro e wn ⟨rfl, hl⟩; replace HB := heap_later hl HB; replace HA := heap_later hl HA; replace HC := heap_later hl HC; replace LL := Later.trans LL hl; obtain ⟨b0, b1, b2, b3, b4, b5, b6, b7, b8, b9, b10, b11, b12⟩ := box13_facts HB; obtain ⟨p0, p1, p2, p3, -, -, -, -⟩ := box4_facts HA; obtain ⟨q0, q1, q2, q3, -, -, -, -⟩ := box4_facts HC)
          | (go_at_call 54; apply Calls.mono; (focus (with_reducible (exact c6 _))); rintro e wn ⟨rfl, hr⟩; obtain rfl := hr.symm))
            all_goals go_ret
            all_goals exact ⟨ret_bool (by simp_all), LL⟩
          · by_cases h9 : op = 9
            · subst h9
              cases ma <;> rcases Decidable.em (bk = 1) with rfl | hk
              all_goals go_wp2_with (first
          | (go_at_call 52; apply Calls.mono; (focus (with_reducible (exact c1 _))); rintro e wn ⟨rfl, hl⟩; replace HB := heap_later hl HB; replace HA := heap_later hl HA; replace HC := heap_later hl HC; replace LL := Later.trans LL hl; obtain ⟨b0, b1, b2, b3, b4, b5, b6, b7, b8, b9, b10, b11, b12⟩ := box13_facts HB; obtain ⟨p0, p1, p2, p3, -, -, -, -⟩ := box4_facts HA; obtain ⟨q0, q1, q2, q3, -, -, -, -⟩ := box4_facts HC)
          | (go_at_call 52; apply Calls.mono; (focus (with_reducible (exact c2 _))); rintro e wn ⟨rfl, hl⟩; replace HB := heap_later hl HB; replace HA := heap_later hl HA; replace HC := heap_later hl HC; replace LL := Later.trans LL hl; obtain ⟨b0, b1, b2, b3, b4, b5, b6, b7, b8, b9, b10, b11, b12⟩ := box13_facts HB; obtain ⟨p0, p1, p2, p3, -, -, -, -⟩ := box4_facts HA; obtain ⟨q0, q1, q2, q3, -, -, -, -⟩ := box4_facts HC)
          | (go_at_call 40; apply Calls.mono; (focus (with_reducible (exact c3 _))); rintro e wn ⟨rfl, hl⟩; replace HB := heap_later hl HB; replace HA := heap_later hl HA; replace HC := heap_later hl HC; replace LL := Later.trans LL hl; obtain ⟨b0, b1, b2, b3, b4, b5, b6, b7, b8, b9, b10, b11, b12⟩ := box13_facts HB; obtain ⟨p0, p1, p2, p3, -, -, -, -⟩ := box4_facts HA; obtain ⟨q0, q1, q2, q3, -, -, -, -⟩ := box4_facts HC)
          | (go_at_call 40; apply Calls.mono; (focus (with_reducible (exact c4 _))); rintro e wn ⟨rfl, hl⟩; replace HB := heap_later hl HB; replace HA := heap_later hl HA; replace HC := heap_later hl HC; replace LL := Later.trans LL hl; obtain ⟨b0, b1, b2, b3, b4, b5, b6, b7, b8, b9, b10, b11, b12⟩ := box13_facts HB; obtain ⟨p0, p1, p2, p3, -, -, -, -⟩ := box4_facts HA; obtain ⟨q0, q1, q2, q3, -, -, -, -⟩ := box4_facts HC)
          | (go_at_call 53; apply Calls.mono; (focus (with_reducible (exact c5 _))); rintro e wn ⟨rfl, hl⟩; replace HB := heap_later hl HB; replace HA := heap_later hl HA; replace HC := heap_later hl HC; replace LL := Later.trans LL hl; obtain ⟨b0, b1, b2, b3, b4, b5, b6, b7, b8, b9, b10, b11, b12⟩ := box13_facts HB; obtain ⟨p0, p1, p2, p3, -, -, -, -⟩ := box4_facts HA; obtain ⟨q0, q1, q2, q3, -, -, -, -⟩ := box4_facts HC)
          | (go_at_call 54; apply Calls.mono; (focus (with_reducible (exact c6 _))); rintro e wn ⟨rfl, hr⟩; obtain rfl := hr.symm))
              all_goals go_ret
              all_goals exact ⟨ret_bool (by simp_all), LL⟩
            · by_cases ha : ak = 1
              · subst ha
                cases pb <;> cases mb
                all_goals go_wp2_with (first
          | (go_at_call 52; apply Calls.mono; (focus (with_reducible (exact c1 _))); rintro e wn ⟨rfl, hl⟩; replace HB := heap_later hl HB; replace HA := heap_later hl HA; replace HC := heap_later hl HC; replace LL := Later.trans LL hl; obtain ⟨b0, b1, b2, b3, b4, b5, b6, b7, b8, b9, b10, b11, b12⟩ := box13_facts HB; obtain ⟨p0, p1, p2, p3, -, -, -, -⟩ := box4_facts HA; obtain ⟨q0, q1, q2, q3, -, -, -, -⟩ := box4_facts HC)
          | (go_at_call 52; apply Calls.mono; (focus (with_reducible (exact c2 _))); rintro e wn ⟨rfl, hl⟩; replace HB := heap_later hl HB; replace HA := heap_later hl HA; replace HC := heap_later hl HC; replace LL := Later.trans LL hl; obtain ⟨b0, b1, b2, b3, b4, b5, b6, b7, b8, b9, b10, b11, b12⟩ := box13_facts HB; obtain ⟨p0, p1, p2, p3, -, -, -, -⟩ := box4_facts HA; obtain ⟨q0, q1, q2, q3, -, -, -, -⟩ := box4_facts HC)
          | (go_at_call 40; apply Calls.mono; (focus (with_reducible (exact c3 _))); rintro e wn ⟨rfl, hl⟩; replace HB := heap_later hl HB; replace HA := heap_later hl HA; replace HC := heap_later hl HC; replace LL := Later.trans LL hl; obtain ⟨b0, b1, b2, b3, b4, b5, b6, b7, b8, b9, b10, b11, b12⟩ := box13_facts HB; obtain ⟨p0, p1, p2, p3, -, -, -, -⟩ := box4_facts HA; obtain ⟨q0, q1, q2, q3, -, -, -, -⟩ := box4_facts HC)
          | (go_at_call 40; apply Calls.mono; (focus (with_reducible (exact c4 _))); rintro e wn ⟨rfl, hl⟩; replace HB := heap_later hl HB; replace HA := heap_later hl HA; replace HC := heap_later hl HC; replace LL := Later.trans LL hl; obtain ⟨b0, b1, b2, b3, b4, b5, b6, b7, b8, b9, b10, b11, b12⟩ := box13_facts HB; obtain ⟨p0, p1, p2, p3, -, -, -, -⟩ := box4_facts HA; obtain ⟨q0, q1, q2, q3, -, -, -, -⟩ := box4_facts HC)
          | (go_at_call 53; apply Calls.mono; (focus (with_reducible (exact c5 _))); rintro e wn ⟨rfl, hl⟩; replace HB := heap_later hl HB; replace HA := heap_later hl HA; replace HC := heap_later hl HC; replace LL := Later.trans LL hl; obtain ⟨b0, b1, b2, b3, b4, b5, b6, b7, b8, b9, b10, b11, b12⟩ := box13_facts HB; obtain ⟨p0, p1, p2, p3, -, -, -, -⟩ := box4_facts HA; obtain ⟨q0, q1, q2, q3, -, -, -, -⟩ := box4_facts HC)
          | (go_at_call 54; apply Calls.mono; (focus (with_reducible (exact c6 _))); rintro e wn ⟨rfl, hr⟩; obtain rfl := hr.symm))
                all_goals go_ret
                all_goals exact ⟨ret_bool (by simp_all), LL⟩
              · cases ma <;> cases pb <;> cases lock
                all_goals go_wp2_with (first
          | (go_at_call 52; apply Calls.mono; (focus (with_reducible (exact c1 _))); rintro e wn ⟨rfl, hl⟩; replace HB := heap_later hl HB; replace HA := heap_later hl HA; replace HC := heap_later hl HC; replace LL := Later.trans LL hl; obtain ⟨b0, b1, b2, b3, b4, b5, b6, b7, b8, b9, b10, b11, b12⟩ := box13_facts HB; obtain ⟨p0, p1, p2, p3, -, -, -, -⟩ := box4_facts HA; obtain ⟨q0, q1, q2, q3, -, -, -, -⟩ := box4_facts HC)
          | (go_at_call 52; apply Calls.mono; (focus (with_reducible (exact c2 _))); rintro e wn ⟨rfl, hl⟩; replace HB := heap_later hl HB; replace HA := heap_later hl HA; replace HC := heap_later hl HC; replace LL := Later.trans LL hl; obtain ⟨b0, b1, b2, b3, b4, b5, b6, b7, b8, b9, b10, b11, b12⟩ := box13_facts HB; obtain ⟨p0, p1, p2, p3, -, -, -, -⟩ := box4_facts HA; obtain ⟨q0, q1, q2, q3, -, -, -, -⟩ := box4_facts HC)
          | (go_at_call 40; apply Calls.mono; (focus (with_reducible (exact c3 _))); rintro e wn ⟨rfl, hl⟩; replace HB := heap_later hl HB; replace HA := heap_later hl HA; replace HC := heap_later hl HC; replace LL := Later.trans LL hl; obtain ⟨b0, b1, b2, b3, b4, b5, b6, b7, b8, b9, b10, b11, b12⟩ := box13_facts HB; obtain ⟨p0, p1, p2, p3, -, -, -, -⟩ := box4_facts HA; obtain ⟨q0, q1, q2, q3, -, -, -, -⟩ := box4_facts HC)
          | (go_at_call 40; apply Calls.mono; (focus (with_reducible (exact c4 _))); rintro e wn ⟨rfl, hl⟩; replace HB := heap_later hl HB; replace HA := heap_later hl HA; replace HC := heap_later hl HC; replace LL := Later.trans LL hl; obtain ⟨b0, b1, b2, b3, b4, b5, b6, b7, b8, b9, b10, b11, b12⟩ := box13_facts HB; obtain ⟨p0, p1, p2, p3, -, -, -, -⟩ := box4_facts HA; obtain ⟨q0, q1, q2, q3, -, -, -, -⟩ := box4_facts HC)
          | (go_at_call 53; apply Calls.mono; (focus (with_reducible (exact c5 _))); rintro e wn ⟨rfl, hl⟩; replace HB := heap_later hl HB; replace HA := heap_later hl HA; replace HC := heap_later hl HC; replace LL := Later.trans LL hl; obtain ⟨b0, b1, b2, b3, b4, b5, b6, b7, b8, b9, b10, b11, b12⟩ := box13_facts HB; obtain ⟨p0, p1, p2, p3, -, -, -, -⟩ := box4_facts HA; obtain ⟨q0, q1, q2, q3, -, -, -, -⟩ := box4_facts HC)
          | (go_at_call 54; apply Calls.mono; (focus (with_reducible (exact c6 _))); rintro e wn ⟨rfl, hr⟩; obtain rfl := hr.symm))
                all_goals go_ret
                all_goals exact ⟨ret_bool (by simp_all), LL⟩
        · all_goals go_wp2_with (first
            | (go_at_call 52; apply Calls.mono; (focus (with_reducible (exact c1 _))); rintro e wn ⟨rfl, hl⟩; replace HB := heap_later hl HB; replace HA := heap_later hl HA; replace HC := heap_later hl HC; replace LL := Later.trans LL hl; obtain ⟨b0, b1, b2, b3, b4, b5, b6, b7, b8, b9, b10, b11, b12⟩ := box13_facts HB; obtain ⟨p0, p1, p2, p3, -, -, -, -⟩ := box4_facts HA; obtain ⟨q0, q1, q2, q3, -, -, -, -⟩ := box4_facts HC)
            | (go_at_call 52; apply Calls.mono; (focus (with_reducible (exact c2 _))); rintro e wn ⟨rfl, hl⟩; replace HB := heap_later hl HB; replace HA := heap_later hl HA; replace HC := heap_later hl HC; replace LL := Later.trans LL hl; obtain ⟨b0, b1, b2, b3, b4, b5, b6, b7, b8, b9, b10, b11, b12⟩ := box13_facts HB; obtain ⟨p0, p1, p2, p3, -, -, -, -⟩ := box4_facts HA; obtain ⟨q0, q1, q2, q3, -, -, -, -⟩ := box4_facts HC)
            | (go_at_call 40; apply Calls.mono; (focus (with_reducible (exact c3 _))); rintro e wn ⟨rfl, hl⟩; replace HB := heap_later hl HB; replace HA := heap_later hl HA; replace HC := heap_later hl HC; replace LL := Later.trans LL hl; obtain ⟨b0, b1, b2, b3, b4, b5, b6, b7, b8, b9, b10, b11, b12⟩ := box13_facts HB; obtain ⟨p0, p1, p2, p3, -, -, -, -⟩ := box4_facts HA; obtain ⟨q0, q1, q2, q3, -, -, -, -⟩ := box4_facts HC)
            | (go_at_call 40; apply Calls.mono; (focus (with_reducible (exact c4 _))); rintro e wn ⟨rfl, hl⟩; replace HB := heap_later hl HB; replace HA := heap_later hl HA; replace HC := heap_later hl HC; replace LL := Later.trans LL hl; obtain ⟨b0, b1, b2, b3, b4, b5, b6, b7, b8, b9, b10, b11, b12⟩ := box13_facts HB; obtain ⟨p0, p1, p2, p3, -, -, -, -⟩ := box4_facts HA; obtain ⟨q0, q1, q2, q3, -, -, -, -⟩ := box4_facts HC)
            | (go_at_call 53; apply Calls.mono; (focus (with_reducible (exact c5 _))); rintro e wn ⟨rfl, hl⟩; replace HB := heap_later hl HB; replace HA := heap_later hl HA; replace HC := heap_later hl HC; replace LL := Later.trans LL hl; obtain ⟨b0, b1, b2, b3, b4, b5, b6, b7, b8, b9, b10, b11, b12⟩ := box13_facts HB; obtain ⟨p0, p1, p2, p3, -, -, -, -⟩ := box4_facts HA; obtain ⟨q0, q1, q2, q3, -, -, -, -⟩ := box4_facts HC)
            | (go_at_call 54; apply Calls.mono; (focus (with_reducible (exact c6 _))); rintro e wn ⟨rfl, hr⟩; obtain rfl := hr.symm))
          all_goals go_ret
          all_goals exact ⟨ret_bool (by simp_all), LL⟩
      · all_goals go_wp2_with (first
          | (go_at_call 52; apply Calls.mono; (focus (with_reducible (exact c1 _))); rintro e wn ⟨rfl, hl⟩; replace HB := heap_later hl HB; replace HA := heap_later hl HA; replace HC := heap_later hl HC; replace LL := Later.trans LL hl; obtain ⟨b0, b1, b2, b3, b4, b5, b6, b7, b8, b9, b10, b11, b12⟩ := box13_facts HB; obtain ⟨p0, p1, p2, p3, -, -, -, -⟩ := box4_facts HA; obtain ⟨q0, q1, q2, q3, -, -, -, -⟩ := box4_facts HC)
          | (go_at_call 52; apply Calls.mono; (focus (with_reducible (exact c2 _))); rintro e wn ⟨rfl, hl⟩; replace HB := heap_later hl HB; replace HA := heap_later hl HA; replace HC := heap_later hl HC; replace LL := Later.trans LL hl; obtain ⟨b0, b1, b2, b3, b4, b5, b6, b7, b8, b9, b10, b11, b12⟩ := box13_facts HB; obtain ⟨p0, p1, p2, p3, -, -, -, -⟩ := box4_facts HA; obtain ⟨q0, q1, q2, q3, -, -, -, -⟩ := box4_facts HC)
          | (go_at_call 40; apply Calls.mono; (focus (with_reducible (exact c3 _))); rintro e wn ⟨rfl, hl⟩; replace HB := heap_later hl HB; replace HA := heap_later hl HA; replace HC := heap_later hl HC; replace LL := Later.trans LL hl; obtain ⟨b0, b1, b2, b3, b4, b5, b6, b7, b8, b9, b10, b11, b12⟩ := box13_facts HB; obtain ⟨p0, p1, p2, p3, -, -, -, -⟩ := box4_facts HA; obtain ⟨q0, q1, q2, q3, -, -, -, -⟩ := box4_facts HC)
          | (go_at_call 40; apply Calls.mono; (focus (with_reducible (exact c4 _))); rintro e wn ⟨rfl, hl⟩; replace HB := heap_later hl HB; replace HA := heap_later hl HA; replace HC := heap_later hl HC; replace LL := Later.trans LL hl; obtain ⟨b0, b1, b2, b3, b4, b5, b6, b7, b8, b9, b10, b11, b12⟩ := box13_facts HB; obtain ⟨p0, p1, p2, p3, -, -, -, -⟩ := box4_facts HA; obtain ⟨q0, q1, q2, q3, -, -, -, -⟩ := box4_facts HC)
          | (go_at_call 53; apply Calls.mono; (focus (with_reducible (exact c5 _))); rintro e wn ⟨rfl, hl⟩; replace HB := heap_later hl HB; replace HA := heap_later hl HA; replace HC := heap_later hl HC; replace LL := Later.trans LL hl; obtain ⟨b0, b1, b2, b3, b4, b5, b6, b7, b8, b9, b10, b11, b12⟩ := box13_facts HB; obtain ⟨p0, p1, p2, p3, -, -, -, -⟩ := box4_facts HA; obtain ⟨q0, q1, q2, q3, -, -, -, -⟩ := box4_facts HC)
          | (go_at_call 54; apply Calls.mono; (focus (with_reducible (exact c6 _))); rintro e wn ⟨rfl, hr⟩; obtain rfl := hr.symm))
        all_goals go_ret
        all_goals exact ⟨ret_bool (by simp_all), LL⟩

end Go.Proofs.YtginggelbfbcfaaDoor
