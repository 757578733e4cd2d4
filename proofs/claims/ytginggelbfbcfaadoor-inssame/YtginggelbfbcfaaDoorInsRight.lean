/-
  What package ins's Right returns of an instruction. Nothing that was in memory turns. Conditions: the listed tables stand as the program's text lays them; its name has at most 1000 bytes.
-/
import Derived.Test.YtginggelbfbcfaaDoorInsForm
import Derived.Test.YtginggelbfbcfaaDoorRefInsRight
import Derived.Test.YtginggelbfbcfaaDoorNamesRight
namespace Go.Proofs.YtginggelbfbcfaaDoor
open Go.RowKit
set_option linter.unusedVariables false
set_option linter.unusedSimpArgs false

/-- What is wrong, asked the developers' way, is what is wrong. -/
theorem insF_formed (x : Ins) : insF x = if formedF x = false then 4 else if jumpsF x.op = true ∧ rightF x.dest = false then 3 else 0 := by
  have hm : memF x.a = true → x.a.kind ≠ 1 := by intro h; simp [memF] at h; omega
  have hmb : memF x.b = true → x.b.kind ≠ 1 := by intro h; simp [memF] at h; omega
  have hp : plainF x.b = true ↔ (x.b.kind = 1 ∨ x.b.kind = 2) := by simp [plainF]
  have hr : reckonsF x.op = true ↔ (2 ≤ x.op ∧ x.op ≤ 6) := by simp [reckonsF]
  have hj : jumpsF x.op = true ↔ (x.op = 10 ∨ x.op = 11) := by simp [jumpsF]
  unfold insF formedF rowF bareF aloneF movesF swapsF isRegO isPlainO isMemO
  generalize rightF x.dest = ri at *
  generalize x.dest.data.toList.isEmpty = em at *
  generalize opdRightF x.a = ra at *
  generalize opdRightF x.b = rb at *
  generalize memF x.a = ma at *
  generalize memF x.b = mb at *
  generalize plainF x.b = pb at *
  generalize opdZero x.a = za at *
  generalize opdZero x.b = zb at *
  generalize reckonsF x.op = rk at *
  generalize jumpsF x.op = ju at *
  generalize x.op = op at *
  generalize x.lock = lk at *
  generalize x.cond = cond at *
  generalize x.a.kind = ak at *
  generalize x.b.kind = bk at *
  by_cases h0 : op < 1 ∨ 14 < op
  · rw [if_pos h0]
    have e : ¬ (op = 1 ∨ op = 7) ∧ ¬ (2 ≤ op ∧ op ≤ 6) ∧ op ≠ 8 ∧ op ≠ 9 ∧ op ≠ 10 ∧ op ≠ 11 ∧ ¬ (12 ≤ op ∧ op ≤ 14) := by omega
    simp [e]
  · rw [if_neg h0]
    have ho : op = 1 ∨ op = 2 ∨ op = 3 ∨ op = 4 ∨ op = 5 ∨ op = 6 ∨ op = 7 ∨ op = 8 ∨ op = 9 ∨ op = 10 ∨ op = 11 ∨ op = 12 ∨ op = 13 ∨ op = 14 := by omega
    rcases ho with rfl | rfl | rfl | rfl | rfl | rfl | rfl | rfl | rfl | rfl | rfl | rfl | rfl | rfl
    all_goals grind

set_option maxRecDepth 1000000 in
set_option maxHeartbeats 4000000 in
theorem insRight_any (x : Ins) (hd : x.dest.size ≤ 1000) (w : World) (hG : NamesGood w) :
    Calls Tryd.prog 12 #[x.val] w fun e w' => e = .returned (.int .i64 (insF x)) ∧ Later w w' := by
  have c1 := fun w' h => insFormed_any x w' h
  have c2 := fun w' => insJumps_any x.op w'
  have c3 := fun w' h => nameRight_any x.dest hd w' h
  rw [insF_formed]
  generalize formedF x = fo at *
  generalize jumpsF x.op = ju at *
  generalize rightF x.dest = ri at *
  clear hd
  obtain ⟨op, lock, cond, ⟨ak, ar, ay, an⟩, ⟨bk, br, bs, bn⟩, dest, lb⟩ := x
  unfold Ins.val Ins.cells at *
  try unfold Opd.val at *
  dsimp only at *
  have LL := Later.alloc (Later.refl w) (.cells #[.int .i64 op, .bool lock, .int .i64 cond, .int .i64 ak, .int .i64 ar, .int .i64 ay, .int .i64 an, .int .i64 bk, .int .i64 br, .int .i64 bs, .int .i64 bn, .string dest, lb] 26)
  have HB := at_new w (.cells #[.int .i64 op, .bool lock, .int .i64 cond, .int .i64 ak, .int .i64 ar, .int .i64 ay, .int .i64 an, .int .i64 bk, .int .i64 br, .int .i64 bs, .int .i64 bn, .string dest, lb] 26)
  have HG := hG.later LL
  clear hG
  go_enter Tryd.func12, Tryd.ntmps12
  go_upto_region 1 with (fail)
  obtain ⟨b0, b1, b2, b3, b4, b5, b6, b7, b8, b9, b10, b11, b12⟩ := box13_facts HB
  generalize w.alloc (.cells #[.int .i64 op, .bool lock, .int .i64 cond, .int .i64 ak, .int .i64 ar, .int .i64 ay, .int .i64 an, .int .i64 bk, .int .i64 br, .int .i64 bs, .int .i64 bn, .string dest, lb] 26) = W at *
  cases fo <;> cases ju <;> cases ri
  all_goals go_wp2_with (first | (go_at_call 34; apply Calls.mono; (focus (with_reducible (exact c1 _ HG.regs))); rintro e wn ⟨rfl, hl⟩; replace HB := heap_later hl HB; replace HG := HG.later hl; replace LL := Later.trans LL hl; obtain ⟨b0, b1, b2, b3, b4, b5, b6, b7, b8, b9, b10, b11, b12⟩ := box13_facts HB) | (go_at_call 35; apply Calls.mono; (focus (with_reducible (exact c2 _))); rintro e wn ⟨rfl, hr⟩; obtain rfl := hr.symm) | (go_at_call 36; apply Calls.mono; (focus (with_reducible (exact c3 _ HG))); rintro e wn ⟨rfl, hl⟩; replace HB := heap_later hl HB; replace HG := HG.later hl; replace LL := Later.trans LL hl; obtain ⟨b0, b1, b2, b3, b4, b5, b6, b7, b8, b9, b10, b11, b12⟩ := box13_facts HB))
  all_goals go_ret
  all_goals exact ⟨ret_int (by simp), LL⟩

end Go.Proofs.YtginggelbfbcfaaDoor
