/-
  What a part of each kind, or none, gives where it is asserted to be of a kind, with two values, and the register with one. Nothing turns. Conditions: none.
  What package opnd's functions over an operand and over its part return: Right, Of, Num, Memory, Reg, Back. Nothing that was in memory turns. Conditions: the table of the registers' words stands as the program's text lays it; as each theorem names them.
  What package ins's functions over an operand return: whether it is a register, a number or a register, memory, that may be; and whether what an instruction does is a jump. Nothing that was in memory turns. Conditions: the table of the registers' words stands as the program's text lays it.
  What package ins's functions over an instruction return: whether it has nothing that jumps alone have, no operands, those of a move, of an exchange; whether it is a row's; and what is wrong with it. Nothing that was in memory turns. Conditions: the listed tables stand as the program's text lays them; its name has at most 1000 bytes.
-/
import Derived.Test.YtegogmbcjjjjjaaDoorJa
import Derived.Test.YtegogmbcjjjjjaaDoorJc
import Derived.Test.YtegogmbcjjjjjaaDoorJd
import Derived.RegionTactic
import Derived.Deep.CutRange
namespace Go.Proofs.YtegogmbcjjjjjaaDoor
open Go.RowKit

@[go_sem] theorem asRegReg (v : Value) (w : World) : (Instr.typeAssert (.iface 119 v) 109 119 true).run Tryd.prog w = .ok (.tuple #[v, .bool true]) w := by kernel_rfl
@[go_sem] theorem asNumReg (v : Value) (w : World) : (Instr.typeAssert (.iface 122 v) 109 119 true).run Tryd.prog w = .ok (.tuple #[.agg #[.int .i64 0], .bool false]) w := by kernel_rfl
@[go_sem] theorem asAtReg (v : Value) (w : World) : (Instr.typeAssert (.iface 113 v) 109 119 true).run Tryd.prog w = .ok (.tuple #[.agg #[.int .i64 0], .bool false]) w := by kernel_rfl
@[go_sem] theorem asByReg (v : Value) (w : World) : (Instr.typeAssert (.iface 116 v) 109 119 true).run Tryd.prog w = .ok (.tuple #[.agg #[.int .i64 0], .bool false]) w := by kernel_rfl
@[go_sem] theorem asNilReg (w : World) : (Instr.typeAssert .nilIface 109 119 true).run Tryd.prog w = .ok (.tuple #[.agg #[.int .i64 0], .bool false]) w := by kernel_rfl
@[go_sem] theorem asRegNum (v : Value) (w : World) : (Instr.typeAssert (.iface 119 v) 109 122 true).run Tryd.prog w = .ok (.tuple #[.agg #[.int .i64 0], .bool false]) w := by kernel_rfl
@[go_sem] theorem asNumNum (v : Value) (w : World) : (Instr.typeAssert (.iface 122 v) 109 122 true).run Tryd.prog w = .ok (.tuple #[v, .bool true]) w := by kernel_rfl
@[go_sem] theorem asAtNum (v : Value) (w : World) : (Instr.typeAssert (.iface 113 v) 109 122 true).run Tryd.prog w = .ok (.tuple #[.agg #[.int .i64 0], .bool false]) w := by kernel_rfl
@[go_sem] theorem asByNum (v : Value) (w : World) : (Instr.typeAssert (.iface 116 v) 109 122 true).run Tryd.prog w = .ok (.tuple #[.agg #[.int .i64 0], .bool false]) w := by kernel_rfl
@[go_sem] theorem asNilNum (w : World) : (Instr.typeAssert .nilIface 109 122 true).run Tryd.prog w = .ok (.tuple #[.agg #[.int .i64 0], .bool false]) w := by kernel_rfl
@[go_sem] theorem asRegAt (v : Value) (w : World) : (Instr.typeAssert (.iface 119 v) 109 113 true).run Tryd.prog w = .ok (.tuple #[.agg #[.int .i64 0, .int .i64 0], .bool false]) w := by kernel_rfl
@[go_sem] theorem asNumAt (v : Value) (w : World) : (Instr.typeAssert (.iface 122 v) 109 113 true).run Tryd.prog w = .ok (.tuple #[.agg #[.int .i64 0, .int .i64 0], .bool false]) w := by kernel_rfl
@[go_sem] theorem asAtAt (v : Value) (w : World) : (Instr.typeAssert (.iface 113 v) 109 113 true).run Tryd.prog w = .ok (.tuple #[v, .bool true]) w := by kernel_rfl
@[go_sem] theorem asByAt (v : Value) (w : World) : (Instr.typeAssert (.iface 116 v) 109 113 true).run Tryd.prog w = .ok (.tuple #[.agg #[.int .i64 0, .int .i64 0], .bool false]) w := by kernel_rfl
@[go_sem] theorem asNilAt (w : World) : (Instr.typeAssert .nilIface 109 113 true).run Tryd.prog w = .ok (.tuple #[.agg #[.int .i64 0, .int .i64 0], .bool false]) w := by kernel_rfl
@[go_sem] theorem asRegBy (v : Value) (w : World) : (Instr.typeAssert (.iface 119 v) 109 116 true).run Tryd.prog w = .ok (.tuple #[.agg #[.int .i64 0, .int .i64 0], .bool false]) w := by kernel_rfl
@[go_sem] theorem asNumBy (v : Value) (w : World) : (Instr.typeAssert (.iface 122 v) 109 116 true).run Tryd.prog w = .ok (.tuple #[.agg #[.int .i64 0, .int .i64 0], .bool false]) w := by kernel_rfl
@[go_sem] theorem asAtBy (v : Value) (w : World) : (Instr.typeAssert (.iface 113 v) 109 116 true).run Tryd.prog w = .ok (.tuple #[.agg #[.int .i64 0, .int .i64 0], .bool false]) w := by kernel_rfl
@[go_sem] theorem asByBy (v : Value) (w : World) : (Instr.typeAssert (.iface 116 v) 109 116 true).run Tryd.prog w = .ok (.tuple #[v, .bool true]) w := by kernel_rfl
@[go_sem] theorem asNilBy (w : World) : (Instr.typeAssert .nilIface 109 116 true).run Tryd.prog w = .ok (.tuple #[.agg #[.int .i64 0, .int .i64 0], .bool false]) w := by kernel_rfl
@[go_sem] theorem asReg (v : Value) (w : World) : (Instr.typeAssert (.iface 119 v) 109 119 false).run Tryd.prog w = .ok v w := by kernel_rfl
@[go_sem] theorem fieldReg (v : Value) (w : World) : (Instr.field 119 (.agg #[v]) 0).run Tryd.prog w = .ok v w := by kernel_rfl

end Go.Proofs.YtegogmbcjjjjjaaDoor

namespace Go.Proofs.YtegogmbcjjjjjaaDoor
open Go.RowKit
set_option linter.unusedVariables false
set_option linter.unusedSimpArgs false

/-- The four parts. -/
def regP (r : Int) : Value := .iface 119 (.agg #[.int .i64 r])
def numP (n : Int) : Value := .iface 122 (.agg #[.int .i64 n])
def atP (s n : Int) : Value := .iface 113 (.agg #[.int .i64 s, .int .i64 n])
def byP (s r : Int) : Value := .iface 116 (.agg #[.int .i64 s, .int .i64 r])

/-- The part of an operand's numbers. -/
def partV (o : Opd) : Value := if o.kind = 1 then regP o.reg else if o.kind = 2 then numP o.n else if o.kind = 3 then atP o.sym o.n else byP o.sym o.reg

def isRegF (r : Int) : Bool := decide (0 ≤ r ∧ r ≤ 7)

theorem isReg_any (r : Int) (w : World) (hT : Tab w 2 regsT) :
    Calls Tryd.prog 77 #[.int .i64 r] w fun e w' => e = .returned (.bool (isRegF r)) ∧ w' = w := by
  have c := regText_any r w hT
  have e0 := regText_no r
  generalize textAt regsT r = t at *
  have hb : (!t.toList.isEmpty) = isRegF r := by
    rw [Bool.eq_iff_iff]
    simp only [isRegF, decide_eq_true_eq, ← e0, Bool.not_eq_true']
  clear e0
  go_enter Tryd.func77, Tryd.ntmps77
  go_wp2_with (go_at_call 78; refine c.mono ?_; rintro e w1 ⟨rfl, h1⟩; obtain rfl := h1.symm)
  go_ret
  exact ⟨rfl, rfl⟩

set_option maxRecDepth 1000000 in
set_option maxHeartbeats 1000000 in
theorem right_any (o : Opd) (w : World) (hT : Tab w 2 regsT) :
    Calls Tryd.prog 76 #[o.val] w fun e w' => e = .returned (.bool (opdRightF o)) ∧ Later w w' := by
  obtain ⟨k, r, s, n⟩ := o
  have c := fun wr hT => isReg_any r wr hT
  have hr : isRegF r = true ↔ 0 ≤ r ∧ r ≤ 7 := by simp [isRegF]
  unfold Opd.val opdRightF
  generalize isRegF r = b at *
  have L := Later.alloc (Later.refl w) (.cells #[.int .i64 k, .int .i64 r, .int .i64 s, .int .i64 n] 36)
  have HT : Hid (Tab (w.alloc (.cells #[.int .i64 k, .int .i64 r, .int .i64 s, .int .i64 n] 36)) 2 regsT) := hT.later L
  clear hT
  have HR : Hid (b = true ↔ 0 ≤ r ∧ r ≤ 7) := hr
  clear hr
  cases b
  all_goals go_enter Tryd.func76, Tryd.ntmps76
  all_goals go_wp2_with (go_at_call 77; refine (c _ HT.out).mono ?_; rintro e w1 ⟨rfl, h1⟩; obtain rfl := h1.symm)
  all_goals go_ret
  all_goals have hr := HR.out
  all_goals refine ⟨ret_bool ?_, Later.alloc (Later.refl _) _⟩
  all_goals rw [Bool.eq_iff_iff]
  all_goals simp only [Bool.or_eq_true, Bool.and_eq_true, decide_eq_true_eq, beq_iff_eq, beq_eq_false_iff_ne, ne_eq, true_iff, false_iff, Bool.false_eq_true] at *
  all_goals omega

set_option maxRecDepth 1000000 in
set_option maxHeartbeats 1000000 in
theorem of_yes (o : Opd) (ho : opdRightF o = true) (w : World) (hT : Tab w 2 regsT) :
    Calls Tryd.prog 75 #[o.val] w fun e w' => e = .returned (.tuple #[partV o, .bool true]) ∧ Later w w' := by
  obtain ⟨k, r, s, n⟩ := o
  have L := Later.alloc (Later.refl w) (.cells #[.int .i64 k, .int .i64 r, .int .i64 s, .int .i64 n] 36)
  have c := right_any ⟨k, r, s, n⟩ _ (hT.later L)
  rw [ho] at c
  have hk : k = 1 ∨ k = 2 ∨ k = 3 ∨ k = 4 := by simp [opdRightF] at ho; omega
  clear hT ho
  unfold Opd.val at *
  unfold partV regP numP atP byP
  have hb := at_new w (.cells #[.int .i64 k, .int .i64 r, .int .i64 s, .int .i64 n] 36)
  rcases hk with rfl | rfl | rfl | rfl
  all_goals go_enter Tryd.func75, Tryd.ntmps75
  all_goals go_wp2_with (go_at_call 76; refine c.mono ?_; rintro e w1 ⟨rfl, hl1⟩; obtain ⟨c0, c1, c2, c3, -, -, -, -⟩ := box4_facts (heap_later hl1 hb))
  all_goals go_ret2
  all_goals exact ⟨rfl, L.trans hl1⟩

set_option maxRecDepth 1000000 in
set_option maxHeartbeats 1000000 in
theorem of_no (o : Opd) (ho : opdRightF o = false) (w : World) (hT : Tab w 2 regsT) :
    Calls Tryd.prog 75 #[o.val] w fun e w' => e = .returned (.tuple #[.nilIface, .bool false]) ∧ Later w w' := by
  obtain ⟨k, r, s, n⟩ := o
  have L := Later.alloc (Later.refl w) (.cells #[.int .i64 k, .int .i64 r, .int .i64 s, .int .i64 n] 36)
  have c := right_any ⟨k, r, s, n⟩ _ (hT.later L)
  rw [ho] at c
  clear hT ho
  unfold Opd.val at *
  go_enter Tryd.func75, Tryd.ntmps75
  go_wp2_with (go_at_call 76; refine c.mono ?_; rintro e w1 ⟨rfl, hl1⟩)
  go_ret2
  exact ⟨rfl, L.trans hl1⟩

theorem kinds_of_right {o : Opd} (ho : opdRightF o = true) : o.kind = 1 ∨ o.kind = 2 ∨ o.kind = 3 ∨ o.kind = 4 := by
  simp [opdRightF] at ho; omega

/-- The operand of a kind that has the numbers of that kind's part, the others 0. -/
def spreadF (o : Opd) : Opd := if o.kind = 1 then ⟨1, o.reg, 0, 0⟩ else if o.kind = 2 then ⟨2, 0, 0, o.n⟩ else if o.kind = 3 then ⟨3, 0, o.sym, o.n⟩ else ⟨4, o.reg, o.sym, 0⟩

theorem spread_right {o : Opd} (h : opdRightF o = true) : spreadF o = o := by
  obtain ⟨k, r, s, n⟩ := o
  simp [opdRightF] at h
  rcases h with ⟨rfl, -, -, rfl, rfl⟩ | ⟨rfl, rfl, rfl⟩ | ⟨rfl, -, -, rfl⟩ | ⟨rfl, -, -, -, rfl⟩
  all_goals simp [spreadF]

/-- What Back tells of the part of an operand's numbers. -/
def backF (o : Opd) : Opd := if opdRightF (spreadF o) = true then spreadF o else ⟨0, 0, 0, 0⟩

end Go.Proofs.YtegogmbcjjjjjaaDoor

namespace Go.Proofs.YtegogmbcjjjjjaaDoor
open Go.RowKit
set_option linter.unusedVariables false
set_option linter.unusedSimpArgs false

def isRegO (o : Opd) : Bool := opdRightF o && decide (o.kind = 1)
def isPlainO (o : Opd) : Bool := opdRightF o && plainF o
def isMemO (o : Opd) : Bool := opdRightF o && memF o

theorem insJumps_any (op : Int) (w : World) :
    Calls Tryd.prog 65 #[.int .i64 op] w fun e w' => e = .returned (.bool (jumpsF op)) ∧ w' = w := by
  unfold jumpsF
  go_enter Tryd.func65, Tryd.ntmps65
  go_wp2
  all_goals go_ret
  all_goals refine ⟨ret_bool ?_, rfl⟩
  all_goals rw [Bool.eq_iff_iff]
  all_goals simp only [Bool.or_eq_true, Bool.and_eq_true, decide_eq_true_eq, beq_iff_eq, beq_eq_false_iff_ne, ne_eq, true_iff, false_iff, Bool.false_eq_true] at *
  all_goals omega

set_option maxRecDepth 1000000 in
set_option maxHeartbeats 1000000 in
theorem insIsReg_any (o : Opd) (w : World) (hT : Tab w 2 regsT) :
    Calls Tryd.prog 73 #[o.val] w fun e w' => e = .returned (.bool (isRegO o)) ∧ Later w w' := by
  have L := Later.alloc (Later.refl w) (.cells #[.int .i64 o.kind, .int .i64 o.reg, .int .i64 o.sym, .int .i64 o.n] 36)
  have HT := hT.later L
  clear hT
  unfold isRegO
  cases h : opdRightF o with
  | false =>
    have c := of_no o h _ HT
    clear HT h
    obtain ⟨k, r, s, n⟩ := o
    unfold Opd.val at *
    dsimp only at *
    go_enter Tryd.func73, Tryd.ntmps73
    go_wp2_with (go_at_call 75; refine c.mono ?_; rintro e w1 ⟨rfl, hl1⟩)
    go_ret
    exact ⟨by simp, by repeat (first | exact L.trans hl1 | apply Later.alloc)⟩
  | true =>
    have c := of_yes o h _ HT
    have hk := kinds_of_right h
    clear HT h
    obtain ⟨k, r, s, n⟩ := o
    unfold Opd.val at *
    unfold partV regP numP atP byP at c
    dsimp only at *
    rcases hk with rfl | rfl | rfl | rfl
    all_goals simp only [reduceIte, Int.reduceEq] at c
    all_goals go_enter Tryd.func73, Tryd.ntmps73
    all_goals go_wp2_with (go_at_call 75; refine c.mono ?_; rintro e w1 ⟨rfl, hl1⟩)
    all_goals go_ret
    all_goals exact ⟨by simp, by repeat (first | exact L.trans hl1 | apply Later.alloc)⟩

set_option maxRecDepth 1000000 in
set_option maxHeartbeats 1000000 in
theorem insIsMemory_any (o : Opd) (w : World) (hT : Tab w 2 regsT) :
    Calls Tryd.prog 70 #[o.val] w fun e w' => e = .returned (.bool (isMemO o)) ∧ Later w w' := by
  have L := Later.alloc (Later.refl w) (.cells #[.int .i64 o.kind, .int .i64 o.reg, .int .i64 o.sym, .int .i64 o.n] 36)
  have HT := hT.later L
  clear hT
  unfold isMemO memF
  cases h : opdRightF o with
  | false =>
    have c := of_no o h _ HT
    clear HT h
    obtain ⟨k, r, s, n⟩ := o
    unfold Opd.val at *
    dsimp only at *
    go_enter Tryd.func70, Tryd.ntmps70
    go_wp2_with (go_at_call 75; refine c.mono ?_; rintro e w1 ⟨rfl, hl1⟩)
    go_ret
    exact ⟨by simp, by repeat (first | exact L.trans hl1 | apply Later.alloc)⟩
  | true =>
    have c := of_yes o h _ HT
    have hk := kinds_of_right h
    clear HT h
    obtain ⟨k, r, s, n⟩ := o
    unfold Opd.val at *
    unfold partV regP numP atP byP at c
    dsimp only at *
    rcases hk with rfl | rfl | rfl | rfl
    all_goals simp only [reduceIte, Int.reduceEq] at c
    all_goals go_enter Tryd.func70, Tryd.ntmps70
    all_goals go_wp2_with (go_at_call 75; refine c.mono ?_; rintro e w1 ⟨rfl, hl1⟩)
    all_goals go_ret
    all_goals exact ⟨by simp, by repeat (first | exact L.trans hl1 | apply Later.alloc)⟩

set_option maxRecDepth 1000000 in
set_option maxHeartbeats 1000000 in
theorem insIsPlain_any (o : Opd) (w : World) (hT : Tab w 2 regsT) :
    Calls Tryd.prog 74 #[o.val] w fun e w' => e = .returned (.bool (isPlainO o)) ∧ Later w w' := by
  have L := Later.alloc (Later.refl w) (.cells #[.int .i64 o.kind, .int .i64 o.reg, .int .i64 o.sym, .int .i64 o.n] 36)
  have HT := hT.later L
  clear hT
  have HB := at_new w (.cells #[.int .i64 o.kind, .int .i64 o.reg, .int .i64 o.sym, .int .i64 o.n] 36)
  have cR := fun w' hT' => insIsReg_any o w' hT'
  unfold isPlainO plainF
  unfold isRegO at cR
  cases h : opdRightF o with
  | false =>
    have c := of_no o h _ HT
    simp only [h, Bool.false_and] at cR
    clear h
    obtain ⟨k, r, s, n⟩ := o
    unfold Opd.val at *
    dsimp only at *
    go_enter Tryd.func74, Tryd.ntmps74
    go_upto_region 3 with (go_at_call 75; refine c.mono ?_; rintro e w1 ⟨rfl, hl1⟩)
    have hl2 := Later.alloc hl1 (.cells #[.int .i64 0] 122)
    generalize w1.alloc (.cells #[.int .i64 0] 122) = w2 at *
    replace HT := HT.later hl2
    obtain ⟨b0, b1, b2, b3, -, -, -, -⟩ := box4_facts (heap_later hl2 HB)
    go_wp2_with (go_at_call 73; refine (cR _ HT).mono ?_; rintro e w3 ⟨rfl, hl3⟩)
    go_ret
    exact ⟨by simp, (L.trans hl2).trans hl3⟩
  | true =>
    have c := of_yes o h _ HT
    simp only [h, Bool.true_and] at cR
    have hk := kinds_of_right h
    clear h
    obtain ⟨k, r, s, n⟩ := o
    unfold Opd.val at *
    unfold partV regP numP atP byP at c
    dsimp only at *
    rcases hk with rfl | rfl | rfl | rfl
    all_goals simp only [reduceIte, Int.reduceEq] at c
    all_goals go_enter Tryd.func74, Tryd.ntmps74
    all_goals go_upto_region 3 with (go_at_call 75; refine c.mono ?_; rintro e w1 ⟨rfl, hl1⟩)
    all_goals generalize hw2 : w1.alloc _ = w2
    all_goals have hl2 := hw2 ▸ Later.alloc hl1 _
    all_goals clear hw2
    all_goals replace HT := HT.later hl2
    all_goals obtain ⟨b0, b1, b2, b3, -, -, -, -⟩ := box4_facts (heap_later hl2 HB)
    all_goals go_wp2_with (go_at_call 73; refine (cR _ HT).mono ?_; rintro e w3 ⟨rfl, hl3⟩)
    all_goals go_ret
    all_goals exact ⟨by simp, by first | exact (L.trans hl2).trans hl3 | exact L.trans hl2⟩

end Go.Proofs.YtegogmbcjjjjjaaDoor

namespace Go.Proofs.YtegogmbcjjjjjaaDoor
open Go.RowKit
set_option linter.unusedVariables false
set_option linter.unusedSimpArgs false

def bareF (x : Ins) : Bool := decide (x.cond = 0) && x.dest.data.toList.isEmpty
def aloneF (x : Ins) : Bool := opdZero x.a && opdZero x.b && !x.lock
def movesF (x : Ins) : Bool := if isRegO x.a = true then isPlainO x.b || isMemO x.b else isMemO x.a && isPlainO x.b
def swapsF (x : Ins) : Bool := isMemO x.a && isRegO x.b
def formedF (x : Ins) : Bool :=
  if x.op = 1 ∨ x.op = 7 then bareF x && movesF x && !x.lock
  else if 2 ≤ x.op ∧ x.op ≤ 6 then bareF x && movesF x && (!x.lock || isMemO x.a)
  else if x.op = 8 then bareF x && swapsF x && !x.lock
  else if x.op = 9 then bareF x && swapsF x && x.lock
  else if x.op = 10 then aloneF x && decide (x.cond = 0)
  else if x.op = 11 then aloneF x && decide (1 ≤ x.cond) && decide (x.cond ≤ 10)
  else if 12 ≤ x.op ∧ x.op ≤ 14 then aloneF x && bareF x
  else false

set_option maxRecDepth 1000000 in
set_option maxHeartbeats 4000000 in
theorem insBare_any (x : Ins) (w : World) :
    Calls Tryd.prog 68 #[x.val] w fun e w' => e = .returned (.bool (bareF x)) ∧ Later w w' := by
  unfold bareF
  obtain ⟨op, lock, cond, ⟨ak, ar, ay, an⟩, ⟨bk, br, bs, bn⟩, dest, lb⟩ := x
  unfold Ins.val Ins.cells at *
  try unfold Opd.val at *
  dsimp only at *
  have he : dest.toList.isEmpty = dest.data.toList.isEmpty := by rw [ByteArray.toList_eq]
  generalize dest.data.toList.isEmpty = em at *
  rcases Decidable.em (cond = 0) with rfl | hc
  all_goals go_enter Tryd.func68, Tryd.ntmps68
  all_goals go_wp2
  all_goals go_ret
  all_goals exact ⟨ret_bool (by simp_all), Later.alloc (Later.refl _) _⟩

set_option maxRecDepth 1000000 in
set_option maxHeartbeats 4000000 in
theorem insAlone_any (x : Ins) (w : World) :
    Calls Tryd.prog 72 #[x.val] w fun e w' => e = .returned (.bool (aloneF x)) ∧ Later w w' := by
  unfold aloneF opdZero
  obtain ⟨op, lock, cond, ⟨ak, ar, ay, an⟩, ⟨bk, br, bs, bn⟩, dest, lb⟩ := x
  unfold Ins.val Ins.cells at *
  try unfold Opd.val at *
  dsimp only at *
  go_enter Tryd.func72, Tryd.ntmps72
  go_wp2
  all_goals go_ret
  all_goals exact ⟨ret_bool (by simp_all), Later.alloc (Later.refl _) _⟩

set_option maxRecDepth 1000000 in
set_option maxHeartbeats 4000000 in
theorem insSwaps_any (x : Ins) (w : World) (hG : Tab w 2 regsT) :
    Calls Tryd.prog 71 #[x.val] w fun e w' => e = .returned (.bool (swapsF x)) ∧ Later w w' := by
  have c1 := fun w' h => insIsMemory_any x.a w' h
  have c2 := fun w' h => insIsReg_any x.b w' h
  unfold swapsF
  generalize isMemO x.a = ma at *
  generalize isRegO x.b = rb at *
  obtain ⟨op, lock, cond, ⟨ak, ar, ay, an⟩, ⟨bk, br, bs, bn⟩, dest, lb⟩ := x
  unfold Ins.val Ins.cells at *
  try unfold Opd.val at *
  dsimp only at *
  have LL := Later.alloc (Later.refl w) (.cells #[.int .i64 op, .bool lock, .int .i64 cond, .int .i64 ak, .int .i64 ar, .int .i64 ay, .int .i64 an, .int .i64 bk, .int .i64 br, .int .i64 bs, .int .i64 bn, .string dest, lb] 39)
  have HB := at_new w (.cells #[.int .i64 op, .bool lock, .int .i64 cond, .int .i64 ak, .int .i64 ar, .int .i64 ay, .int .i64 an, .int .i64 bk, .int .i64 br, .int .i64 bs, .int .i64 bn, .string dest, lb] 39)
  have HG := hG.later LL
  clear hG
  go_enter Tryd.func71, Tryd.ntmps71
  go_upto_region 1 with (fail)
  obtain ⟨b0, b1, b2, b3, b4, b5, b6, b7, b8, b9, b10, b11, b12⟩ := box13_facts HB
  generalize w.alloc (.cells #[.int .i64 op, .bool lock, .int .i64 cond, .int .i64 ak, .int .i64 ar, .int .i64 ay, .int .i64 an, .int .i64 bk, .int .i64 br, .int .i64 bs, .int .i64 bn, .string dest, lb] 39) = W at *
  cases ma
  all_goals go_wp2_with (first | (go_at_call 70; apply Calls.mono; (focus (with_reducible (exact c1 _ HG))); rintro e wn ⟨rfl, hl⟩; replace HB := heap_later hl HB; replace HG := HG.later hl; replace LL := Later.trans LL hl; obtain ⟨b0, b1, b2, b3, b4, b5, b6, b7, b8, b9, b10, b11, b12⟩ := box13_facts HB) | (go_at_call 73; apply Calls.mono; (focus (with_reducible (exact c2 _ HG))); rintro e wn ⟨rfl, hl⟩; replace HB := heap_later hl HB; replace HG := HG.later hl; replace LL := Later.trans LL hl; obtain ⟨b0, b1, b2, b3, b4, b5, b6, b7, b8, b9, b10, b11, b12⟩ := box13_facts HB))
  all_goals go_ret
  all_goals exact ⟨ret_bool (by first | rfl | (simp; done) | (simp_all; done) | (simp; omega)), LL⟩

set_option maxRecDepth 1000000 in
set_option maxHeartbeats 4000000 in
theorem insMoves_any (x : Ins) (w : World) (hG : Tab w 2 regsT) :
    Calls Tryd.prog 69 #[x.val] w fun e w' => e = .returned (.bool (movesF x)) ∧ Later w w' := by
  have c1 := fun w' h => insIsReg_any x.a w' h
  have c2 := fun w' h => insIsPlain_any x.b w' h
  have c3 := fun w' h => insIsMemory_any x.b w' h
  have c4 := fun w' h => insIsMemory_any x.a w' h
  unfold movesF
  generalize isRegO x.a = ra at *
  generalize isPlainO x.b = pb at *
  generalize isMemO x.b = mb at *
  generalize isMemO x.a = ma at *
  obtain ⟨op, lock, cond, ⟨ak, ar, ay, an⟩, ⟨bk, br, bs, bn⟩, dest, lb⟩ := x
  unfold Ins.val Ins.cells at *
  try unfold Opd.val at *
  dsimp only at *
  have LL := Later.alloc (Later.refl w) (.cells #[.int .i64 op, .bool lock, .int .i64 cond, .int .i64 ak, .int .i64 ar, .int .i64 ay, .int .i64 an, .int .i64 bk, .int .i64 br, .int .i64 bs, .int .i64 bn, .string dest, lb] 39)
  have HB := at_new w (.cells #[.int .i64 op, .bool lock, .int .i64 cond, .int .i64 ak, .int .i64 ar, .int .i64 ay, .int .i64 an, .int .i64 bk, .int .i64 br, .int .i64 bs, .int .i64 bn, .string dest, lb] 39)
  have HG := hG.later LL
  clear hG
  go_enter Tryd.func69, Tryd.ntmps69
  go_upto_region 1 with (fail)
  obtain ⟨b0, b1, b2, b3, b4, b5, b6, b7, b8, b9, b10, b11, b12⟩ := box13_facts HB
  generalize w.alloc (.cells #[.int .i64 op, .bool lock, .int .i64 cond, .int .i64 ak, .int .i64 ar, .int .i64 ay, .int .i64 an, .int .i64 bk, .int .i64 br, .int .i64 bs, .int .i64 bn, .string dest, lb] 39) = W at *
  cases ra <;> cases pb <;> cases ma
  all_goals go_wp2_with (first | (go_at_call 73; apply Calls.mono; (focus (with_reducible (exact c1 _ HG))); rintro e wn ⟨rfl, hl⟩; replace HB := heap_later hl HB; replace HG := HG.later hl; replace LL := Later.trans LL hl; obtain ⟨b0, b1, b2, b3, b4, b5, b6, b7, b8, b9, b10, b11, b12⟩ := box13_facts HB) | (go_at_call 74; apply Calls.mono; (focus (with_reducible (exact c2 _ HG))); rintro e wn ⟨rfl, hl⟩; replace HB := heap_later hl HB; replace HG := HG.later hl; replace LL := Later.trans LL hl; obtain ⟨b0, b1, b2, b3, b4, b5, b6, b7, b8, b9, b10, b11, b12⟩ := box13_facts HB) | (go_at_call 70; apply Calls.mono; (focus (with_reducible (exact c3 _ HG))); rintro e wn ⟨rfl, hl⟩; replace HB := heap_later hl HB; replace HG := HG.later hl; replace LL := Later.trans LL hl; obtain ⟨b0, b1, b2, b3, b4, b5, b6, b7, b8, b9, b10, b11, b12⟩ := box13_facts HB) | (go_at_call 70; apply Calls.mono; (focus (with_reducible (exact c4 _ HG))); rintro e wn ⟨rfl, hl⟩; replace HB := heap_later hl HB; replace HG := HG.later hl; replace LL := Later.trans LL hl; obtain ⟨b0, b1, b2, b3, b4, b5, b6, b7, b8, b9, b10, b11, b12⟩ := box13_facts HB))
  all_goals go_ret
  all_goals exact ⟨ret_bool (by first | rfl | (simp; done) | (simp_all; done) | (simp; omega)), LL⟩

end Go.Proofs.YtegogmbcjjjjjaaDoor
