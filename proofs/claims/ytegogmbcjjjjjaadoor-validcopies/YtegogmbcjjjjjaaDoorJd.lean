/-
  What the document's own functions over an operand return: whether it may be, whether it is memory, or plain. Nothing that was in memory turns. Conditions: none.
  What the document's own functions over an operand and over what an instruction does return: whether it is plain; whether it jumps, or reckons. Nothing that was in memory turns. Conditions: none.
  What the document's own functions over an instruction return: whether its operands are those of a row, and what is wrong with it. Nothing that was in memory turns. Conditions: as each theorem names them.
  What the statements' own word for 'too great an instruction' returns: whether it has more than 6 labels, or a text of more than 60 bytes. Nothing that was in memory turns. Conditions: its labels are a slice of texts in memory; no text is greater than a machine can hold.
-/
import Derived.Test.YtegogmbcjjjjjaaDoorJa
import Derived.RegionTactic
import Derived.Deep.CutRange
import Derived.Deep.RegionWith
namespace Go.Proofs.YtegogmbcjjjjjaaDoor
open Go.RowKit
set_option linter.unusedVariables false
set_option linter.unusedSimpArgs false

/-- An operand's four numbers. -/
structure Opd where
  kind : Int
  reg : Int
  sym : Int
  n : Int

/-- An operand, as a call takes it. -/
def Opd.val (o : Opd) : Value := .agg #[.int .i64 o.kind, .int .i64 o.reg, .int .i64 o.sym, .int .i64 o.n]

/-- Whether it may be. -/
def opdRightF (o : Opd) : Bool := decide ((o.kind = 1 ∧ 0 ≤ o.reg ∧ o.reg ≤ 7 ∧ o.sym = 0 ∧ o.n = 0) ∨ (o.kind = 2 ∧ o.reg = 0 ∧ o.sym = 0) ∨ (o.kind = 3 ∧ 0 ≤ o.sym ∧ 0 ≤ o.n ∧ o.reg = 0) ∨ (o.kind = 4 ∧ 0 ≤ o.sym ∧ 0 ≤ o.reg ∧ o.reg ≤ 7 ∧ o.n = 0))
def memF (o : Opd) : Bool := decide (o.kind = 3 ∨ o.kind = 4)
def plainF (o : Opd) : Bool := decide (o.kind = 1 ∨ o.kind = 2)
def jumpsF (op : Int) : Bool := decide (op = 10 ∨ op = 11)
def reckonsF (op : Int) : Bool := decide (2 ≤ op ∧ op ≤ 6)

end Go.Proofs.YtegogmbcjjjjjaaDoor

namespace Go.Proofs.YtegogmbcjjjjjaaDoor
open Go.RowKit
set_option linter.unusedVariables false
set_option linter.unusedSimpArgs false

end Go.Proofs.YtegogmbcjjjjjaaDoor

namespace Go.Proofs.YtegogmbcjjjjjaaDoor
open Go.RowKit
set_option linter.unusedVariables false
set_option linter.unusedSimpArgs false

/-- An instruction; its labels as they lie in memory. -/
structure Ins where
  op : Int
  lock : Bool
  cond : Int
  a : Opd
  b : Opd
  dest : ByteArray
  labels : Value

/-- Its thirteen cells. -/
def Ins.cells (x : Ins) : Array Value := #[.int .i64 x.op, .bool x.lock, .int .i64 x.cond, .int .i64 x.a.kind, .int .i64 x.a.reg, .int .i64 x.a.sym, .int .i64 x.a.n, .int .i64 x.b.kind, .int .i64 x.b.reg, .int .i64 x.b.sym, .int .i64 x.b.n, .string x.dest, x.labels]
def Ins.val (x : Ins) : Value := .agg x.cells

def opdZero (o : Opd) : Bool := decide (o.kind = 0 ∧ o.reg = 0 ∧ o.sym = 0 ∧ o.n = 0)

/-- Whether the operands are those of a row. -/
def rowF (x : Ins) : Bool :=
  if x.op < 1 ∨ 9 < x.op then opdZero x.a && opdZero x.b && !x.lock
  else if opdRightF x.a = false ∨ opdRightF x.b = false then false
  else if x.op = 8 then memF x.a && decide (x.b.kind = 1) && !x.lock
  else if x.op = 9 then memF x.a && decide (x.b.kind = 1) && x.lock
  else if x.a.kind = 1 then (plainF x.b || memF x.b) && !x.lock
  else memF x.a && plainF x.b && (!x.lock || reckonsF x.op)

theorem box13_facts {w : World} {B : Nat} {a0 a1 a2 a3 a4 a5 a6 a7 a8 a9 a10 a11 a12 : Value} {t : TypeId} (h : w.heap[B]? = some (.cells #[a0, a1, a2, a3, a4, a5, a6, a7, a8, a9, a10, a11, a12] t)) :
    w.cell? ⟨B, 0, none⟩ = some a0 ∧ w.cell? ⟨B, 1, none⟩ = some a1 ∧ w.cell? ⟨B, 2, none⟩ = some a2 ∧ w.cell? ⟨B, 3, none⟩ = some a3 ∧ w.cell? ⟨B, 4, none⟩ = some a4 ∧ w.cell? ⟨B, 5, none⟩ = some a5 ∧ w.cell? ⟨B, 6, none⟩ = some a6 ∧ w.cell? ⟨B, 7, none⟩ = some a7 ∧ w.cell? ⟨B, 8, none⟩ = some a8 ∧ w.cell? ⟨B, 9, none⟩ = some a9 ∧ w.cell? ⟨B, 10, none⟩ = some a10 ∧ w.cell? ⟨B, 11, none⟩ = some a11 ∧ w.cell? ⟨B, 12, none⟩ = some a12 := by
  simp [World.cell?, h]

theorem three_new (w : World) (o p q : Obj) : (((w.alloc o).alloc p).alloc q).drew.heap[w.heap.size]? = some o ∧ (((w.alloc o).alloc p).alloc q).drew.heap[w.heap.size + 1]? = some p ∧ (((w.alloc o).alloc p).alloc q).drew.heap[w.heap.size + 1 + 1]? = some q := by
  have e1 : (w.alloc o).heap.size = w.heap.size + 1 := by simp
  have e2 : ((w.alloc o).alloc p).heap.size = w.heap.size + 1 + 1 := by simp
  refine ⟨?_, ?_, ?_⟩
  · exact heap_later (Later.drew (Later.alloc (Later.alloc (Later.refl _) p) q)) (at_new w o)
  · have h := heap_later (Later.drew (Later.alloc (Later.refl _) q)) (at_new (w.alloc o) p)
    rw [e1] at h
    exact h
  · have h := at_new ((w.alloc o).alloc p) q
    rw [e2] at h
    exact heap_later (Later.drew (Later.refl _)) h

theorem three_later (w : World) (o p q : Obj) : Later w (((w.alloc o).alloc p).alloc q).drew := Later.drew (Later.alloc (Later.alloc (Later.alloc (Later.refl _) o) p) q)

end Go.Proofs.YtegogmbcjjjjjaaDoor

namespace Go.Proofs.YtegogmbcjjjjjaaDoor
open Go.RowKit
set_option linter.unusedVariables false
set_option linter.unusedSimpArgs false

/-- A slice of texts in memory. -/
def TextsIn (w : World) (v : Value) (L : List ByteArray) : Prop :=
  ∃ (p : Option Addr) (cap : Nat), v = .slice p L.length cap ∧ L.length ≤ cap ∧ cap ≤ maxLen ∧ (∀ t ∈ L, t.size ≤ maxLen) ∧
    (L ≠ [] → ∃ g o, p = some ⟨g, o, none⟩ ∧ ∀ i t, L[i]? = some t → w.cell? ⟨g, o + i, none⟩ = some (.string t))

theorem TextsIn.later {w w' : World} {v : Value} {L : List ByteArray} (h : TextsIn w v L) (hl : Later w w') : TextsIn w' v L := by
  obtain ⟨p, cap, rfl, h1, h2, h3, h4⟩ := h
  refine ⟨p, cap, rfl, h1, h2, h3, fun hn => ?_⟩
  obtain ⟨g, o, rfl, h5⟩ := h4 hn
  exact ⟨g, o, rfl, fun i t ht => cell_later (h5 i t ht) hl⟩

def greatF (x : Ins) (L : List ByteArray) : Bool := decide (6 < L.length) || decide (60 < x.dest.size) || L.any (fun t => decide (60 < t.size))

set_option maxRecDepth 1000000 in
set_option maxHeartbeats 4000000 in
theorem great_any (x : Ins) (L : List ByteArray) (w : World) (hd : x.dest.size ≤ maxLen) (hL : TextsIn w x.labels L) :
    Calls Tryd.prog 28 #[x.val] w fun e w' => e = .returned (.bool (greatF x L)) ∧ Later w w' := by
  obtain ⟨op, lock, cond, ⟨ak, ar, ay, an⟩, ⟨bk, br, bs, bn⟩, dest, lb⟩ := x
  unfold Ins.val Ins.cells greatF
  dsimp only at *
  have LL := Later.alloc (Later.refl w) (.cells #[.int .i64 op, .bool lock, .int .i64 cond, .int .i64 ak, .int .i64 ar, .int .i64 ay, .int .i64 an, .int .i64 bk, .int .i64 br, .int .i64 bs, .int .i64 bn, .string dest, lb] 39)
  have HB := at_new w (.cells #[.int .i64 op, .bool lock, .int .i64 cond, .int .i64 ak, .int .i64 ar, .int .i64 ay, .int .i64 an, .int .i64 bk, .int .i64 br, .int .i64 bs, .int .i64 bn, .string dest, lb] 39)
  obtain ⟨p, cap, rfl, h1, h2, h3, h4⟩ := hL.later LL
  clear hL
  unfold maxLen at hd h2 h3
  go_enter Tryd.func28, Tryd.ntmps28
  go_upto_region 1 with (fail)
  obtain ⟨b0, b1, b2, b3, b4, b5, b6, b7, b8, b9, b10, b11, b12⟩ := box13_facts HB
  generalize w.alloc (.cells #[.int .i64 op, .bool lock, .int .i64 cond, .int .i64 ak, .int .i64 ar, .int .i64 ay, .int .i64 an, .int .i64 bk, .int .i64 br, .int .i64 bs, .int .i64 bn, .string dest, .slice p L.length cap] 39) = W at *
  by_cases h6 : 6 < L.length
  · go_wp2
    all_goals go_ret
    all_goals first | exact ⟨ret_bool (by simp [h6]), LL⟩ | (exfalso; omega)
  by_cases h60 : 60 < dest.size
  · go_wp2
    all_goals go_ret
    all_goals first | exact ⟨ret_bool (by simp [h60]), LL⟩ | (exfalso; omega)
  go_wp2
  go_loop [3] (fun i => ∃ k : Nat, k ≤ L.length ∧ i = .int .i64 k ∧ ∀ j t, j < k → L[j]? = some t → t.size ≤ 60) (fun i => L.length - (intOf i).toNat)
  case atStart => exact ⟨0, Nat.zero_le _, rfl, fun j t hj => by omega⟩
  case round =>
    obtain ⟨k, hk, rfl, hp⟩ := hrel
    by_cases hlt : k < L.length
    · obtain ⟨g, o, rfl, h5⟩ := h4 (by rintro rfl; simp at hlt)
      obtain ⟨t, hkt⟩ : ∃ t, L[k]? = some t := ⟨_, List.getElem?_eq_getElem hlt⟩
      have hc := h5 k t hkt
      have HE : Hid (L[k]? = some t) := hkt
      have HM : Hid (t ∈ L) := List.mem_of_getElem? hkt
      have ht := h3 t HM.out
      have HP : Hid (∀ j t, j < k → L[j]? = some t → t.size ≤ 60) := hp
      clear hkt h5 h4 h3 hp
      by_cases h61 : 60 < t.size
      · go_wp2
        all_goals go_ret
        all_goals first | exact ⟨ret_bool (by simp [h6, h60]; exact ⟨t, HM.out, h61⟩), LL⟩ | (exfalso; omega)
      · go_wp2
        go_round
        case rel => exact ⟨k + 1, by omega, by go_num, fun j u hj hu => by
          rcases Nat.lt_succ_iff_lt_or_eq.1 hj with h | rfl
          · exact HP.out j u h hu
          · rw [HE.out] at hu; cases hu; omega⟩
        case measure => simp [intOf]; omega
    · have hall : ∀ t ∈ L, t.size ≤ 60 := fun t ht => by
        obtain ⟨j, hj, rfl⟩ := List.getElem_of_mem ht
        exact hp j _ (by omega) (List.getElem?_eq_getElem hj)
      go_wp2
      all_goals go_ret
      all_goals exact ⟨ret_bool (by simp [h6, h60]; exact hall), LL⟩

end Go.Proofs.YtegogmbcjjjjjaaDoor
