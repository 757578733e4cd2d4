/-
  Threads' states and machines' states in memory: what is read as such data has these cells; in a later world it has them still. Conditions: none.
-/
import Derived.Test.YtpnbpjhoilibcaaDoorEntRow
import Derived.Test.YtpnbpjhoilibcaaDoorListEq
namespace Go.Proofs.YtpnbpjhoilibcaaDoor
open Go.RowKit Go.WideShapes
set_option linter.unusedVariables false
set_option linter.unusedSimpArgs false

/-- A thread's state. -/
structure TS where
  r : Nat → Int
  z : Bool
  s : Bool
  c : Bool
  o : Bool
  pc : Int
  phase : Int
  latch : Int
  status : Int

/-- Its cells, its value. -/
def tsC (x : TS) : List Value := [.int .i64 (x.r 0), .int .i64 (x.r 1), .int .i64 (x.r 2), .int .i64 (x.r 3), .int .i64 (x.r 4), .int .i64 (x.r 5), .int .i64 (x.r 6), .int .i64 (x.r 7), .bool x.z, .bool x.s, .bool x.c, .bool x.o, .int .i64 x.pc, .int .i64 x.phase, .int .i64 x.latch, .int .i64 x.status]
theorem tsC_len (x : TS) : (tsC x).length = 16 := rfl
def tsV (x : TS) : Value := .agg #[.int .i64 (x.r 0), .int .i64 (x.r 1), .int .i64 (x.r 2), .int .i64 (x.r 3), .int .i64 (x.r 4), .int .i64 (x.r 5), .int .i64 (x.r 6), .int .i64 (x.r 7), .bool x.z, .bool x.s, .bool x.c, .bool x.o, .int .i64 x.pc, .int .i64 x.phase, .int .i64 x.latch, .int .i64 x.status]

/-- Numbers of 64 bits. -/
structure TS.Ok (x : TS) : Prop where
  r : ∀ k, I64 (x.r k)
  pc : I64 x.pc
  phase : I64 x.phase
  latch : I64 x.latch
  status : I64 x.status

theorem tsC_one (x : TS) : ∀ u ∈ tsC x, u.oneCell' = true := by
  intro u hu
  simp [tsC] at hu
  rcases hu with rfl | rfl | rfl | rfl | rfl | rfl | rfl | rfl | rfl | rfl | rfl | rfl | rfl | rfl | rfl | rfl <;> rfl

def TsE (_ : World) (x : TS) (cs : List Value) : Prop := cs = tsC x ∧ x.Ok
def TsRow (w : World) (v : Value) (L : List TS) : Prop := RowIn 16 TsE w v L
theorem TsRow.kept {w w' : World} {v : Value} {L : List TS} (h : TsRow w v L) (hl : CellsKept w w') : TsRow w' v L := RowIn.lift h (fun _ _ _ h => h) hl
theorem TsRow.later {w w' : World} {v : Value} {L : List TS} (h : TsRow w v L) (hl : Later w w') : TsRow w' v L := h.kept hl.kept
theorem IntsIn.later {w w' : World} {v : Value} {L : List Int} (h : IntsIn w v L) (hl : Later w w') : IntsIn w' v L := h.kept hl.kept

/-- The sixteen cells at a place. -/
structure At16 (w : World) (g o : Nat) (x : TS) : Prop where
  c0 : w.cell? ⟨g, o, none⟩ = some (.int .i64 (x.r 0))
  c1 : w.cell? ⟨g, o + 1, none⟩ = some (.int .i64 (x.r 1))
  c2 : w.cell? ⟨g, o + 2, none⟩ = some (.int .i64 (x.r 2))
  c3 : w.cell? ⟨g, o + 3, none⟩ = some (.int .i64 (x.r 3))
  c4 : w.cell? ⟨g, o + 4, none⟩ = some (.int .i64 (x.r 4))
  c5 : w.cell? ⟨g, o + 5, none⟩ = some (.int .i64 (x.r 5))
  c6 : w.cell? ⟨g, o + 6, none⟩ = some (.int .i64 (x.r 6))
  c7 : w.cell? ⟨g, o + 7, none⟩ = some (.int .i64 (x.r 7))
  c8 : w.cell? ⟨g, o + 8, none⟩ = some (.bool x.z)
  c9 : w.cell? ⟨g, o + 9, none⟩ = some (.bool x.s)
  c10 : w.cell? ⟨g, o + 10, none⟩ = some (.bool x.c)
  c11 : w.cell? ⟨g, o + 11, none⟩ = some (.bool x.o)
  c12 : w.cell? ⟨g, o + 12, none⟩ = some (.int .i64 x.pc)
  c13 : w.cell? ⟨g, o + 13, none⟩ = some (.int .i64 x.phase)
  c14 : w.cell? ⟨g, o + 14, none⟩ = some (.int .i64 x.latch)
  c15 : w.cell? ⟨g, o + 15, none⟩ = some (.int .i64 x.status)

theorem TsRow.get {w : World} {p : Option Addr} {n cap : Nat} {L : List TS} (h : TsRow w (.slice p n cap) L) {i : Nat} {x : TS} (hi : L[i]? = some x) :
    ∃ g o, p = some ⟨g, o, none⟩ ∧ x.Ok ∧ At16 w g (o + i * 16) x := by
  obtain ⟨g, o, cs, rfl, ⟨rfl, h2⟩, h4⟩ := RowIn.get h hi
  exact ⟨g, o, rfl, h2, h4 0 _ rfl, h4 1 _ rfl, h4 2 _ rfl, h4 3 _ rfl, h4 4 _ rfl, h4 5 _ rfl, h4 6 _ rfl, h4 7 _ rfl, h4 8 _ rfl, h4 9 _ rfl, h4 10 _ rfl, h4 11 _ rfl, h4 12 _ rfl, h4 13 _ rfl, h4 14 _ rfl, h4 15 _ rfl⟩

/-- Buffers: a slice of slices of entries. -/
def BufE (w : World) (L : List (Int × Int)) (cs : List Value) : Prop := ∃ v, cs = [v] ∧ EntRow w v L ∧ ∀ x ∈ L, I64 x.1 ∧ I64 x.2
def BufRow (w : World) (v : Value) (B : List (List (Int × Int))) : Prop := RowIn 1 BufE w v B
theorem BufRow.kept {w w' : World} {v : Value} {B : List (List (Int × Int))} (h : BufRow w v B) (hl : CellsKept w w') : BufRow w' v B := RowIn.lift h (fun _ _ _ ⟨v, h1, h2, h3⟩ => ⟨v, h1, EntRow.kept h2 hl, h3⟩) hl
theorem BufRow.later {w w' : World} {v : Value} {B : List (List (Int × Int))} (h : BufRow w v B) (hl : Later w w') : BufRow w' v B := h.kept hl.kept
theorem BufRow.get {w : World} {p : Option Addr} {n cap : Nat} {B : List (List (Int × Int))} (h : BufRow w (.slice p n cap) B) {i : Nat} {L : List (Int × Int)} (hi : B[i]? = some L) :
    ∃ g o v, p = some ⟨g, o, none⟩ ∧ EntRow w v L ∧ (∀ x ∈ L, I64 x.1 ∧ I64 x.2) ∧ w.cell? ⟨g, o + i, none⟩ = some v := by
  obtain ⟨g, o, cs, rfl, ⟨v, rfl, h2, h3⟩, h4⟩ := RowIn.get h hi
  refine ⟨g, o, v, rfl, h2, h3, ?_⟩
  have := h4 0 v rfl
  rwa [Nat.mul_one] at this

/-- A machine's state, its lists as they lie in memory. -/
structure MSt where
  mem : List Int
  thr : List TS
  bufs : List (List (Int × Int))
  lock : Int

structure MsIn (w : World) (m t b : Value) (s : MSt) : Prop where
  mem : IntsIn w m s.mem
  thr : TsRow w t s.thr
  bufs : BufRow w b s.bufs
  lock : I64 s.lock

theorem MsIn.later {w w' : World} {m t b : Value} {s : MSt} (h : MsIn w m t b s) (hl : Later w w') : MsIn w' m t b s := ⟨h.mem.later hl, h.thr.later hl, h.bufs.later hl, h.lock⟩

/-- Two threads' states are the same; two machines' states. -/
def tsEq (a b : TS) : Bool :=
  (a.r 0 == b.r 0 && a.r 1 == b.r 1 && a.r 2 == b.r 2 && a.r 3 == b.r 3 && a.r 4 == b.r 4 && a.r 5 == b.r 5 && a.r 6 == b.r 6 && a.r 7 == b.r 7) &&
  (a.z == b.z && a.s == b.s && a.c == b.c && a.o == b.o) && a.pc == b.pc && a.phase == b.phase && a.latch == b.latch && a.status == b.status
def intEq (a b : Int) : Bool := a == b
def entEq (a b : Int × Int) : Bool := a.1 == b.1 && a.2 == b.2
def bufEq (a b : List (Int × Int)) : Bool := listEq entEq a b
def msEq (a b : MSt) : Bool := listEq intEq a.mem b.mem && listEq tsEq a.thr b.thr && listEq bufEq a.bufs b.bufs && a.lock == b.lock

theorem tsEq_iff (a b : TS) : tsEq a b = true ↔ (∀ k, k < 8 → a.r k = b.r k) ∧ a.z = b.z ∧ a.s = b.s ∧ a.c = b.c ∧ a.o = b.o ∧ a.pc = b.pc ∧ a.phase = b.phase ∧ a.latch = b.latch ∧ a.status = b.status := by
  unfold tsEq
  simp only [Bool.and_eq_true, beq_iff_eq]
  constructor
  · rintro ⟨⟨⟨⟨⟨⟨⟨⟨⟨⟨⟨⟨h0, h1⟩, h2⟩, h3⟩, h4⟩, h5⟩, h6⟩, h7⟩, ⟨⟨h8, h9⟩, h10⟩, h11⟩, h12⟩, h13⟩, h14⟩, h15⟩
    refine ⟨fun k hk => ?_, h8, h9, h10, h11, h12, h13, h14, h15⟩
    match k, hk with
    | 0, _ => exact h0
    | 1, _ => exact h1
    | 2, _ => exact h2
    | 3, _ => exact h3
    | 4, _ => exact h4
    | 5, _ => exact h5
    | 6, _ => exact h6
    | 7, _ => exact h7
    | k + 8, h => omega
  · rintro ⟨h, h8, h9, h10, h11, h12, h13, h14, h15⟩
    exact ⟨⟨⟨⟨⟨⟨⟨⟨⟨⟨⟨⟨h 0 (by omega), h 1 (by omega)⟩, h 2 (by omega)⟩, h 3 (by omega)⟩, h 4 (by omega)⟩, h 5 (by omega)⟩, h 6 (by omega)⟩, h 7 (by omega)⟩, ⟨⟨h8, h9⟩, h10⟩, h11⟩, h12⟩, h13⟩, h14⟩, h15⟩

theorem tsEq_self (a : TS) : tsEq a a = true := (tsEq_iff a a).2 ⟨fun _ _ => rfl, rfl, rfl, rfl, rfl, rfl, rfl, rfl, rfl⟩
theorem tsEq_symm' {a b : TS} (h : tsEq a b = true) : tsEq b a = true := by
  obtain ⟨h0, h1, h2, h3, h4, h5, h6, h7, h8⟩ := (tsEq_iff a b).1 h
  exact (tsEq_iff b a).2 ⟨fun k hk => (h0 k hk).symm, h1.symm, h2.symm, h3.symm, h4.symm, h5.symm, h6.symm, h7.symm, h8.symm⟩
theorem bool_iff {a b : Bool} (h : a = true ↔ b = true) : a = b := by cases a <;> cases b <;> simp_all
theorem tsEq_symm (a b : TS) : tsEq a b = tsEq b a := bool_iff ⟨tsEq_symm', tsEq_symm'⟩
theorem tsEq_trans (a b c : TS) (h : tsEq a b = true) (k : tsEq b c = true) : tsEq a c = true := by
  obtain ⟨h0, h1, h2, h3, h4, h5, h6, h7, h8⟩ := (tsEq_iff a b).1 h
  obtain ⟨k0, k1, k2, k3, k4, k5, k6, k7, k8⟩ := (tsEq_iff b c).1 k
  exact (tsEq_iff a c).2 ⟨fun k hk => (h0 k hk).trans (k0 k hk), h1.trans k1, h2.trans k2, h3.trans k3, h4.trans k4, h5.trans k5, h6.trans k6, h7.trans k7, h8.trans k8⟩

theorem intEq_iff (a b : Int) : intEq a b = true ↔ a = b := by simp [intEq]
theorem entEq_iff (a b : Int × Int) : entEq a b = true ↔ a = b := by
  obtain ⟨a1, a2⟩ := a
  obtain ⟨b1, b2⟩ := b
  simp [entEq]
theorem bufEq_iff (a b : List (Int × Int)) : bufEq a b = true ↔ a = b := listEq_iff entEq_iff a b

theorem msEq_iff (a b : MSt) : msEq a b = true ↔ a.mem = b.mem ∧ listEq tsEq a.thr b.thr = true ∧ a.bufs = b.bufs ∧ a.lock = b.lock := by
  unfold msEq
  simp only [Bool.and_eq_true, beq_iff_eq, listEq_iff intEq_iff, listEq_iff bufEq_iff, and_assoc]

theorem msEq_self (a : MSt) : msEq a a = true := (msEq_iff a a).2 ⟨rfl, listEq_self tsEq_self _, rfl, rfl⟩
theorem msEq_symm (a b : MSt) : msEq a b = msEq b a := bool_iff (by
  rw [msEq_iff, msEq_iff, listEq_symm tsEq_symm]
  exact ⟨fun ⟨h1, h2, h3, h4⟩ => ⟨h1.symm, h2, h3.symm, h4.symm⟩, fun ⟨h1, h2, h3, h4⟩ => ⟨h1.symm, h2, h3.symm, h4.symm⟩⟩)
theorem msEq_trans {a b c : MSt} (h : msEq a b = true) (k : msEq b c = true) : msEq a c = true := by
  obtain ⟨h1, h2, h3, h4⟩ := (msEq_iff a b).1 h
  obtain ⟨k1, k2, k3, k4⟩ := (msEq_iff b c).1 k
  exact (msEq_iff a c).2 ⟨h1.trans k1, listEq_trans tsEq_trans _ _ _ h2 k2, h3.trans k3, h4.trans k4⟩

end Go.Proofs.YtpnbpjhoilibcaaDoor
