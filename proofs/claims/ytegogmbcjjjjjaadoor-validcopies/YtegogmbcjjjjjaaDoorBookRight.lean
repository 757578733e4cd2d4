/-
  What the statements' own maker of instructions makes may be, of every raw act; and what is told of it. Nothing runs here. Conditions: there are 1 to 100 instructions.
-/
import Derived.Test.YtegogmbcjjjjjaaDoorJh
import Derived.Test.YtegogmbcjjjjjaaDoorJe
namespace Go.Proofs.YtegogmbcjjjjjaaDoor
open Go.RowKit
set_option linter.unusedVariables false

theorem pick_bounds (n m : Int) (hm : 0 < m) : 0 ≤ pick n m ∧ pick n m < m := ⟨Int.emod_nonneg _ (by omega), Int.emod_lt_of_pos _ hm⟩

theorem register_right (k : Int) : opdRightF (registerO k) = true ∧ (registerO k).kind = 1 := by
  have := pick_bounds k 4 (by omega)
  unfold registerO
  exact ⟨by simp [opdRightF]; omega, rfl⟩

theorem plain_right (k n : Int) : opdRightF (plainO k n) = true ∧ plainF (plainO k n) = true := by
  unfold plainO
  split
  · exact ⟨(register_right _).1, by simp [plainF, (register_right _).2]⟩
  · simp [opdRightF, plainF]

theorem memory_right (k : Int) : opdRightF (memoryO k) = true ∧ memF (memoryO k) = true := by
  have := pick_bounds k 60 (by omega)
  unfold memoryO
  generalize pick k 60 = m at *
  split
  · exact ⟨by simp [opdRightF]; omega, by simp [memF]⟩
  · refine ⟨?_, by simp [memF]⟩
    simp [opdRightF]
    refine ⟨by omega, ?_⟩
    split <;> omega

theorem label_right : ∀ i : Fin 100, rightF (labelT i.1) = true := by decide +kernel

theorem mem_not_reg {o : Opd} (h : memF o = true) : o.kind ≠ 1 := by simp [memF] at h; omega

/-- A made instruction of two operands: as the table has it. -/
theorem twoI_right {op : Int} {lock : Bool} {a b : Opd} (ha : opdRightF a = true) (hb : opdRightF b = true)
    (h : (a.kind = 1 ∧ (plainF b = true ∨ memF b = true) ∧ lock = false ∧ 1 ≤ op ∧ op ≤ 7) ∨ (memF a = true ∧ plainF b = true ∧ 1 ≤ op ∧ op ≤ 7 ∧ (lock = true → 2 ≤ op ∧ op ≤ 6)) ∨ (memF a = true ∧ b.kind = 1 ∧ ((op = 8 ∧ lock = false) ∨ (op = 9 ∧ lock = true)))) :
    insF (twoI op lock a b) = 0 := by
  have hj : jumpsF op = true ↔ (op = 10 ∨ op = 11) := by simp [jumpsF]
  have hr : reckonsF op = true ↔ (2 ≤ op ∧ op ≤ 6) := by simp [reckonsF]
  have hm := @mem_not_reg a
  unfold insF rowF twoI
  dsimp only
  generalize rightF _ = ri at *
  generalize opdRightF a = ra at *
  generalize opdRightF b = rb at *
  generalize memF a = ma at *
  generalize memF b = mb at *
  generalize plainF b = pb at *
  generalize jumpsF op = ju at *
  generalize reckonsF op = rk at *
  generalize opdZero a = za at *
  generalize opdZero b = zb at *
  generalize a.kind = ak at *
  generalize b.kind = bk at *
  simp only [List.isEmpty_nil]
  grind

theorem zero_right {op : Int} (h : op = 12 ∨ op = 13 ∨ op = 14) : insF (twoI op false zeroO zeroO) = 0 := by
  rcases h with rfl | rfl | rfl <;> simp [insF, rowF, twoI, zeroO, opdZero, jumpsF]

theorem insOf_right (x : Act5) (many : Nat) (hm : 0 < many ∧ many ≤ 100) : insF (insOf x many) = 0 := by
  have r := register_right
  have p := plain_right
  have m := memory_right
  have hc := pick_bounds x.c 5 (by omega)
  have hd := pick_bounds x.c 10 (by omega)
  have hl := pick_bounds x.a many (by omega)
  have hR : rightF (labelT (pick x.a many).toNat) = true := label_right ⟨(pick x.a many).toNat, by omega⟩
  unfold insOf
  split
  case h_18 => simp [insF, rowF, zeroO, opdZero, jumpsF, hR]
  case h_19 =>
    simp [insF, rowF, zeroO, opdZero, jumpsF, hR]
    omega
  all_goals first
    | exact zero_right (by simp)
    | exact twoI_right (r _).1 (p _ _).1 (Or.inl ⟨(r _).2, Or.inl (p _ _).2, rfl, by omega, by omega⟩)
    | exact twoI_right (r _).1 (m _).1 (Or.inl ⟨(r _).2, Or.inr (m _).2, rfl, by omega, by omega⟩)
    | exact twoI_right (m _).1 (p _ _).1 (Or.inr (Or.inl ⟨(m _).2, (p _ _).2, by omega, by omega, by first | (intro h; cases h; done) | (intro; omega)⟩))
    | exact twoI_right (m _).1 (r _).1 (Or.inr (Or.inr ⟨(m _).2, (r _).2, by simp⟩))

theorem insOf_dest (x : Act5) (many : Nat) (hm : 0 < many ∧ many ≤ 100) : (insOf x many).dest.size ≤ 1000 := by
  unfold insOf
  split <;> simp [twoI, labelT, ByteArray.size]

theorem insOf_labels (x : Act5) (many : Nat) : (insOf x many).labels = .slice none 0 0 := by
  unfold insOf
  split <;> rfl

/-- What is told of an instruction that may be hangs together. -/
theorem reckons_true (x : Ins) (h : insF x = 0) :
    (decide (partsF x = 2) == ((readsF x).2 && (writesF x).2 && !lockedF x)) = true ∧ (fenceF x == (lockedF x || decide (x.op = 12))) = true ∧
    (!((leadsF x).2 && ((readsF x).2 || (writesF x).2))) = true ∧ ((leadsF x).1 || decide (x.op = 10) || decide (x.op = 14)) = true ∧ (!lockedF x || (readsF x).2) = true := by
  have hl : lockedF x = true → (readsF x).2 = true := by
    intro hl
    have hj : jumpsF x.op = true ↔ (x.op = 10 ∨ x.op = 11) := by simp [jumpsF]
    have hr : reckonsF x.op = true ↔ (2 ≤ x.op ∧ x.op ≤ 6) := by simp [reckonsF]
    have hm := @mem_not_reg x.a
    simp [lockedF, h] at hl
    have key : memF x.a = true ∧ x.op ≠ 1 ∧ x.op ≤ 9 := by
      unfold insF rowF at h
      generalize rightF _ = ri at *
      generalize opdRightF x.a = ra at *
      generalize opdRightF x.b = rb at *
      generalize memF x.a = ma at *
      generalize memF x.b = mb at *
      generalize plainF x.b = pb at *
      generalize jumpsF x.op = ju at *
      generalize reckonsF x.op = rk at *
      generalize opdZero x.a = za at *
      generalize opdZero x.b = zb at *
      generalize x.a.kind = ak at *
      generalize x.b.kind = bk at *
      generalize x.dest.data.toList.isEmpty = em at *
      generalize x.lock = lk at *
      grind
    have h9 : ¬ 9 < x.op := by omega
    by_cases hb : memF x.b = true <;> simp [readsF, h, h9, key, hb]
  refine ⟨?_, ?_, ?_, ?_, ?_⟩
  · simp only [partsF, h]
    by_cases hc : ((readsF x).2 && (writesF x).2 && !lockedF x) = true <;> simp [hc]
  · simp [fenceF, h, Bool.or_comm]
  · have hj : jumpsF x.op = true → 9 < x.op := by simp [jumpsF]; omega
    cases hq : jumpsF x.op with
    | false => simp [leadsF, h, hq]
    | true => simp [leadsF, readsF, writesF, h, hj hq]
  · by_cases h10 : x.op = 10 <;> by_cases h14 : x.op = 14 <;> simp [leadsF, h, h10, h14]
  · cases hq : lockedF x with
    | false => simp
    | true => simp [hl hq]

end Go.Proofs.YtegogmbcjjjjjaaDoor
