/-
  glyph.End.
-/
import Derived.Test.YtakpgccemfhjbaaDoorBoxes
import Derived.Test.YtakpgccemfhjbaaDoorRow
import Derived.Test.YtakpgccemfhjbaaDoorSmall
import Derived.Deep.LoopGhost
import Derived.Lib.OthersKept
import Derived.Deep.QuietTactic
namespace Go.Proofs.YtakpgccemfhjbaaDoor
open Go.RowKit

theorem Tryd.info83 : (Tryd.prog.info? 83).map (fun i => (i.zero, i.size, i.bytes)) = some (some (.agg #[.int .i64 0, .int .i64 0]), 2, 16) := by kernel_rfl


/-- A box of two numbers. -/
theorem box_facts {w : World} {B : Nat} {a b : Value} (h : w.heap[B]? = some (.cells #[a, b] 83)) :
    w.cell? ⟨B, 0, none⟩ = some a ∧ w.cell? ⟨B, 1, none⟩ = some b ∧ w.frozen? ⟨B, 0, none⟩ = false ∧ w.frozen? ⟨B, 1, none⟩ = false := by
  simp [World.cell?, World.frozen?, h]

theorem two_new (w : World) (o p : Obj) : ((w.alloc o).alloc p).heap[w.heap.size]? = some o ∧ ((w.alloc o).alloc p).heap[w.heap.size + 1]? = some p := by
  constructor
  · rw [Below.heap_alloc _ _ _ (by simp)]; exact at_new w o
  · have : (w.alloc o).heap.size = w.heap.size + 1 := by simp
    rw [← this]; exact at_new _ p

/-- The box behind a store. -/
theorem box_stored {w : World} {B : Nat} {a b : Value} (h : w.heap[B]? = some (.cells #[a, b] 83)) (x y : Value) :
    ((w.setCell ⟨B, 0, none⟩ x).setCell ⟨B, 1, none⟩ y).heap[B]? = some (.cells #[x, y] 83) := by
  rw [setCell_block (setCell_block h 0 x) 1 y]
  rfl

theorem box_others {w : World} {B k : Nat} (hk : k ≠ B) (x y : Value) : ((w.setCell ⟨B, 0, none⟩ x).setCell ⟨B, 1, none⟩ y).heap[k]? = w.heap[k]? := by
  rw [Below.heap_setCell _ _ _ _ (by exact hk), Below.heap_setCell _ _ _ _ (by exact hk)]

set_option maxRecDepth 1000000 in
set_option maxHeartbeats 2000000 in
theorem end_any (s : ByteArray) (hsz : s.size ≤ 1000000) (w : World) :
    Calls Tryd.prog 21 #[.string s] w fun e w' => e = .returned (.tuple #[.int .i64 ((placeOf (spots s)).2.1 : Nat), .int .i64 ((placeOf (spots s)).2.2 : Nat)]) ∧ Later w w' := by
  go_enter Tryd.func21, Tryd.ntmps21
  go_wp2_with (go_at_call 42; refine (start_any _).mono ?_; rintro e w1 ⟨rfl, hl1⟩)
  go_loopw [] (fun wr => ∃ (pos fuel l c : Nat), wr.heap[w1.heap.size]? = some (.cells #[.int .i64 l, .int .i64 c] 83) ∧ wr.heap[w1.heap.size + 1]? = some (.stringIter s pos) ∧ Later w wr ∧ Hid ((spotsFrom s fuel pos l c).foldl step (pos, l, c) = placeOf (spots s)) ∧ s.size ≤ pos + fuel ∧ pos ≤ s.size ∧ l ≤ pos + 1 ∧ c ≤ pos + 1) (fun wr => s.size - wr.iterPos (w1.heap.size + 1))
  case atStart =>
    refine ⟨0, s.size, 1, 1, ?_, ?_, ?_, rfl, by omega, by omega, by omega, by omega⟩
    · exact (two_new w1 _ _).1
    · exact (two_new w1 _ _).2
    · exact Later.alloc (Later.alloc hl1 _) _
  case round =>
    obtain ⟨pos, fuel, l, c, hbx, hit, hlw, HS, hf, hp, hlp, hcp⟩ := hrel
    have hpos0 := iterPos_of hit
    by_cases hp : pos < s.size
    · have hnx : ∀ ty, (Instr.next (.pointer (some ⟨w1.heap.size + 1, 0, none⟩)) true ty).run Tryd.prog wr = _ := fun ty => Lib.run_next_any_at wr (w1.heap.size + 1) s pos ty hit hp
      have hd := decode_pos s pos hp
      have hit2 := Lib.iterAt_heap wr (w1.heap.size + 1) s pos (pos + (Utf8.decode s pos).2) hit
      have hlw2 : Later w _ := Lib.below_iterAt hlw (k := w1.heap.size + 1) (by have := hl1.size; omega) s (pos + (Utf8.decode s pos).2)
      have hbx2 : (wr.iterAt (w1.heap.size + 1) s (pos + (Utf8.decode s pos).2)).heap[w1.heap.size]? = some (.cells #[.int .i64 l, .int .i64 c] 83) := by rw [Lib.iterAt_other _ _ _ _ _ (by omega)]; exact hbx
      obtain ⟨W1, hW1⟩ : ∃ W1, W1 = wr.iterAt (w1.heap.size + 1) s (pos + (Utf8.decode s pos).2) := ⟨_, rfl⟩
      rw [← hW1] at hnx hit2 hlw2 hbx2
      have c0 : W1.cell? ⟨w1.heap.size, 0, none⟩ = some (.int .i64 l) := by simp [World.cell?, hbx2]
      have c1 : W1.cell? ⟨w1.heap.size, 1, none⟩ = some (.int .i64 c) := by simp [World.cell?, hbx2]
      clear hW1 hit hlw hbx
      obtain ⟨r, hr⟩ : ∃ r, r = (Utf8.decode s pos).1 := ⟨_, rfl⟩
      rw [← hr] at hnx
      have HR : Hid (r = (Utf8.decode s pos).1) := hr
      clear hr
      go_wp2_with (go_at_call 43; refine (behind_any l c r (by omega) (by omega) _).mono ?_; rintro e w2 ⟨rfl, hl2⟩; have hbx3 := (hl2.block _ (lt_of_block hbx2)).trans hbx2; obtain ⟨d0, d1, f0, f1⟩ := box_facts hbx3)
      obtain ⟨fuel, rfl⟩ : ∃ f', fuel = f' + 1 := ⟨fuel - 1, by omega⟩
      have hit3 := (box_others (w := w2) (B := w1.heap.size) (k := w1.heap.size + 1) (by omega) (.int .i64 (nl l r)) (.int .i64 (nc c r))).trans ((hl2.block _ (lt_of_block hit2)).trans hit2)
      go_roundw
      case rel =>
        refine ⟨pos + (Utf8.decode s pos).2, fuel, nl l r, nc c r, box_stored hbx3 _ _, hit3, ?_, ?_, by omega, by omega, ?_, ?_⟩
        · exact Below.setCell (Below.setCell (Later.trans hlw2 hl2) hl1.size _) hl1.size _
        · show _ = _
          rw [← HS.out, HR.out, spots_more s fuel pos l c hp]
          rfl
        · simp only [nl]; split <;> omega
        · simp only [nc]; split <;> omega
      case measure => rw [iterPos_of hit3, hpos0]; omega
    · have hnx : ∀ ty, (Instr.next (.pointer (some ⟨w1.heap.size + 1, 0, none⟩)) true ty).run Tryd.prog wr = _ := fun ty => Lib.run_next_end_at wr (w1.heap.size + 1) s pos ty hit hp
      obtain ⟨c0, c1, f0, f1⟩ := box_facts hbx
      have e : Hid ((pos, l, c) = placeOf (spots s)) := by show _ = _; rw [← HS.out, spots_end s fuel pos l c hp]; rfl
      go_wp2
      go_quiet (fail)
      go_wp2
      go_returns
      exact ⟨by rw [← e.out]; rfl, Later.drewN hlw _⟩

end Go.Proofs.YtakpgccemfhjbaaDoor
