/-
  The statements' own first call (chapter 11): it returns true. Nothing that was in memory turns. Conditions: the listed variables stand as the text lays them.
-/
import Derived.Test.YtgkdejldpldkiaaDoorCellsTells
namespace Go.Proofs.YtgkdejldpldkiaaDoor
open Go.RowKit
set_option linter.unusedVariables false
set_option linter.unusedSimpArgs false

/-- The symbols of the first call. -/
def aliveS (v : Value) : Syms := [(⟨⟨#[97]⟩, 3, v⟩, [7]), (⟨⟨#[98]⟩, 1, .slice none 0 0⟩, [])]
theorem aliveS_check (v : Value) : checkC (aliveS v) [] = 0 := by kernel_rfl
theorem aliveS_fine (v : Value) : FineP (aliveS v) [] := ⟨fun s hs => by
  simp only [aliveS, List.mem_cons, List.not_mem_nil, or_false] at hs
  rcases hs with rfl | rfl
  · show (1 : Nat) ≤ 1000; omega
  · show (1 : Nat) ≤ 1000; omega, fun _ h => by simp at h⟩
theorem aliveS_laid (v : Value) : laidF (aliveS v) [] = aliveS v := by unfold laidF; rw [if_pos (aliveS_check v)]
theorem aliveS_sum (v : Value) : sumF (aliveS v) = 4 := by kernel_rfl
theorem aliveS_base (v : Value) : baseF (aliveS v) 1 = 3 := by kernel_rfl
theorem aliveS_sym (v : Value) : symAt (aliveS v) 2 = 0 := by kernel_rfl
theorem aliveS_start (v : Value) : startF (aliveS v) = [7, 0, 0, 0] := by kernel_rfl
theorem aliveS_at (v : Value) : addrF (aliveS v) ⟨3, 0, 1, 0⟩ (fun _ => 0) = some 3 := by kernel_rfl
def lessOne (k : Nat) : Int := if k = 0 then -1 else 0
theorem aliveS_by (v : Value) : addrF (aliveS v) ⟨4, 0, 1, 0⟩ lessOne = none := by kernel_rfl

theorem aliveS_row {w : World} {B C : Nat} (hB : w.heap[B]? = some (.cells #[.int .i64 7] 2)) (hC : w.heap[C]? = some (.cells #[.string ⟨#[97]⟩, .int .i64 3, .slice (some ⟨B, 0, none⟩) 1 1, .string ⟨#[98]⟩, .int .i64 1, .slice none 0 0] 47)) :
    SymRow w (.slice (some ⟨C, 0, none⟩) 2 2) (aliveS (.slice (some ⟨B, 0, none⟩) 1 1)) := by
  refine ⟨some ⟨C, 0, none⟩, 2, rfl, Nat.le_refl _, by unfold maxLen; omega, fun _ => ⟨C, 0, rfl, fun i a hi => ?_⟩⟩
  have hint : IntsIn w (.slice (some ⟨B, 0, none⟩) 1 1) [7] := RowIn.one hB ⟨rfl, by unfold I64; omega⟩
  match i, hi with
  | 0, hi =>
    simp [aliveS] at hi
    subst hi
    refine ⟨_, ⟨rfl, by show (1 : Nat) ≤ maxLen; unfold maxLen; omega, by unfold I64; dsimp only; omega, hint⟩, fun j c hj => ?_⟩
    match j, hj with
    | 0, hj => simp [Sym.cells] at hj; subst hj; simp [World.cell?, hC]
    | 1, hj => simp [Sym.cells] at hj; subst hj; simp [World.cell?, hC]
    | 2, hj => simp [Sym.cells] at hj; subst hj; simp [World.cell?, hC]
    | j + 3, hj => simp [Sym.cells] at hj
  | 1, hi =>
    simp [aliveS] at hi
    subst hi
    refine ⟨_, ⟨rfl, by show (1 : Nat) ≤ maxLen; unfold maxLen; omega, by unfold I64; dsimp only; omega, RowIn.nil _ _ _⟩, fun j c hj => ?_⟩
    match j, hj with
    | 0, hj => simp [Sym.cells] at hj; subst hj; simp [World.cell?, hC]
    | 1, hj => simp [Sym.cells] at hj; subst hj; simp [World.cell?, hC]
    | 2, hj => simp [Sym.cells] at hj; subst hj; simp [World.cell?, hC]
    | j + 3, hj => simp [Sym.cells] at hj
  | i + 2, hi => simp [aliveS] at hi

theorem row7 (w : World) : IntsIn (w.alloc (.cells #[.int .i64 7, .int .i64 0, .int .i64 0, .int .i64 0] 2)) (.slice (some ⟨w.heap.size, 0, none⟩) 4 4) [7, 0, 0, 0] :=
  ints_of_block rfl (at_new w (.cells #[.int .i64 7, .int .i64 0, .int .i64 0, .int .i64 0] 2)) (fun a ha => by simp at ha; unfold I64; omega) (by unfold maxLen; omega)

set_option maxRecDepth 1000000 in
set_option maxHeartbeats 8000000 in
theorem cellsAlive_any (w : World) (hG : NamesGood w) :
    Calls Tryd.prog 20 #[] w fun e w' => e = .returned (.bool true) ∧ Later w w' := by
  obtain ⟨h0, h1, h2⟩ := three_new3 w (.cells #[.int .i64 7] 2) (.cells #[.string ⟨#[97]⟩, .int .i64 3, .slice (some ⟨w.heap.size, 0, none⟩) 1 1, .string ⟨#[98]⟩, .int .i64 1, .slice none 0 0] 47) (.cells #[.slice (some ⟨w.heap.size + 1, 0, none⟩) 2 2, .slice none 0 0] 27)
  have LL := Later.alloc (Later.alloc (Later.alloc (Later.refl w) (.cells #[.int .i64 7] 2)) (.cells #[.string ⟨#[97]⟩, .int .i64 3, .slice (some ⟨w.heap.size, 0, none⟩) 1 1, .string ⟨#[98]⟩, .int .i64 1, .slice none 0 0] 47)) (.cells #[.slice (some ⟨w.heap.size + 1, 0, none⟩) 2 2, .slice none 0 0] 27)
  have hSy := aliveS_row h0 h1
  have hTh : ThrRow (((w.alloc (.cells #[.int .i64 7] 2)).alloc (.cells #[.string ⟨#[97]⟩, .int .i64 3, .slice (some ⟨w.heap.size, 0, none⟩) 1 1, .string ⟨#[98]⟩, .int .i64 1, .slice none 0 0] 47)).alloc (.cells #[.slice (some ⟨w.heap.size + 1, 0, none⟩) 2 2, .slice none 0 0] 27)) (.slice none 0 0) [] := RowIn.nil _ _ _
  have gG := fun w' hl => NamesGood.later (NamesGood.later hG LL) (w' := w') hl
  obtain ⟨a0, a1, -⟩ := box2_facts h2
  clear h0 h1 h2 hG
  go_enter Tryd.func20, Tryd.ntmps20
  go_upto_region 2 with (fail)
  generalize ((w.alloc (.cells #[.int .i64 7] 2)).alloc (.cells #[.string ⟨#[97]⟩, .int .i64 3, .slice (some ⟨w.heap.size, 0, none⟩) 1 1, .string ⟨#[98]⟩, .int .i64 1, .slice none 0 0] 47)).alloc (.cells #[.slice (some ⟨w.heap.size + 1, 0, none⟩) 2 2, .slice none 0 0] 27) = W at *
  have cA1 : ∀ w', Later W w' → Calls Tryd.prog 25 #[.agg #[.slice (some ⟨w.heap.size + 1, 0, none⟩) 2 2, .slice none 0 0], .agg #[.int .i64 3, .int .i64 0, .int .i64 1, .int .i64 0], .agg #[.int .i64 0, .int .i64 0, .int .i64 0, .int .i64 0, .int .i64 0, .int .i64 0, .int .i64 0, .int .i64 0]] w' fun e w'' => e = .returned (.tuple #[.int .i64 3, .bool true]) ∧ Later w' w'' := fun w' hl => by
    have h := addr_any (.slice (some ⟨w.heap.size + 1, 0, none⟩) 2 2) (.slice none 0 0) (aliveS (.slice (some ⟨w.heap.size, 0, none⟩) 1 1)) [] ⟨3, 0, 1, 0⟩ (fun _ => 0) (by unfold I64; dsimp only; omega) (by unfold I64; dsimp only; omega) (fun _ => by unfold I64; omega) w' (gG w' hl) (hSy.kept (Later.kept hl)) (ThrRow.kept hTh (Later.kept hl)) (aliveS_fine _)
    rw [aliveS_laid] at h
    rw [aliveS_at] at h
    exact h
  have cA2 : ∀ w', Later W w' → Calls Tryd.prog 25 #[.agg #[.slice (some ⟨w.heap.size + 1, 0, none⟩) 2 2, .slice none 0 0], .agg #[.int .i64 4, .int .i64 0, .int .i64 1, .int .i64 0], .agg #[.int .i64 (-1), .int .i64 0, .int .i64 0, .int .i64 0, .int .i64 0, .int .i64 0, .int .i64 0, .int .i64 0]] w' fun e w'' => e = .returned (.tuple #[.int .i64 0, .bool false]) ∧ Later w' w'' := fun w' hl => by
    have h := addr_any (.slice (some ⟨w.heap.size + 1, 0, none⟩) 2 2) (.slice none 0 0) (aliveS (.slice (some ⟨w.heap.size, 0, none⟩) 1 1)) [] ⟨4, 0, 1, 0⟩ lessOne (by unfold I64; dsimp only; omega) (by unfold I64; dsimp only; omega) (fun j => by unfold I64 lessOne; split <;> omega) w' (gG w' hl) (hSy.kept (Later.kept hl)) (ThrRow.kept hTh (Later.kept hl)) (aliveS_fine _)
    rw [aliveS_laid] at h
    rw [aliveS_by] at h
    exact h
  have cS : ∀ w', Later W w' → Calls Tryd.prog 27 #[.agg #[.slice (some ⟨w.heap.size + 1, 0, none⟩) 2 2, .slice none 0 0]] w' fun e w'' => e = .returned (.int .i64 4) ∧ Later w' w'' := fun w' hl => by
    have h := size_any (.slice (some ⟨w.heap.size + 1, 0, none⟩) 2 2) (.slice none 0 0) (aliveS (.slice (some ⟨w.heap.size, 0, none⟩) 1 1)) [] w' (gG w' hl) (hSy.kept (Later.kept hl)) (ThrRow.kept hTh (Later.kept hl)) (aliveS_fine _)
    rw [aliveS_laid] at h
    rw [aliveS_sum] at h
    exact h
  have cB : ∀ w', Later W w' → Calls Tryd.prog 24 #[.agg #[.slice (some ⟨w.heap.size + 1, 0, none⟩) 2 2, .slice none 0 0], .int .i64 1] w' fun e w'' => e = .returned (.int .i64 3) ∧ Later w' w'' := fun w' hl => by
    have h := base_any (.slice (some ⟨w.heap.size + 1, 0, none⟩) 2 2) (.slice none 0 0) (aliveS (.slice (some ⟨w.heap.size, 0, none⟩) 1 1)) [] 1 (by unfold I64; omega) w' (gG w' hl) (hSy.kept (Later.kept hl)) (ThrRow.kept hTh (Later.kept hl)) (aliveS_fine _)
    rw [aliveS_laid] at h
    rw [aliveS_base] at h
    exact h
  have cY : ∀ w', Later W w' → Calls Tryd.prog 26 #[.agg #[.slice (some ⟨w.heap.size + 1, 0, none⟩) 2 2, .slice none 0 0], .int .i64 2] w' fun e w'' => e = .returned (.int .i64 0) ∧ Later w' w'' := fun w' hl => by
    have h := sym_any (.slice (some ⟨w.heap.size + 1, 0, none⟩) 2 2) (.slice none 0 0) (aliveS (.slice (some ⟨w.heap.size, 0, none⟩) 1 1)) [] 2 (by unfold I64; omega) w' (gG w' hl) (hSy.kept (Later.kept hl)) (ThrRow.kept hTh (Later.kept hl)) (aliveS_fine _)
    rw [aliveS_laid] at h
    rw [aliveS_sym] at h
    exact h
  have cT : ∀ w', Later W w' → Calls Tryd.prog 28 #[.agg #[.slice (some ⟨w.heap.size + 1, 0, none⟩) 2 2, .slice none 0 0]] w' fun e w'' => ∃ x, e = .returned x ∧ Later w' w'' ∧ IntsIn w'' x [7, 0, 0, 0] := fun w' hl => by
    have h := start_any (.slice (some ⟨w.heap.size + 1, 0, none⟩) 2 2) (.slice none 0 0) (aliveS (.slice (some ⟨w.heap.size, 0, none⟩) 1 1)) [] w' (gG w' hl) (hSy.kept (Later.kept hl)) (ThrRow.kept hTh (Later.kept hl)) (aliveS_fine _)
    rw [aliveS_laid, aliveS_start] at h
    exact h
  clear gG hSy hTh
  go_upto_region 3 with (go_at_call 25; apply Calls.mono; (focus (with_reducible (exact cA1 _ (Later.refl _)))); rintro e w1 ⟨rfl, hl1⟩)
  have b0 := cell_later a0 hl1
  have b1 := cell_later a1 hl1
  go_upto_region 4 with (go_at_call 25; apply Calls.mono; (focus (with_reducible (exact cA2 _ hl1))); rintro e w2 ⟨rfl, hl2⟩)
  replace hl2 := Later.trans hl1 hl2
  have c0 := cell_later a0 hl2
  have c1 := cell_later a1 hl2
  clear cA1 cA2 hl1 b0 b1
  go_wp2_with (first
    | (go_at_call 27; refine (cS _ hl2).mono ?_; rintro e w3 ⟨rfl, hl⟩; replace hl2 := Later.trans hl2 hl; have d0 := cell_later a0 hl2; have d1 := cell_later a1 hl2; clear hl)
    | (go_at_call 24; refine (cB _ hl2).mono ?_; rintro e w4 ⟨rfl, hl⟩; replace hl2 := Later.trans hl2 hl; have e0 := cell_later a0 hl2; have e1 := cell_later a1 hl2; clear hl)
    | (go_at_call 26; refine (cY _ hl2).mono ?_; rintro e w5 ⟨rfl, hl⟩; replace hl2 := Later.trans hl2 hl; have f0 := cell_later a0 hl2; have f1 := cell_later a1 hl2; clear hl)
    | (go_at_call 28; refine (cT _ hl2).mono ?_; rintro e w6 ⟨x, rfl, hl, hi⟩; obtain ⟨q, dd, rfl, -, -⟩ := hi.slice; replace hl2 := Later.trans hl2 hl; clear hl; have hii : IntsIn _ (.slice q 4 dd) [7, 0, 0, 0] := IntsIn.kept hi (Later.kept (Later.alloc (Later.refl w6) (.cells #[.int .i64 7, .int .i64 0, .int .i64 0, .int .i64 0] 2))))
    | (go_at_call 49; apply Calls.mono; (focus (with_reducible (exact sameCells_yes _ _ [7, 0, 0, 0] _ hii (row7 w6)))); rintro e w7 ⟨rfl, hl⟩))
  go_ret
  exact ⟨rfl, LL.trans (Later.trans hl2 (Later.trans (Later.alloc (Later.refl _) _) hl))⟩

end Go.Proofs.YtgkdejldpldkiaaDoor
