/-
  Copies and lists of a ring that was made since some world; what is left of a slice of entries; an own row that is written over. Conditions: as each theorem names them.
-/
import Derived.Test.YtmfifaonbbeebaaRingOne
import Derived.Test.YtmfifaonbbeebaaRingRef
namespace Go.Proofs.Ytmfifaonbbeebaa
open Go.RowKit Go.WideShapes
set_option linter.unusedVariables false
set_option linter.unusedSimpArgs false

theorem one_copy (w0 w : World) (p : Nat) (L : List (Int × Int)) (N : Nat) (h : One w0 w p L N) (hN : N ≤ 1000000) :
    Calls Try.prog 15 #[.pointer (some ⟨p, 0, none⟩)] w fun e w' => ∃ p', e = .returned (.pointer (some ⟨p', 0, none⟩)) ∧ One w w' p' L N := by
  obtain ⟨b, h1, h2⟩ := h
  exact (copy_any _ w p b L N h1 hN).mono fun e w' ⟨p', b', k1, k2, k3⟩ => ⟨p', k1, b', k2, k3⟩

theorem one_list (w0 w : World) (p : Nat) (L : List (Int × Int)) (N : Nat) (h : One w0 w p L N) (hN : N ≤ 1000000) :
    Calls Try.prog 17 #[.pointer (some ⟨p, 0, none⟩)] w fun e w' => ∃ v', e = .returned v' ∧ w'.ownsRow w.heap.size 31 2 v' L.length (flatC entC L) ∧ Later w w' := by
  obtain ⟨b, h1, h2⟩ := h
  exact list_any _ w p b L N h1 hN

theorem slice_low {w : World} {a : Option Addr} {n cap l : Nat} {pre L : List (Int × Int)} (hl : pre.length = l) (h : EntRow w (.slice a n cap) (pre ++ L)) :
    ∃ q, EntRow w (.slice q (n - l) (cap - l)) L ∧ (∀ w', (Instr.slice 26 (.slice a n cap) (some (.int .i64 (l : Nat))) none none).run Try.prog w' = .ok (.slice q (n - l) (cap - l)) w') ∧ q.isSome = a.isSome := by
  refine ⟨_, h.drop hl, fun w' => ?_, ?_⟩
  · obtain ⟨i0, hi0, hz0, hz1, hz2⟩ := info_parts infoEnt
    obtain ⟨p', cap', h0, h1, h2, -⟩ := h
    simp only [Value.slice.injEq] at h0
    obtain ⟨rfl, rfl, rfl⟩ := h0
    rw [List.length_append, hl] at h1 ⊢
    unfold maxLen at h2
    simp [Instr.slice, Instr.sliceBounds, Instr.sliceBound, asIntOf, run_underlying Try.underlying26, sizeOf, typeInfo, hi0, hz1, go_sem]
  · split
    · rfl
    · cases a <;> rfl

/-- append of no slice to no slice. -/
theorem wpList_append_none {ops : Array Oper} {rest : List Oper} {o : Oper} {a : Act} {w : World} {Q : Exit → Act → World → Prop} (hgd : o.guard = none) (s x : Operand) (c : Nat)
    (ho : o.op = .call { callee := .builtin .append, args := #[s, x], argTypes := #[26, 26] })
    (hs : a.eval s = .slice none 0 0) (hx : a.eval x = .slice none 0 c)
    (h : wpList Try.prog ops Q rest (a.put o.dst (.slice none 0 0)) w) : wpList Try.prog ops Q (o :: rest) a w := by
  refine wpList_plain hgd fun _ hK => ?_
  obtain ⟨i0, hi0, hz0, hz1, hz2⟩ := info_parts infoEnt
  have hr : (Builtin.append_ #[26, 26] o.type #[.slice none 0 0, .slice none 0 c]).run Try.prog w = .ok (.slice none 0 0) w := by
    simp [Builtin.append_, run_underlying Try.underlying26, sizeOf, typeInfo, hi0, Builtin.lenOf, Builtin.firstCells, loadCells, loadCellsFrom]
  unfold Oper.wp execOp
  simp only [ho, resolve, invoke, builtin, Sem.run_bind, Sem.run_pure, Result.andThen_ok, List.map_toArray, List.map_cons, List.map_nil, hs, hx, hr]
  exact hK _ _ h

/-- A row of entries of the call's own, whatever they are. -/
def OwnE (w : World) (base : Nat) (v : Value) (n : Nat) : Prop := n = 0 ∨ ∃ g cap cur, v = .slice (some ⟨g, 0, none⟩) n cap ∧ base ≤ g ∧ w.heap[g]? = some (.cells cur 31) ∧ n * 2 ≤ cur.size

theorem OwnE.of_owns {w : World} {base : Nat} {v : Value} {n : Nat} {xs : List Value} (h : w.ownsRow base 31 2 v n xs) : OwnE w base v n := by
  rcases h.2 with ⟨-, h0⟩ | ⟨g, cap, cur, rfl, hb, hg, hn, hm, hs, ht⟩
  · exact .inl h0
  · exact .inr ⟨g, cap, cur, rfl, hb, hg, by rw [hs]; exact Nat.mul_le_mul_right _ hn⟩

theorem OwnE.cell {w : World} {base : Nat} {a : Option Addr} {n cap : Nat} (h : OwnE w base (.slice a n cap) n) {i : Nat} (hi : i < n) :
    ∃ g x y, a = some ⟨g, 0, none⟩ ∧ base ≤ g ∧ w.cell? ⟨g, i * 2, none⟩ = some x ∧ w.cell? ⟨g, i * 2 + 1, none⟩ = some y ∧ w.frozen? ⟨g, i * 2, none⟩ = false ∧ w.frozen? ⟨g, i * 2 + 1, none⟩ = false ∧
      ∀ u v, OwnE ((w.setCell ⟨g, i * 2, none⟩ u).setCell ⟨g, i * 2 + 1, none⟩ v) base (.slice a n cap) n := by
  rcases h with h | ⟨g, cap', cur, hv, hb, hg, hs⟩
  · omega
  · simp only [Value.slice.injEq] at hv
    obtain ⟨rfl, -, rfl⟩ := hv
    refine ⟨g, cur[i * 2]'(by omega), cur[i * 2 + 1]'(by omega), rfl, hb, ?_, ?_, ?_, ?_, fun u v => ?_⟩
    · simp [World.cell?, hg, Array.getElem?_eq_getElem (show i * 2 < cur.size by omega)]
    · simp [World.cell?, hg, Array.getElem?_eq_getElem (show i * 2 + 1 < cur.size by omega)]
    · simp [World.frozen?, hg]
    · simp [World.frozen?, hg]
    · exact .inr ⟨g, cap, _, rfl, hb, setCell_block (setCell_block hg _ u) _ v, by simpa using hs⟩

end Go.Proofs.Ytmfifaonbbeebaa
