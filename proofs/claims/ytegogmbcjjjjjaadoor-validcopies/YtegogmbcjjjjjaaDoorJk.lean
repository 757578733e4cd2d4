/-
  What the document says is wrong with a thread. Nothing that was in memory turns. Conditions: the symbols and the thread lie in memory; texts of at most 1000 bytes, at most 1000000 labels.
  What the document says is wrong with a program. Nothing that was in memory turns. Conditions: the program lies in memory; texts of at most 1000 bytes, at most 1000000 labels a thread.
  The statements' own first call: it returns true. Nothing that was in memory turns. Conditions: the listed variables stand as the text lays them.
-/
import Derived.Test.YtegogmbcjjjjjaaDoorJj
import Derived.Test.YtegogmbcjjjjjaaDoorJh
import Derived.Maps.AppendAt
import Derived.Test.YtegogmbcjjjjjaaDoorJc
namespace Go.Proofs.YtegogmbcjjjjjaaDoor
open Go.RowKit
set_option linter.unusedVariables false
set_option linter.unusedSimpArgs false

theorem own_apart {w : World} {base : Nat} {v : Value} {n : Nat} {xs : List Value} {B : Nat} {cs : Array Value} (h : w.ownsRow base 9 1 v n xs) (hB : w.heap[B]? = some (.cells cs 39)) : some B ≠ v.ownBlock := by
  rcases h.2 with ⟨rfl, -⟩ | ⟨g, cap, cur, rfl, -, hc, -⟩
  · simp [Value.ownBlock]
  · intro e
    simp only [Value.ownBlock, Option.some.injEq] at e
    subst e
    rw [hB] at hc
    simp at hc

/-- Behind an append to the labels: the new row, the instruction's box, and all that was there. -/
theorem after_label {a w2 w3 : World} {o : Obj} {v v' : Value} {base n m B : Nat} {xs ys : List Value} {cs : Array Value}
    (hl : Later a w2) (hb : a.heap.size ≤ base) (hown : w2.ownsRow base 9 1 v n xs) (hB : w2.heap[B]? = some (.cells cs 39)) (hg : (w2.alloc o).grownBy w3 v.ownBlock) (hown' : w3.ownsRow base 9 1 v' m ys) :
    Aside (w3.ownsRow base 9 1 v' m ys ∧ Later a w3 ∧ w3.heap[B]? = some (.cells cs 39)) := by
  have hlt := lt_of_block hB
  refine ⟨hown', ?_, ?_⟩
  · exact Below.grown (Below.alloc hl hl.size _) hg (by have := hl.size; simp; omega) (fun j hj => by have := (hown.lt _ hj).1; omega)
  · rw [hg.block B (by simp; omega) (own_apart hown hB), Below.heap_alloc _ _ _ hlt]; exact hB

theorem find_has (s : ByteArray) : ∀ (T : Thr) (k : Nat), (0 ≤ findF s T k) ↔ hasT s (labelsOf T) = true
  | [], k => by simp [findF, labelsOf, hasT]
  | x :: r, k => by
    have e : hasT s (labelsOf (x :: r)) = (hasT s x.2 || hasT s (labelsOf r)) := by simp [labelsOf, hasT]
    rw [e]
    unfold findF
    cases hasT s x.2
    · simp [find_has s r (k + 1)]
    · simp

theorem one_text_cells (t : ByteArray) : ∀ u ∈ [Value.string t], u.oneCell' = true := by
  intro u hu
  simp at hu
  subst hu
  rfl

end Go.Proofs.YtegogmbcjjjjjaaDoor

namespace Go.Proofs.YtegogmbcjjjjjaaDoor
open Go.RowKit
set_option linter.unusedVariables false
set_option linter.unusedSimpArgs false

theorem any_take {S : Syms} {i k : Nat} {f : Sym × List Int → Bool} {s : Sym × List Int} (hk : k < i) (h : S[k]? = some s) (hf : f s = true) : (S.take i).any f = true := by
  rw [List.any_eq_true]
  exact ⟨s, List.mem_of_getElem? (by rw [List.getElem?_take, if_pos hk]; exact h), hf⟩

theorem none_take {S : Syms} {i : Nat} {f : Sym × List Int → Bool} (hi : i ≤ S.length) (h : ∀ k s, k < i → S[k]? = some s → f s = false) : (S.take i).any f = false := by
  rw [List.any_eq_false]
  intro x hx
  obtain ⟨j, hj, rfl⟩ := List.getElem_of_mem hx
  rw [List.length_take] at hj
  rw [h j _ (by omega) (by rw [List.getElem_take]; exact List.getElem?_eq_getElem (by omega))]
  simp

end Go.Proofs.YtegogmbcjjjjjaaDoor

namespace Go.Proofs.YtegogmbcjjjjjaaDoor
open Go.RowKit
set_option linter.unusedVariables false
set_option linter.unusedSimpArgs false

theorem RowIn.one {α : Type} {k : Nat} {E : World → α → List Value → Prop} {w : World} {B : Nat} {a : α} {cs : Array Value} {t : TypeId} (hB : w.heap[B]? = some (.cells cs t)) (hE : E w a cs.toList) : RowIn k E w (.slice (some ⟨B, 0, none⟩) 1 1) [a] := by
  refine ⟨some ⟨B, 0, none⟩, 1, rfl, Nat.le_refl _, by unfold maxLen; omega, fun _ => ⟨B, 0, rfl, fun i b hi => ?_⟩⟩
  have hi0 : i = 0 := by
    rcases Nat.eq_zero_or_pos i with h | h
    · exact h
    · rw [List.getElem?_eq_none (by simp; omega)] at hi; cases hi
  subst hi0
  simp at hi
  subst hi
  refine ⟨cs.toList, hE, fun j c hj => ?_⟩
  simp [World.cell?, hB]
  simpa using hj

theorem RowIn.nil {α : Type} (k : Nat) (E : World → α → List Value → Prop) (w : World) : RowIn k E w (.slice none 0 0) [] :=
  ⟨none, 0, rfl, Nat.le_refl _, by unfold maxLen; omega, by simp⟩

theorem TextsIn.nil (w : World) : TextsIn w (.slice none 0 0) [] := ⟨none, 0, rfl, Nat.le_refl _, by unfold maxLen; omega, by simp, by simp⟩

theorem TextsIn.one {w : World} {B : Nat} {s : ByteArray} {t : TypeId} (hB : w.heap[B]? = some (.cells #[.string s] t)) (hs : s.size ≤ maxLen) : TextsIn w (.slice (some ⟨B, 0, none⟩) 1 1) [s] := by
  refine ⟨some ⟨B, 0, none⟩, 1, rfl, Nat.le_refl _, by unfold maxLen; omega, by simpa using hs, fun _ => ⟨B, 0, rfl, fun i b hi => ?_⟩⟩
  have hi0 : i = 0 := by
    rcases Nat.eq_zero_or_pos i with h | h
    · exact h
    · rw [List.getElem?_eq_none (by simp; omega)] at hi; cases hi
  subst hi0
  simp at hi
  subst hi
  exact (box1_facts hB).1

/-- An instruction of an Op alone. -/
def bareIns (op : Int) (v : Value) : Ins := ⟨op, false, 0, ⟨0, 0, 0, 0⟩, ⟨0, 0, 0, 0⟩, ⟨#[]⟩, v⟩

theorem bare_ok (op : Int) (v : Value) (h : I64 op) : (bareIns op v).Ok := by
  have z : I64 0 := by unfold I64; omega
  exact ⟨h, z, ⟨z, z, z, z⟩, ⟨z, z, z, z⟩, by show 0 ≤ _; omega⟩

theorem check_none : checkC [] [] = 0 := rfl
theorem check_nop (v : Value) : checkC [] [[(bareIns 13 v, [])]] = 9 := by kernel_rfl
theorem find_a (v : Value) : findF ⟨#[97]⟩ [(bareIns 14 v, [⟨#[97]⟩])] 0 = 0 := by kernel_rfl
theorem find_b (v : Value) : findF ⟨#[98]⟩ [(bareIns 14 v, [⟨#[97]⟩])] 0 = -1 := by kernel_rfl
theorem count_a (v : Value) : countF [(bareIns 14 v, [⟨#[97]⟩])] = 1 := by kernel_rfl

theorem fine_none : FineP [] [] := ⟨fun _ h => by simp at h, fun _ h => by simp at h⟩
theorem fine_nop (v : Value) : FineP [] [[(bareIns 13 v, [])]] := by
  refine ⟨fun _ h => by simp at h, fun T h => ?_⟩
  simp at h
  subst h
  exact ⟨fun x hx => by simp at hx; subst hx; exact Nat.zero_le _, fun x hx => by simp at hx; subst hx; simp, by simp [labelsOf]⟩

theorem three_new3 (w : World) (o p q : Obj) : (((w.alloc o).alloc p).alloc q).heap[w.heap.size]? = some o ∧ (((w.alloc o).alloc p).alloc q).heap[w.heap.size + 1]? = some p ∧ (((w.alloc o).alloc p).alloc q).heap[w.heap.size + 1 + 1]? = some q := by
  obtain ⟨h1, h2, h3⟩ := three_new w o p q
  exact ⟨h1, h2, h3⟩

theorem nopRow (w : World) : ThrRow ((w.alloc (.cells #[.int .i64 13, .bool false, .int .i64 0, .int .i64 0, .int .i64 0, .int .i64 0, .int .i64 0, .int .i64 0, .int .i64 0, .int .i64 0, .int .i64 0, .string ⟨#[]⟩, .slice none 0 0] 39)).alloc (.cells #[.slice (some ⟨w.heap.size, 0, none⟩) 1 1] 34)) (.slice (some ⟨w.heap.size + 1, 0, none⟩) 1 1) [[(bareIns 13 (.slice none 0 0), [])]] := by
  obtain ⟨h1, h2⟩ := two_new2 w (.cells #[.int .i64 13, .bool false, .int .i64 0, .int .i64 0, .int .i64 0, .int .i64 0, .int .i64 0, .int .i64 0, .int .i64 0, .int .i64 0, .int .i64 0, .string ⟨#[]⟩, .slice none 0 0] 39) (.cells #[.slice (some ⟨w.heap.size, 0, none⟩) 1 1] 34)
  refine RowIn.one h2 ⟨_, rfl, RowIn.one h1 ⟨rfl, bare_ok _ _ (by unfold I64; omega), TextsIn.nil _⟩⟩

set_option maxRecDepth 1000000 in
set_option maxHeartbeats 4000000 in
theorem alive_any (w : World) (hG : NamesGood w) :
    Calls Tryd.prog 5 #[] w fun e w' => e = .returned (.bool true) ∧ Later w w' := by
  have cC0 := fun w' h => check_any (.slice none 0 0) (.slice none 0 0) [] [] w' h (RowIn.nil _ _ _) (RowIn.nil _ _ _) fine_none
  have cC1 := fun v w' h h' => check_any (.slice none 0 0) v [] [[(bareIns 13 (.slice none 0 0), [])]] w' h (RowIn.nil _ _ _) h' (fine_nop _)
  have cFa := fun u v w' h => find_any u [(bareIns 14 v, [⟨#[97]⟩])] ⟨#[97]⟩ w' h
  have cFb := fun u v w' h => find_any u [(bareIns 14 v, [⟨#[97]⟩])] ⟨#[98]⟩ w' h
  have cN := fun u v w' h => count_any u [(bareIns 14 v, [⟨#[97]⟩])] w' h
  simp only [check_none, check_nop, find_a, find_b, count_a] at cC0 cC1 cFa cFb cN
  go_enter Tryd.func5, Tryd.ntmps5
  go_upto_region 2 with (fail)
  obtain ⟨h0, h1, h2⟩ := three_new3 w (.cells #[.string ⟨#[97]⟩] 9) (.cells #[.int .i64 14, .bool false, .int .i64 0, .int .i64 0, .int .i64 0, .int .i64 0, .int .i64 0, .int .i64 0, .int .i64 0, .int .i64 0, .int .i64 0, .string ⟨#[]⟩, .slice (some ⟨w.heap.size, 0, none⟩) 1 1] 39) (.cells #[.slice (some ⟨w.heap.size + 1, 0, none⟩) 1 1] 34)
  have LL := Later.alloc (Later.alloc (Later.alloc (Later.refl w) (.cells #[.string ⟨#[97]⟩] 9)) (.cells #[.int .i64 14, .bool false, .int .i64 0, .int .i64 0, .int .i64 0, .int .i64 0, .int .i64 0, .int .i64 0, .int .i64 0, .int .i64 0, .int .i64 0, .string ⟨#[]⟩, .slice (some ⟨w.heap.size, 0, none⟩) 1 1] 39)) (.cells #[.slice (some ⟨w.heap.size + 1, 0, none⟩) 1 1] 34)
  generalize ((w.alloc (.cells #[.string ⟨#[97]⟩] 9)).alloc (.cells #[.int .i64 14, .bool false, .int .i64 0, .int .i64 0, .int .i64 0, .int .i64 0, .int .i64 0, .int .i64 0, .int .i64 0, .int .i64 0, .int .i64 0, .string ⟨#[]⟩, .slice (some ⟨w.heap.size, 0, none⟩) 1 1] 39)).alloc (.cells #[.slice (some ⟨w.heap.size + 1, 0, none⟩) 1 1] 34) = W at *
  have hrow : InsRow W (.slice (some ⟨w.heap.size + 1, 0, none⟩) 1 1) [(bareIns 14 (.slice (some ⟨w.heap.size, 0, none⟩) 1 1), [⟨#[97]⟩])] := RowIn.one h1 ⟨rfl, bare_ok _ _ (by unfold I64; omega), TextsIn.one h0 (by show 1 ≤ _; unfold maxLen; omega)⟩
  have hb := (box1_facts h2).1
  have HR : Hid (InsRow W (.slice (some ⟨w.heap.size + 1, 0, none⟩) 1 1) [(bareIns 14 (.slice (some ⟨w.heap.size, 0, none⟩) 1 1), [⟨#[97]⟩])]) := hrow
  have HG : Hid (NamesGood W) := hG.later LL
  clear h0 h1 h2 hrow hG
  go_wp2_with (first
    | (go_at_call 12; apply Calls.mono; (focus (with_reducible (exact cC0 _ HG.out))); rintro e w1 ⟨rfl, hl1⟩; have LN := Later.alloc (Later.alloc hl1 (.cells #[.int .i64 13, .bool false, .int .i64 0, .int .i64 0, .int .i64 0, .int .i64 0, .int .i64 0, .int .i64 0, .int .i64 0, .int .i64 0, .int .i64 0, .string ⟨#[]⟩, .slice none 0 0] 39)) (.cells #[.slice (some ⟨w1.heap.size, 0, none⟩) 1 1] 34))
    | (go_at_call 12; refine (cC1 _ _ (HG.out.later LN) (nopRow w1)).mono ?_; rintro e w2 ⟨rfl, hl2⟩; have hb2 := cell_later hb (LN.trans hl2))
    | (go_at_call 13; apply Calls.mono; (focus (with_reducible (exact cFa _ _ _ (InsRow.kept HR.out (LN.trans hl2).kept)))); rintro e w3 ⟨rfl, hl3⟩; have hb3 := cell_later hb2 hl3)
    | (go_at_call 13; apply Calls.mono; (focus (with_reducible (exact cFb _ _ _ (InsRow.kept HR.out (LN.trans (hl2.trans hl3)).kept)))); rintro e w4 ⟨rfl, hl4⟩; have hb4 := cell_later hb3 hl4)
    | (go_at_call 14; refine (cN _ _ _ (InsRow.kept HR.out (LN.trans (hl2.trans (hl3.trans hl4))).kept)).mono ?_; rintro e w5 ⟨rfl, hl5⟩))
  go_ret
  exact ⟨rfl, LL.trans (LN.trans (hl2.trans (hl3.trans (hl4.trans hl5))))⟩

end Go.Proofs.YtegogmbcjjjjjaaDoor
