/-
  What the small functions do that the statements' functions call: Short returns a text's first bytes; the place behind a rune; which numbers are letters, digits and blanks. Nothing that was in memory turns. Conditions: as each theorem names them.
  glyph.End.
  What the document's own Spots returns: the same row of the text's runes. Nothing that was in memory turns. Conditions: the text has at most 1000000 bytes.
  Tables of texts in memory; what the document's own functions over its words return. Nothing that was in memory turns. Conditions: as each theorem names them.
  Which texts are names, said of the numbers of their runes and whether each is bad; that a text's runes are those of its two halves, if none of the first half's is bad. Nothing runs here. Conditions: as each theorem names them.
  What the document's own Right returns, and the first call whose answer the document fixes. Nothing that was in memory turns. Conditions: as each theorem names them.
-/
import Derived.Test.YtgkdejldpldkiaaDoorJa
import Derived.Deep.LoopGhost
import Derived.Lib.OthersKept
import Derived.Deep.QuietTactic
import Derived.Lib.ValidLaws
namespace Go.Proofs.YtgkdejldpldkiaaDoor
open Go.RowKit

/-- A text's first bytes. -/
def short (n : Nat) (s : ByteArray) : ByteArray := if s.size ≤ n then s else s.extract 0 n

theorem short_size (n : Nat) (s : ByteArray) : (short n s).size ≤ n := by
  unfold short
  split
  · assumption
  · rw [ByteArray.size_extract]; omega

theorem short600_any (s : ByteArray) (hs : s.size ≤ 140737488355328) (w : World) :
    Calls Tryd.prog 9 #[.string s, .int .i64 600] w fun e w' => e = .returned (.string (short 600 s)) ∧ Later w w' := by
  by_cases h : s.size ≤ 600
  · rw [show short 600 s = s by simp [short, h]]
    have h' : (s.size : Int) ≤ 600 := by omega
    go_enter Tryd.func9, Tryd.ntmps9
    go_wp2
    go_ret
    exact ⟨rfl, Later.refl _⟩
  · rw [show short 600 s = s.extract 0 600 by simp [short, h]]
    have h' : ¬ (s.size : Int) ≤ 600 := by omega
    go_enter Tryd.func9, Tryd.ntmps9
    go_wp2
    go_ret
    exact ⟨rfl, Later.refl _⟩

theorem short300_any (s : ByteArray) (hs : s.size ≤ 140737488355328) (w : World) :
    Calls Tryd.prog 9 #[.string s, .int .i64 300] w fun e w' => e = .returned (.string (short 300 s)) ∧ Later w w' := by
  by_cases h : s.size ≤ 300
  · rw [show short 300 s = s by simp [short, h]]
    have h' : (s.size : Int) ≤ 300 := by omega
    go_enter Tryd.func9, Tryd.ntmps9
    go_wp2
    go_ret
    exact ⟨rfl, Later.refl _⟩
  · rw [show short 300 s = s.extract 0 300 by simp [short, h]]
    have h' : ¬ (s.size : Int) ≤ 300 := by omega
    go_enter Tryd.func9, Tryd.ntmps9
    go_wp2
    go_ret
    exact ⟨rfl, Later.refl _⟩

theorem short400_any (s : ByteArray) (hs : s.size ≤ 140737488355328) (w : World) :
    Calls Tryd.prog 9 #[.string s, .int .i64 400] w fun e w' => e = .returned (.string (short 400 s)) ∧ Later w w' := by
  by_cases h : s.size ≤ 400
  · rw [show short 400 s = s by simp [short, h]]
    have h' : (s.size : Int) ≤ 400 := by omega
    go_enter Tryd.func9, Tryd.ntmps9
    go_wp2
    go_ret
    exact ⟨rfl, Later.refl _⟩
  · rw [show short 400 s = s.extract 0 400 by simp [short, h]]
    have h' : ¬ (s.size : Int) ≤ 400 := by omega
    go_enter Tryd.func9, Tryd.ntmps9
    go_wp2
    go_ret
    exact ⟨rfl, Later.refl _⟩


theorem letter_any (r : Int) (w : World) :
    Calls Tryd.prog 117 #[.int .i32 r] w fun e w' => e = .returned (.bool (letterF r)) ∧ Later w w' := by
  go_enter Tryd.func117, Tryd.ntmps117
  go_wp2
  all_goals go_ret
  all_goals refine ⟨ret_bool ?_, Later.refl _⟩
  all_goals rw [Bool.eq_iff_iff]
  all_goals simp only [letterF, decide_eq_true_eq, beq_iff_eq, beq_eq_false_iff_ne, ne_eq, Bool.false_eq_true, true_iff, false_iff] at *
  all_goals omega

theorem refLetter_any (r : Int) (w : World) :
    Calls Tryd.prog 70 #[.int .i32 r] w fun e w' => e = .returned (.bool (letterF r)) ∧ w' = w := by
  go_enter Tryd.func70, Tryd.ntmps70
  go_wp2
  all_goals go_ret
  all_goals refine ⟨ret_bool ?_, rfl⟩
  all_goals rw [Bool.eq_iff_iff]
  all_goals simp only [letterF, Bool.or_eq_true, decide_eq_true_eq, beq_iff_eq, true_iff] at *
  all_goals first | omega | (subst_vars; simp)

theorem digit_any (r : Int) (w : World) :
    Calls Tryd.prog 118 #[.int .i32 r] w fun e w' => e = .returned (.bool (digitF r)) ∧ Later w w' := by
  go_enter Tryd.func118, Tryd.ntmps118
  go_wp2
  all_goals go_ret
  all_goals refine ⟨ret_bool ?_, Later.refl _⟩
  all_goals rw [Bool.eq_iff_iff]
  all_goals simp only [digitF, decide_eq_true_eq, Bool.false_eq_true, false_iff] at *
  all_goals omega

theorem refDigit_any (r : Int) (w : World) :
    Calls Tryd.prog 71 #[.int .i32 r] w fun e w' => e = .returned (.bool (digitF r)) ∧ w' = w := by
  go_enter Tryd.func71, Tryd.ntmps71
  go_wp2
  all_goals go_ret
  all_goals refine ⟨ret_bool ?_, rfl⟩
  all_goals rw [Bool.eq_iff_iff]
  all_goals simp only [digitF, decide_eq_true_eq, Bool.false_eq_true, false_iff] at *
  all_goals omega

end Go.Proofs.YtgkdejldpldkiaaDoor

namespace Go.Proofs.YtgkdejldpldkiaaDoor
open Go.RowKit

theorem two_new (w : World) (o p : Obj) : ((w.alloc o).alloc p).heap[w.heap.size]? = some o ∧ ((w.alloc o).alloc p).heap[w.heap.size + 1]? = some p := by
  constructor
  · rw [Below.heap_alloc _ _ _ (by simp)]; exact at_new w o
  · have : (w.alloc o).heap.size = w.heap.size + 1 := by simp
    rw [← this]; exact at_new _ p

theorem box_others {w : World} {B k : Nat} (hk : k ≠ B) (x y : Value) : ((w.setCell ⟨B, 0, none⟩ x).setCell ⟨B, 1, none⟩ y).heap[k]? = w.heap[k]? := by
  rw [Below.heap_setCell _ _ _ _ (by exact hk), Below.heap_setCell _ _ _ _ (by exact hk)]

end Go.Proofs.YtgkdejldpldkiaaDoor

set_option linter.unusedVariables false
namespace Go.Proofs.YtgkdejldpldkiaaDoor
open Go.RowKit

theorem Tryd.info101 : (Tryd.prog.info? 101).map (fun i => (i.zero, i.size, i.bytes)) = some (some (.agg #[.int .i32 0, .int .i64 0, .int .i64 0, .int .i64 0, .int .i64 0, .bool false]), 6, 48) := by kernel_rfl

/-- Not told yet whether it is bad. -/
def Sp.unbad (x : Sp) : Sp := ⟨x.rune, x.at_, x.size, x.line, x.col, false⟩
/-- Not told yet how long it is. -/
def Sp.bare (x : Sp) : Sp := ⟨x.rune, x.at_, 0, x.line, x.col, false⟩

/-- All but the last one are told how long they are. -/
def raw (D : List Sp) : List Sp := D.dropLast.map Sp.unbad ++ (D.getLast?.toList.map Sp.bare)

theorem raw_nil : raw [] = [] := rfl
theorem raw_snoc (E : List Sp) (x : Sp) : raw (E ++ [x]) = E.map Sp.unbad ++ [x.bare] := by simp [raw]
theorem raw_length (E : List Sp) (x : Sp) : (raw (E ++ [x])).length = E.length + 1 := by rw [raw_snoc]; simp

theorem flat_set (A : List Sp) (x y : Sp) (R : List Sp) (k : Nat) (u : Value) (hk : k < 6) (h : x.cells.set k u = y.cells) :
    (flat (A ++ x :: R)).set (A.length * 6 + k) u = flat (A ++ y :: R) := by
  have e : ∀ z : Sp, flat (A ++ z :: R) = flat A ++ (z.cells ++ flat R) := fun z => by rw [flat_append]; rfl
  rw [e, e, List.set_append_right _ _ (by rw [flat_length]; omega), flat_length, show A.length * 6 + k - A.length * 6 = k by omega, List.set_append_left _ _ (by simp [Sp.cells]; omega), h]

/-- Behind an append: the new row, the reader of the text and what was there. -/
theorem after_append2 {w w2 w3 : World} {s : ByteArray} {pos : Nat} {o : Obj} {v v' : Value} {n m : Nat} {xs ys : List Value}
    (hit : w2.heap[w.heap.size]? = some (.stringIter s pos)) (hlw : Later w w2)
    (hown : w2.ownsRow (w.heap.size + 1) 101 6 v n xs) (hg : (w2.alloc o).grownBy w3 v.ownBlock) (hown' : w3.ownsRow (w.heap.size + 1) 101 6 v' m ys) :
    Aside (w3.ownsRow (w.heap.size + 1) 101 6 v' m ys ∧ w3.heap[w.heap.size]? = some (.stringIter s pos) ∧ Later w w3) := by
  have hlt := lt_of_block hit
  refine ⟨hown', ?_, ?_⟩
  · rw [hg.block w.heap.size (by simp; omega) (fun h => by have := (hown.lt _ h.symm).1; omega), Below.heap_alloc _ _ _ hlt]; exact hit
  · exact Below.grown (Below.alloc hlw hlw.size _) hg (by have := hlw.size; simp; omega) (fun j hj => by have := (hown.lt _ hj).1; omega)

theorem nil_or_snoc {α : Type} (D : List α) : D = [] ∨ ∃ E x, D = E ++ [x] := by
  rcases List.eq_nil_or_concat D with h | ⟨E, x, h⟩
  · exact Or.inl h
  · exact Or.inr ⟨E, x, by rw [h, List.concat_eq_append]⟩

theorem six_at (w : World) (n : Nat) (hn : w.heap.size = n) (a b c d e f : Value) (t : TypeId) : ∀ j u, [a, b, c, d, e, f][j]? = some u → (w.alloc (.cells #[a, b, c, d, e, f] t)).cell? ((⟨n, 0, none⟩ : Addr).add j) = some u := by
  subst hn
  exact cell_six_new w a b c d e f t

/-- The last rune of a row is told how long it is. -/
theorem last_set {w W1 : World} {g cap : Nat} {E : List Sp} {x : Sp} (hown : W1.ownsRow (w.heap.size + 1) 101 6 (.slice (some ⟨g, 0, none⟩) (E.length + 1) cap) (E.length + 1) (flat (raw (E ++ [x])))) (hlw : Later w W1) :
    W1.cell? ⟨g, E.length * 6 + 1, none⟩ = some (.int .i64 (x.at_ : Nat)) ∧ W1.cell? ⟨g, E.length * 6 + 2, none⟩ = some (.int .i64 0) ∧ W1.frozen? ⟨g, E.length * 6 + 2, none⟩ = false ∧
    (W1.setCell ⟨g, E.length * 6 + 2, none⟩ (.int .i64 (x.size : Nat))).ownsRow (w.heap.size + 1) 101 6 (.slice (some ⟨g, 0, none⟩) (E.length + 1) cap) (E.length + 1) (flat ((E ++ [x]).map Sp.unbad)) ∧
    Later w (W1.setCell ⟨g, E.length * 6 + 2, none⟩ (.int .i64 (x.size : Nat))) ∧
    (W1.setCell ⟨g, E.length * 6 + 2, none⟩ (.int .i64 (x.size : Nat))).heap[w.heap.size]? = W1.heap[w.heap.size]? ∧
    (W1.setCell ⟨g, E.length * 6 + 2, none⟩ (.int .i64 (x.size : Nat))).heap.size = W1.heap.size := by
  have hb := (hown.lt g rfl).1
  rw [raw_snoc] at hown
  have f := flat_get (E.map Sp.unbad ++ [x.bare]) E.length x.bare (by rw [List.getElem?_append_right (by simp)]; simp)
  refine ⟨?_, ?_, hown.frozenAt _, ?_, Below.setCell hlw (by show w.heap.size ≤ g; omega) _, Below.heap_setCell _ _ _ _ (by show w.heap.size ≠ g; omega), by simp⟩
  · rw [hown.cellAt _ (by omega), f 1 (by omega)]; rfl
  · rw [hown.cellAt _ (by omega), f 2 (by omega)]; rfl
  · have h := (hown.stored (E.length * 6 + 2) (.int .i64 (x.size : Nat))).1
    have hs := flat_set (E.map Sp.unbad) x.bare x.unbad [] 2 (.int .i64 (x.size : Nat)) (by omega) rfl
    rw [List.length_map] at hs
    rw [hs] at h
    rw [List.map_append]
    exact h

/-- The form of a row that is not empty. -/
theorem row_form {w : World} {base : Nat} {e : TypeId} {v : Value} {n : Nat} {xs : List Value} (h : w.ownsRow base e 6 v (n + 1) xs) : ∃ g cap, v = .slice (some ⟨g, 0, none⟩) (n + 1) cap := by
  rcases h.2 with ⟨_, h0⟩ | ⟨g, cap, cur, rfl, _⟩
  · omega
  · exact ⟨g, cap, rfl⟩

theorem flat_raw {D : List Sp} {X : Sp} {r pos l c : Nat} (hX : X.bare = ⟨r, pos, 0, l, c, false⟩) :
    flat (raw (D ++ [X])) = flat (D.map Sp.unbad) ++ [.int .i32 (r : Nat), .int .i64 (pos : Nat), .int .i64 0, .int .i64 (l : Nat), .int .i64 (c : Nat), .bool false] := by
  rw [raw_snoc, flat_append, flat_one, hX]
  rfl

theorem snoc_last {α : Type} {A B : List α} {x y : α} (h : A ++ [x] = B ++ [y]) : x = y := by
  have := congrArg List.getLast? h
  simpa using this

/-- One more rune of a row is told whether it is bad. -/
theorem bad_set {w W1 : World} {g cap n m : Nat} {L : List Sp} {y : Sp} (hn : L.length = n) (hy : L[m]? = some y) (hown : W1.ownsRow (w.heap.size + 1) 101 6 (.slice (some ⟨g, 0, none⟩) n cap) n (flat (L.take m ++ (L.drop m).map Sp.unbad))) (hlw : Later w W1) :
    W1.cell? ⟨g, m * 6, none⟩ = some (.int .i32 (y.rune : Nat)) ∧ W1.cell? ⟨g, m * 6 + 2, none⟩ = some (.int .i64 (y.size : Nat)) ∧ W1.cell? ⟨g, m * 6 + 5, none⟩ = some (.bool false) ∧ W1.frozen? ⟨g, m * 6 + 5, none⟩ = false ∧
    (W1.setCell ⟨g, m * 6 + 5, none⟩ (.bool y.bad)).ownsRow (w.heap.size + 1) 101 6 (.slice (some ⟨g, 0, none⟩) n cap) n (flat (L.take (m + 1) ++ (L.drop (m + 1)).map Sp.unbad)) ∧
    Later w (W1.setCell ⟨g, m * 6 + 5, none⟩ (.bool y.bad)) := by
  have hb := (hown.lt g rfl).1
  have hm : m < L.length := (List.getElem?_eq_some_iff.1 hy).1
  have hd : L.drop m = y :: L.drop (m + 1) := by
    rw [List.drop_eq_getElem_cons hm]
    congr 1
    exact (List.getElem?_eq_some_iff.1 hy).2
  rw [hd, List.map_cons] at hown
  have hl : (L.take m).length = m := by rw [List.length_take]; omega
  have f := flat_get (L.take m ++ y.unbad :: (L.drop (m + 1)).map Sp.unbad) m y.unbad (by rw [List.getElem?_append_right (by omega), hl, Nat.sub_self]; rfl)
  refine ⟨?_, ?_, ?_, hown.frozenAt _, ?_, Below.setCell hlw (by show w.heap.size ≤ g; omega) _⟩
  · have := f 0 (by omega)
    rw [hown.cellAt _ (by omega)]; exact this
  · rw [hown.cellAt _ (by omega), f 2 (by omega)]; rfl
  · rw [hown.cellAt _ (by omega), f 5 (by omega)]; rfl
  · have h := (hown.stored (m * 6 + 5) (.bool y.bad)).1
    have hs := flat_set (L.take m) y.unbad y ((L.drop (m + 1)).map Sp.unbad) 5 (.bool y.bad) (by omega) rfl
    rw [hl] at hs
    rw [hs] at h
    have e : L.take (m + 1) ++ (L.drop (m + 1)).map Sp.unbad = L.take m ++ y :: (L.drop (m + 1)).map Sp.unbad := by
      rw [take_succ_get L m y hy, List.append_assoc]; rfl
    rw [e]
    exact h

set_option maxRecDepth 1000000 in
set_option maxHeartbeats 1000000 in
theorem refSpots_any (s : ByteArray) (hsz : s.size ≤ 1000000) (w : World) :
    Calls Tryd.prog 68 #[.string s] w fun e w' => (∃ a cap, e = .returned (.slice a (spots s).length cap) ∧ Row w' a (spots s)) ∧ Later w w' := by
  obtain ⟨i0, hi, hz0, hz1, hz2⟩ := info_parts Tryd.info101
  go_enter Tryd.func68, Tryd.ntmps68
  go_wp2
  go_loopw [3, 4, 5] (fun v vl vc wr => ∃ (pos fuel l c : Nat) (D : List Sp), vl = .int .i64 (l : Nat) ∧ vc = .int .i64 (c : Nat) ∧ wr.heap[w.heap.size]? = some (.stringIter s pos) ∧ wr.ownsRow (w.heap.size + 1) 101 6 v D.length (flat (raw D)) ∧ Later w wr ∧ Hid (D ++ spotsFrom s fuel pos l c = spots s) ∧ Hid (∀ E x, D = E ++ [x] → x.at_ + x.size = pos) ∧ s.size ≤ pos + fuel ∧ pos ≤ s.size ∧ l ≤ pos + 1 ∧ c ≤ pos + 1 ∧ D.length ≤ pos) (fun _ _ _ wr => s.size - wr.iterPos w.heap.size)
  case atStart => exact ⟨0, s.size, 1, 1, [], rfl, rfl, World.iter_heap w s 0, World.ownsRow_nil _ _ _ _, Later.alloc (Later.refl _) _, rfl, (fun E x h => by simp at h), by omega, by omega, by omega, by omega, by simp⟩
  case round =>
    obtain ⟨pos, fuel, l, c, D, rfl, rfl, hit, hown, hlw, HS, HE, hf, hp, hlp, hcp, hDp⟩ := hrel
    have hpos0 := iterPos_of hit
    by_cases hp : pos < s.size
    · have hnx : ∀ ty, (Instr.next (.pointer (some ⟨w.heap.size, 0, none⟩)) true ty).run Tryd.prog wr = _ := fun ty => Lib.run_next_any_at wr w.heap.size s pos ty hit hp
      have hd := decode_pos s pos hp
      have hit2 := Lib.iterAt_heap wr w.heap.size s pos (pos + (Utf8.decode s pos).2) hit
      have hlw2 : Later w _ := Lib.below_iterAt hlw (k := w.heap.size) (Nat.le_refl _) s (pos + (Utf8.decode s pos).2)
      have hown2 := ownsRow_iterAt hown (k := w.heap.size) (by omega) s (pos + (Utf8.decode s pos).2)
      obtain ⟨W1, hW1⟩ : ∃ W1, W1 = wr.iterAt w.heap.size s (pos + (Utf8.decode s pos).2) := ⟨_, rfl⟩
      rw [← hW1] at hnx hit2 hlw2 hown2
      obtain ⟨fuel, rfl⟩ : ∃ f', fuel = f' + 1 := ⟨fuel - 1, by omega⟩
      have HS2 : Hid ((D ++ [spotAt s pos l c]) ++ spotsFrom s fuel (pos + (Utf8.decode s pos).2) (nl l (Utf8.decode s pos).1) (nc c (Utf8.decode s pos).1) = spots s) := by
        show _ = _
        rw [← HS.out, spots_more s fuel pos l c hp]; simp
      have HX : Hid ((spotAt s pos l c).bare = ⟨(Utf8.decode s pos).1, pos, 0, l, c, false⟩) := rfl
      have HX2 : Hid ((spotAt s pos l c).at_ + (spotAt s pos l c).size = pos + (Utf8.decode s pos).2) := rfl
      generalize spotAt s pos l c = X at HS2 HX HX2
      generalize (Utf8.decode s pos).1 = r at *
      generalize (Utf8.decode s pos).2 = k at *
      clear hW1 hit hlw hown HS
      rcases nil_or_snoc D with rfl | ⟨E, x, rfl⟩
      · obtain ⟨a, cap, rfl, -⟩ := row_of_owns (L := []) hown2
        have hownP := hown2
        have hitP := hit2
        have hlwP := hlw2
        have hszP : W1.heap.size = W1.heap.size := rfl
        by_cases hr : r = 10
        · subst hr
          go_wp2_with (at_builtin; refine wpList_append_own _ rfl _ _ 98 rfl (w.heap.size + 1) 101 i0 (.agg #[.int .i32 0, .int .i64 0, .int .i64 0, .int .i64 0, .int .i64 0, .bool false]) 6 48 Tryd.underlying98 hi hz0 hz1 hz2 rfl (by decide) _ _ _ rfl (hownP.alloc _) ⟨W1.heap.size, 0, none⟩ 1 1 [.int .i32 10, .int .i64 (pos : Nat), .int .i64 0, .int .i64 (l : Nat), .int .i64 (c : Nat), .bool false] rfl rfl (six_at _ _ hszP _ _ _ _ _ _ _) (fun x hx => by simp at hx; rcases hx with rfl | rfl | rfl | rfl | rfl | rfl <;> rfl) (by unfold maxLen; omega) (by omega) (by have := lt_of_block hit2; simp; omega) ?_; intro v' w3 hown' hgrow3 hnil3; have X3 := after_append2 hitP hlwP hownP hgrow3 hown'; clear hown' hgrow3 hnil3)
          go_roundw
          case rel => exact ⟨pos + k, fuel, l + 1, 1, [] ++ [X], by go_num, by go_num, X3.out.2.1, (by rw [flat_raw HX.out]; exact X3.out.1), X3.out.2.2, HS2, (fun E' x' h => by rw [← snoc_last h]; exact HX2.out), by omega, by omega, by omega, by omega, by simp; omega⟩
          case measure => rw [iterPos_of X3.out.2.1, hpos0]; omega
        · have hr' : ((r : Int) == 10) = false := by simp; omega
          go_wp2_with (at_builtin; refine wpList_append_own _ rfl _ _ 98 rfl (w.heap.size + 1) 101 i0 (.agg #[.int .i32 0, .int .i64 0, .int .i64 0, .int .i64 0, .int .i64 0, .bool false]) 6 48 Tryd.underlying98 hi hz0 hz1 hz2 rfl (by decide) _ _ _ rfl (hownP.alloc _) ⟨W1.heap.size, 0, none⟩ 1 1 [.int .i32 (r : Nat), .int .i64 (pos : Nat), .int .i64 0, .int .i64 (l : Nat), .int .i64 (c : Nat), .bool false] rfl rfl (six_at _ _ hszP _ _ _ _ _ _ _) (fun x hx => by simp at hx; rcases hx with rfl | rfl | rfl | rfl | rfl | rfl <;> rfl) (by unfold maxLen; omega) (by omega) (by have := lt_of_block hit2; simp; omega) ?_; intro v' w3 hown' hgrow3 hnil3; have X3 := after_append2 hitP hlwP hownP hgrow3 hown'; clear hown' hgrow3 hnil3)
          go_roundw
          case rel => exact ⟨pos + k, fuel, l, c + 1, [] ++ [X], by go_num, by go_num, X3.out.2.1, (by rw [flat_raw HX.out]; exact X3.out.1), X3.out.2.2, (by show _ = _; rw [← HS2.out]; simp [nl, nc, hr]), (fun E' x' h => by rw [← snoc_last h]; exact HX2.out), by omega, by omega, by omega, by omega, by simp; omega⟩
          case measure => rw [iterPos_of X3.out.2.1, hpos0]; omega
      · have hsub : (pos : Int) - (x.at_ : Int) = (x.size : Int) := by have := HE.out E x rfl; omega
        rw [List.length_append, List.length_singleton] at hown2 hDp
        obtain ⟨gg, cap, rfl⟩ := row_form hown2
        obtain ⟨c1, c2, f2, hownP, hlwP, hitQ, hszP⟩ := last_set hown2 hlw2
        have hitP := hitQ.trans hit2
        have hi0 : (0 : Int) < (E.length : Int) + 1 := by omega
        have hi1 : (E.length : Int) < (E.length : Int) + 1 := by omega
        have hi2 : (E.length : Int) < ((E.length + 1 : Nat) : Int) := by omega
        by_cases hr : r = 10
        · subst hr
          go_wp2_with (at_builtin; refine wpList_append_own _ rfl _ _ 98 rfl (w.heap.size + 1) 101 i0 (.agg #[.int .i32 0, .int .i64 0, .int .i64 0, .int .i64 0, .int .i64 0, .bool false]) 6 48 Tryd.underlying98 hi hz0 hz1 hz2 rfl (by decide) _ _ _ rfl (hownP.alloc _) ⟨W1.heap.size, 0, none⟩ 1 1 [.int .i32 10, .int .i64 (pos : Nat), .int .i64 0, .int .i64 (l : Nat), .int .i64 (c : Nat), .bool false] rfl rfl (six_at _ _ hszP _ _ _ _ _ _ _) (fun x hx => by simp at hx; rcases hx with rfl | rfl | rfl | rfl | rfl | rfl <;> rfl) (by unfold maxLen; omega) (by omega) (by have := lt_of_block hit2; simp [hszP]; omega) ?_; intro v' w3 hown' hgrow3 hnil3; have X3 := after_append2 hitP hlwP hownP hgrow3 hown'; clear hown' hgrow3 hnil3)
          go_roundw
          case rel => exact ⟨pos + k, fuel, l + 1, 1, (E ++ [x]) ++ [X], by go_num, by go_num, X3.out.2.1, (by rw [show ((E ++ [x]) ++ [X]).length = E.length + 1 + 1 by simp, flat_raw HX.out]; exact X3.out.1), X3.out.2.2, HS2, (fun E' x' h => by rw [← snoc_last h]; exact HX2.out), by omega, by omega, by omega, by omega, by simp; omega⟩
          case measure => rw [iterPos_of X3.out.2.1, hpos0]; omega
        · have hr' : ((r : Int) == 10) = false := by simp; omega
          go_wp2_with (at_builtin; refine wpList_append_own _ rfl _ _ 98 rfl (w.heap.size + 1) 101 i0 (.agg #[.int .i32 0, .int .i64 0, .int .i64 0, .int .i64 0, .int .i64 0, .bool false]) 6 48 Tryd.underlying98 hi hz0 hz1 hz2 rfl (by decide) _ _ _ rfl (hownP.alloc _) ⟨W1.heap.size, 0, none⟩ 1 1 [.int .i32 (r : Nat), .int .i64 (pos : Nat), .int .i64 0, .int .i64 (l : Nat), .int .i64 (c : Nat), .bool false] rfl rfl (six_at _ _ hszP _ _ _ _ _ _ _) (fun x hx => by simp at hx; rcases hx with rfl | rfl | rfl | rfl | rfl | rfl <;> rfl) (by unfold maxLen; omega) (by omega) (by have := lt_of_block hit2; simp [hszP]; omega) ?_; intro v' w3 hown' hgrow3 hnil3; have X3 := after_append2 hitP hlwP hownP hgrow3 hown'; clear hown' hgrow3 hnil3)
          go_roundw
          case rel => exact ⟨pos + k, fuel, l, c + 1, (E ++ [x]) ++ [X], by go_num, by go_num, X3.out.2.1, (by rw [show ((E ++ [x]) ++ [X]).length = E.length + 1 + 1 by simp, flat_raw HX.out]; exact X3.out.1), X3.out.2.2, (by show _ = _; rw [← HS2.out]; simp [nl, nc, hr]), (fun E' x' h => by rw [← snoc_last h]; exact HX2.out), by omega, by omega, by omega, by omega, by simp; omega⟩
          case measure => rw [iterPos_of X3.out.2.1, hpos0]; omega
    · have hnx : ∀ ty, (Instr.next (.pointer (some ⟨w.heap.size, 0, none⟩)) true ty).run Tryd.prog wr = _ := fun ty => Lib.run_next_end_at wr w.heap.size s pos ty hit hp
      have hD : D = spots s := by rw [← HS.out, spots_end s fuel pos l c hp]; simp
      have HB : Hid (∀ (i : Nat) (y : Sp), D[i]? = some y → y.bad = badOf y.rune y.size) := fun i y h => by
        rw [hD] at h
        obtain ⟨_, _, _, _, h5⟩ := spots_at s i y h
        rw [h5]; rfl
      have HD : Hid (D = spots s) := hD
      clear hD
      rcases nil_or_snoc D with rfl | ⟨E, x, rfl⟩
      · obtain ⟨a, cap, rfl, hrow⟩ := row_of_owns (L := []) hown
        go_wp2
        go_loopw [8] (fun vi wr' => vi = .int .i64 0 ∧ wr' = wr) (fun _ _ => 0)
        case atStart => exact ⟨rfl, rfl⟩
        case round =>
          obtain ⟨rfl, rfl⟩ := hrel
          go_wp2
          go_ret
          exact ⟨⟨a, cap, by rw [← HD.out]; rfl, by rw [← HD.out]; exact hrow⟩, hlw⟩
      · have hsub : (s.size : Int) - (x.at_ : Int) = (x.size : Int) := by have := HE.out E x rfl; omega
        rw [List.length_append, List.length_singleton] at hown hDp
        obtain ⟨gg, cap, rfl⟩ := row_form hown
        obtain ⟨c1, c2, f2, hownP, hlwP, -, -⟩ := last_set hown hlw
        have hi0 : (0 : Int) < (E.length : Int) + 1 := by omega
        have hi1 : (E.length : Int) < (E.length : Int) + 1 := by omega
        have hi2 : (E.length : Int) < ((E.length + 1 : Nat) : Int) := by omega
        go_wp2
        go_loopw [8] (fun vi wr' => ∃ (m : Nat), vi = .int .i64 (m : Nat) ∧ m ≤ E.length + 1 ∧ wr'.ownsRow (w.heap.size + 1) 101 6 (.slice (some ⟨gg, 0, none⟩) (E.length + 1) cap) (E.length + 1) (flat ((E ++ [x]).take m ++ ((E ++ [x]).drop m).map Sp.unbad)) ∧ Later w wr') (fun vi _ => E.length + 1 - (intOf vi).toNat)
        case atStart => exact ⟨0, rfl, by omega, hownP, hlwP⟩
        case round =>
          clear hown hlw c1 c2 f2 hownP hlwP hnx hit
          obtain ⟨m, rfl, hm, hown, hlw⟩ := hrel
          by_cases hlt : m < E.length + 1
          · obtain ⟨y, hy⟩ : ∃ y, (E ++ [x])[m]? = some y := ⟨_, List.getElem?_eq_getElem (by simp; omega)⟩
            obtain ⟨c0, c2, c5, f5, hownP, hlwP⟩ := bad_set (by simp) hy hown hlw
            have hby := HB.out m y hy
            rw [hby] at hownP hlwP
            generalize y.rune = r at *
            generalize y.size = sz at *
            clear hby hy hown hlw
            have hm1 : (m : Int) < (E.length : Int) + 1 := by omega
            have hm2 : (m : Int) < ((E.length + 1 : Nat) : Int) := by omega
            cases hb : ((r : Int) == 65533) with
            | true =>
              have e : badOf r sz = ((sz : Int) == 1) := by simp [badOf, hb]
              rw [e] at hownP hlwP
              clear e
              go_wp2
              go_roundw
              case rel => exact ⟨m + 1, by go_num, by omega, hownP, hlwP⟩
              case measure => simp [intOf]; omega
            | false =>
              have e : badOf r sz = false := by simp [badOf, hb]
              rw [e] at hownP hlwP
              clear e
              go_wp2
              go_roundw
              case rel => exact ⟨m + 1, by go_num, by omega, hownP, hlwP⟩
              case measure => simp [intOf]; omega
          · have hrow := row_of_owns (w := wr) (base := w.heap.size + 1) (e := 101) (v := .slice (some ⟨gg, 0, none⟩) (E.length + 1) cap) (L := E ++ [x]) (by
              have h := hown
              rw [List.take_of_length_le (by simp; omega), List.drop_of_length_le (by simp; omega), List.map_nil, List.append_nil] at h
              rw [List.length_append]
              exact h)
            obtain ⟨a, cap', e1, hrow⟩ := hrow
            have hln : E.length + 1 = (spots s).length := by rw [← HD.out]; simp
            have h1 := (Value.slice.inj e1).1
            subst h1
            clear e1
            have HL : Hid (E.length + 1 = (spots s).length) := hln
            have HR : Hid (Row wr (some ⟨gg, 0, none⟩) (spots s)) := by rw [← HD.out]; exact hrow
            clear hln hrow
            go_wp2
            go_ret
            exact ⟨⟨_, _, by rw [← HL.out]; rfl, HR.out⟩, hlw⟩

end Go.Proofs.YtgkdejldpldkiaaDoor

namespace Go.Proofs.YtgkdejldpldkiaaDoor
open Go.RowKit
set_option linter.unusedVariables false

theorem tab_new (w : World) (T : List ByteArray) (t : TypeId) : Tab (w.alloc (.cells (T.map Value.string).toArray t)) w.heap.size T := by
  intro i x hx
  simp only [World.cell?, at_new]
  simp [hx]

set_option maxRecDepth 1000000 in
set_option maxHeartbeats 1000000 in
theorem regsRow_any (w : World) :
    Calls Tryd.prog 99 #[] w fun e w' => (∃ g, e = .returned (.slice (some ⟨g, 0, none⟩) 8 8) ∧ Tab w' g regsT) ∧ Later w w' := by
  go_enter Tryd.func99, Tryd.ntmps99
  go_wp2
  go_ret
  exact ⟨⟨_, rfl, tab_new w regsT _⟩, Later.alloc (Later.refl _) _⟩

set_option maxRecDepth 1000000 in
set_option maxHeartbeats 1000000 in
theorem opsRow_any (w : World) :
    Calls Tryd.prog 100 #[] w fun e w' => (∃ g, e = .returned (.slice (some ⟨g, 0, none⟩) 15 15) ∧ Tab w' g opsT) ∧ Later w w' := by
  go_enter Tryd.func100, Tryd.ntmps100
  go_wp2
  go_ret
  exact ⟨⟨_, rfl, tab_new w opsT _⟩, Later.alloc (Later.refl _) _⟩

set_option maxRecDepth 1000000 in
set_option maxHeartbeats 1000000 in
theorem jumpsRow_any (w : World) :
    Calls Tryd.prog 101 #[] w fun e w' => (∃ g, e = .returned (.slice (some ⟨g, 0, none⟩) 11 11) ∧ Tab w' g jumpsT) ∧ Later w w' := by
  go_enter Tryd.func101, Tryd.ntmps101
  go_wp2
  go_ret
  exact ⟨⟨_, rfl, tab_new w jumpsT _⟩, Later.alloc (Later.refl _) _⟩

set_option maxRecDepth 1000000 in
set_option maxHeartbeats 1000000 in
theorem index_any (T : List ByteArray) (g n : Nat) (hn : T.length = n) (hn' : n ≤ 100) (s : ByteArray) (w : World) (hT : Tab w g T) :
    Calls Tryd.prog 73 #[.slice (some ⟨g, 0, none⟩) n n, .string s] w fun e w' => e = .returned (.int .i64 (firstAt s T 0)) ∧ Later w w' := by
  have HT : Hid (Tab w g T) := hT
  have HN : Hid (T.length = n) := hn
  clear hT hn
  go_enter Tryd.func73, Tryd.ntmps73
  go_wp2
  go_loopw [5] (fun vi wr => ∃ (i : Nat), vi = .int .i64 (i : Nat) ∧ i ≤ n ∧ wr = w ∧ firstAt s (T.drop i) i = firstAt s T 0) (fun vi _ => n - (intOf vi).toNat)
  case atStart => exact ⟨0, rfl, by omega, rfl, rfl⟩
  case round =>
    obtain ⟨i, rfl, hi, rfl, hF⟩ := hrel
    by_cases h8 : i < n
    · obtain ⟨t, ht⟩ : ∃ t, T[i]? = some t := ⟨_, List.getElem?_eq_getElem (by rw [HN.out]; exact h8)⟩
      have hc := HT.out i t ht
      rw [first_drop s T i t ht] at hF
      clear ht
      by_cases he : (t.data.toList == s.data.toList) = true
      · have he' := same_true he
        rw [if_pos he] at hF
        have HE : Hid (firstAt s T 0 = (i : Int)) := hF.symm
        clear hF he
        go_wp2
        go_ret
        exact ⟨by simp only [HE.out]; rfl, Later.refl _⟩
      · have he' := same_false he
        rw [if_neg he] at hF
        have HG : Hid (firstAt s (T.drop (i + 1)) (i + 1) = firstAt s T 0) := hF
        clear hF he
        go_wp2
        go_roundw
        case rel => exact ⟨i + 1, by go_num, by omega, trivial, HG.out⟩
        case measure => simp [intOf]; omega
    · have HE : Hid (firstAt s T 0 = -1) := by
        show _ = _
        rw [← hF, List.drop_of_length_le (by rw [HN.out]; omega)]
        rfl
      clear hF
      go_wp2
      go_ret
      exact ⟨by simp only [HE.out]; rfl, Later.refl _⟩

theorem optext_jump (cond : Int) (h : ¬ (1 ≤ cond ∧ cond ≤ 10)) : textAt jumpsT cond = ⟨#[]⟩ := by
  unfold textAt
  split
  · rename_i h'
    have : (jumpsT.length : Int) = 11 := rfl
    obtain rfl : cond = 0 := by omega
    rfl
  · rfl

theorem optext_op (op : Int) (h : ¬ (1 ≤ op ∧ op ≤ 14)) : textAt opsT op = ⟨#[]⟩ := by
  unfold textAt
  split
  · rename_i h'
    have : (opsT.length : Int) = 15 := rfl
    obtain rfl : op = 0 := by omega
    rfl
  · rfl

theorem word_said (s : ByteArray) : wordF s = (!s.data.toList.isEmpty && (s.data.toList == symT.data.toList || s.data.toList == threadT.data.toList || s.data.toList == lockT.data.toList || decide (0 ≤ firstAt s regsT 0) || decide (0 < firstAt s opsT 0) || decide (0 < firstAt s jumpsT 0))) := by
  by_cases h0 : s.data.toList.isEmpty = true
  · have e : s.data.toList = [] := List.isEmpty_iff.1 h0
    have es : s = ⟨#[]⟩ := by
      apply ByteArray.ext
      exact Array.toList_eq_nil_iff.1 e
    subst es
    decide
  · have p1 := ops_pos s h0
    have p2 := jumps_pos s h0
    unfold wordF regF opF
    rw [if_neg h0]
    simp only [← p1, ← p2, Bool.eq_false_iff.2 h0]
    generalize firstAt s regsT 0 = a
    generalize firstAt s opsT 0 = b
    generalize firstAt s jumpsT 0 = c
    by_cases ha : 0 ≤ a <;> by_cases hb : 0 ≤ b <;> by_cases hc : 0 ≤ c <;> simp [ha, hb, hc]

set_option maxRecDepth 1000000 in
set_option maxHeartbeats 1000000 in
theorem refWord_any (s : ByteArray) (w : World) :
    Calls Tryd.prog 69 #[.string s] w fun e w' => e = .returned (.bool (wordF s)) ∧ Later w w' := by
  rw [word_said]
  have cR := fun g w' h => index_any regsT g 8 rfl (by omega) s w' h
  have cO := fun g w' h => index_any opsT g 15 rfl (by omega) s w' h
  have cJ := fun g w' h => index_any jumpsT g 11 rfl (by omega) s w' h
  generalize firstAt s regsT 0 = a at *
  generalize firstAt s opsT 0 = b at *
  generalize firstAt s jumpsT 0 = c at *
  cases h0 : s.data.toList.isEmpty with
  | true =>
    have h0' : s.toList.isEmpty = true := by rw [ByteArray.toList_eq]; exact h0
    have h0'' : s.toList = [] := List.isEmpty_iff.1 h0'
    clear h0 cR cO cJ
    go_enter Tryd.func69, Tryd.ntmps69
    go_wp2
    go_ret
    exact ⟨by simp, Later.refl _⟩
  | false =>
    have h0' : s.toList.isEmpty = false := by rw [ByteArray.toList_eq]; exact h0
    have h0'' : ¬ s.toList = [] := fun h => by rw [h] at h0'; cases h0'
    clear h0
    cases h1 : (s.data.toList == symT.data.toList) with
    | true =>
      have e1 : (s.toList == [115, 121, 109]) = true := by rw [ByteArray.toList_eq]; exact h1
      clear h1 cR cO cJ
      go_enter Tryd.func69, Tryd.ntmps69
      go_wp2
      go_ret
      exact ⟨by simp, Later.refl _⟩
    | false =>
      have e1 : (s.toList == [115, 121, 109]) = false := by rw [ByteArray.toList_eq]; exact h1
      clear h1
      cases h2 : (s.data.toList == threadT.data.toList) with
      | true =>
        have e2 : (s.toList == [116, 104, 114, 101, 97, 100]) = true := by rw [ByteArray.toList_eq]; exact h2
        clear h2 cR cO cJ
        go_enter Tryd.func69, Tryd.ntmps69
        go_wp2
        go_ret
        exact ⟨by simp, Later.refl _⟩
      | false =>
        have e2 : (s.toList == [116, 104, 114, 101, 97, 100]) = false := by rw [ByteArray.toList_eq]; exact h2
        clear h2
        cases h3 : (s.data.toList == lockT.data.toList) with
        | true =>
          have e3 : (s.toList == [108, 111, 99, 107]) = true := by rw [ByteArray.toList_eq]; exact h3
          clear h3 cR cO cJ
          go_enter Tryd.func69, Tryd.ntmps69
          go_wp2
          go_ret
          exact ⟨by simp, Later.refl _⟩
        | false =>
          have e3 : (s.toList == [108, 111, 99, 107]) = false := by rw [ByteArray.toList_eq]; exact h3
          clear h3
          by_cases ha : 0 ≤ a
          · clear cO cJ
            go_enter Tryd.func69, Tryd.ntmps69
            go_wp2_with (first
              | (go_at_call 99; refine (regsRow_any _).mono ?_; rintro e w1 ⟨⟨g, rfl, hT1⟩, hl1⟩)
              | (go_at_call 73; refine (cR _ _ hT1).mono ?_; rintro e w2 ⟨rfl, hl2⟩; have L2 := Later.trans hl1 hl2))
            go_ret
            exact ⟨by simp [ha], L2⟩
          · by_cases hb : 0 < b
            · clear cJ
              go_enter Tryd.func69, Tryd.ntmps69
              go_wp2_with (first
                | (go_at_call 99; refine (regsRow_any _).mono ?_; rintro e w1 ⟨⟨g, rfl, hT1⟩, hl1⟩)
                | (go_at_call 100; refine (opsRow_any _).mono ?_; rintro e w3 ⟨⟨g3, rfl, hT3⟩, hl3⟩; have L3 := Later.trans L2 hl3)
                | (go_at_call 73; apply Calls.mono; (focus (with_reducible (exact cO _ _ hT3))); rintro e w4 ⟨rfl, hl4⟩; have L4 := Later.trans L3 hl4)
                | (go_at_call 73; apply Calls.mono; (focus (with_reducible (exact cR _ _ hT1))); rintro e w2 ⟨rfl, hl2⟩; have L2 := Later.trans hl1 hl2))
              go_ret
              exact ⟨by simp [hb], L4⟩
            · by_cases hc : 0 < c
              all_goals go_enter Tryd.func69, Tryd.ntmps69
              all_goals go_wp2_with (first
                | (go_at_call 99; refine (regsRow_any _).mono ?_; rintro e w1 ⟨⟨g, rfl, hT1⟩, hl1⟩)
                | (go_at_call 100; refine (opsRow_any _).mono ?_; rintro e w3 ⟨⟨g3, rfl, hT3⟩, hl3⟩; have L3 := Later.trans L2 hl3)
                | (go_at_call 101; refine (jumpsRow_any _).mono ?_; rintro e w5 ⟨⟨g5, rfl, hT5⟩, hl5⟩; have L5 := Later.trans L4 hl5)
                | (go_at_call 73; apply Calls.mono; (focus (with_reducible (exact cJ _ _ hT5))); rintro e w6 ⟨rfl, hl6⟩; have L6 := Later.trans L5 hl6)
                | (go_at_call 73; apply Calls.mono; (focus (with_reducible (exact cO _ _ hT3))); rintro e w4 ⟨rfl, hl4⟩; have L4 := Later.trans L3 hl4)
                | (go_at_call 73; apply Calls.mono; (focus (with_reducible (exact cR _ _ hT1))); rintro e w2 ⟨rfl, hl2⟩; have L2 := Later.trans hl1 hl2))
              all_goals go_ret
              all_goals exact ⟨by simp [hc], L6⟩

end Go.Proofs.YtgkdejldpldkiaaDoor

set_option linter.unusedVariables false
namespace Go.Proofs.YtgkdejldpldkiaaDoor
open Go.Lib

/-- Whether a number may stand in a name. -/
def standF (r : Int) (first : Bool) : Bool := letterF r || (!first && digitF r)

/-- A rune's number, and whether it is bad. -/
def rb (s : ByteArray) : List (Nat × Bool) := (spots s).map fun x => (x.rune, x.bad)

/-- Each may stand in a name: the first one, if it is said to be the first. -/
def standAll : List (Nat × Bool) → Bool → Bool
  | [], _ => true
  | x :: M, first => standF x.1 first && standAll M false

def noneBad (M : List (Nat × Bool)) : Bool := M.all fun x => !x.2

/-- One to sixteen. -/
def fewRunes (n : Nat) : Bool := decide (0 < n) && decide (n ≤ 16)

/-- Whether a text may be a name. -/
def rightF (s : ByteArray) : Bool := fewRunes (rb s).length && standAll (rb s) true && noneBad (rb s) && !wordF s

/-- The program's loop: so many are counted already. -/
def shapedGo : List Sp → Nat → Bool
  | [], n => decide (0 < n)
  | x :: L, n => if 16 < n + 1 then false else if standF x.rune ((x.at_ : Int) == 0) = true then shapedGo L (n + 1) else false

theorem shapedGo_eq : ∀ (L : List Sp) (n : Nat) (first : Bool), n ≤ 16 → (∀ x, L.head? = some x → ((x.at_ : Int) == 0) = first) → (∀ x ∈ L.tail, ((x.at_ : Int) == 0) = false) →
    shapedGo L n = (fewRunes (n + L.length) && standAll (L.map fun x => (x.rune, x.bad)) first)
  | [], n, first, hn, _, _ => by
    simp [shapedGo, standAll, fewRunes, hn]
  | x :: L, n, first, hn, h1, h2 => by
    have hx := h1 x rfl
    have ih := shapedGo_eq L (n + 1) false
    simp only [shapedGo, List.map_cons, standAll, hx, List.length_cons]
    by_cases hc : 16 < n + 1
    · have : fewRunes (n + (L.length + 1)) = false := by simp [fewRunes]; omega
      rw [if_pos hc, this]
      rfl
    · rw [if_neg hc]
      by_cases hs : standF (x.rune : Int) first = true
      · rw [if_pos hs, ih (by omega) (fun y hy => h2 y (by cases L with | nil => simp at hy | cons z L => simp at hy; subst hy; simp)) (fun y hy => h2 y (List.mem_of_mem_tail hy)), hs]
        simp [Nat.add_comm, Nat.add_left_comm]
      · rw [if_neg hs, Bool.eq_false_iff.2 hs]
        simp

/-- Only the first rune stands at byte 0. -/
theorem spots_head (s : ByteArray) (x : Sp) (h : (spots s).head? = some x) : ((x.at_ : Int) == 0) = true := by
  obtain ⟨h1, _⟩ := spots_at s 0 x (by rw [List.head?_eq_getElem?] at h; exact h)
  rw [h1]; simp [placeOf]

theorem spots_tail (s : ByteArray) (x : Sp) (h : x ∈ (spots s).tail) : ((x.at_ : Int) == 0) = false := by
  obtain ⟨i, hi⟩ := List.getElem?_of_mem h
  rw [List.getElem?_tail] at hi
  obtain ⟨h1, _⟩ := spots_at s (i + 1) x hi
  have h2 := (place_le s (i + 1)).2.2
  have h3 : ((spots s).take (i + 1)).length = i + 1 := by
    rw [List.length_take]
    have := (List.getElem?_eq_some_iff.1 hi).1
    omega
  simp; omega

theorem shapedGo_spots (s : ByteArray) : shapedGo (spots s) 0 = (fewRunes (rb s).length && standAll (rb s) true) := by
  rw [shapedGo_eq (spots s) 0 true (by omega) (spots_head s) (spots_tail s)]
  simp [rb]

/-! ### valid texts -/
theorem valid_from (s : ByteArray) : ∀ (f pos l c : Nat), s.size ≤ pos + f → validD (s.data.toList.drop pos) = (spotsFrom s f pos l c).all fun x => !x.bad
  | 0, pos, l, c => fun hf => by
    have h : ¬ pos < s.size := by omega
    rw [spots_end s 0 pos l c h, List.drop_of_length_le (by rw [← size_eq]; omega)]
    rfl
  | f + 1, pos, l, c => fun hf => by
    by_cases h : pos < s.size
    · have hd := decode_pos s pos h
      have hne : s.data.toList.drop pos ≠ [] := by
        intro e
        have := congrArg List.length e
        rw [List.length_drop, ← size_eq] at this
        simp at this
        omega
      rw [validD_step _ hne, decodeL_drop, spots_more s f pos l c h, List.drop_drop, List.all_cons]
      by_cases hb : (Utf8.decode s pos).1 = 65533 ∧ (Utf8.decode s pos).2 = 1
      · rw [if_pos hb]
        simp [spotAt, badOf, hb.1, hb.2]
      · rw [if_neg hb, valid_from s f (pos + (Utf8.decode s pos).2) (nl l (Utf8.decode s pos).1) (nc c (Utf8.decode s pos).1) (by omega)]
        have : (spotAt s pos l c).bad = false := by
          show badOf _ _ = false
          rw [Bool.eq_false_iff]
          intro hh
          exact hb (badOf_true hh)
        rw [this]
        rfl
    · rw [spots_end s (f + 1) pos l c h, List.drop_of_length_le (by rw [← size_eq]; omega)]
      rfl

theorem valid_rb (s : ByteArray) : validD s.data.toList = noneBad (rb s) := by
  have := valid_from s s.size 0 1 1 (by omega)
  rw [List.drop_zero] at this
  rw [this]
  simp [noneBad, rb, spots, List.all_map, Function.comp_def]

/-! ### the document's own loop -/
def refGo : List Sp → Nat → Bool
  | [], _ => true
  | x :: L, i => if x.bad = true then false else if standF x.rune ((i : Int) == 0) = true then refGo L (i + 1) else false

theorem refGo_eq : ∀ (L : List Sp) (i : Nat), refGo L i = (standAll (L.map fun x => (x.rune, x.bad)) ((i : Int) == 0) && noneBad (L.map fun x => (x.rune, x.bad)))
  | [], i => rfl
  | x :: L, i => by
    have ih := refGo_eq L (i + 1)
    have e : (((i + 1 : Nat) : Int) == 0) = false := by simp; omega
    rw [e] at ih
    simp only [refGo, List.map_cons, standAll, noneBad, List.all_cons]
    rw [ih]
    simp only [noneBad]
    cases x.bad <;> cases standF (x.rune : Int) ((i : Int) == 0) <;> simp

theorem refGo_spots (s : ByteArray) : refGo (spots s) 0 = (standAll (rb s) true && noneBad (rb s)) := refGo_eq (spots s) 0

theorem rb_length (s : ByteArray) : (rb s).length = (spots s).length := by simp [rb]

theorem rb_le (s : ByteArray) : (rb s).length ≤ s.size := by rw [rb_length]; exact (place_all s).2.2

/-! ### two halves -/
/-- What is read well is read so with more behind it. -/
theorem dN_more (n m b0 b1 b2 b3 c1 c2 c3 : Nat) (hm : n ≤ m) (h1 : 1 < n → c1 = b1) (h2 : 2 < n → c2 = b2) (h3 : 3 < n → c3 = b3)
    (hb : ¬ ((decodeN n b0 b1 b2 b3).1 = 65533 ∧ (decodeN n b0 b1 b2 b3).2 = 1)) : decodeN m b0 c1 c2 c3 = decodeN n b0 b1 b2 b3 := by
  unfold decodeN at hb ⊢
  by_cases k0 : b0 < 128
  · rw [if_pos k0, if_pos k0]
  · rw [if_neg k0] at hb ⊢
    rw [if_neg k0]
    by_cases k1 : b0 / 32 = 6 ∧ (1 < n ∧ b1 / 64 = 2)
    · have := h1 k1.2.1; subst this
      rw [if_pos k1, if_pos ⟨k1.1, by omega, k1.2.2⟩]
    · rw [if_neg k1] at hb ⊢
      by_cases k2 : b0 / 16 = 14 ∧ (1 < n ∧ b1 / 64 = 2) ∧ (2 < n ∧ b2 / 64 = 2)
      · have := h1 k2.2.1.1; subst this
        have := h2 k2.2.2.1; subst this
        rw [if_pos k2, if_neg (by omega), if_pos ⟨k2.1, ⟨by omega, k2.2.1.2⟩, by omega, k2.2.2.2⟩]
      · rw [if_neg k2] at hb ⊢
        by_cases k3 : b0 / 8 = 30 ∧ (1 < n ∧ b1 / 64 = 2) ∧ (2 < n ∧ b2 / 64 = 2) ∧ (3 < n ∧ b3 / 64 = 2)
        · have := h1 k3.2.1.1; subst this
          have := h2 k3.2.2.1.1; subst this
          have := h3 k3.2.2.2.1; subst this
          rw [if_pos k3, if_neg (by omega), if_neg (by omega), if_pos ⟨k3.1, ⟨by omega, k3.2.1.2⟩, ⟨by omega, k3.2.2.1.2⟩, by omega, k3.2.2.2.2⟩]
        · rw [if_neg k3] at hb
          exact absurd ⟨rfl, rfl⟩ hb

theorem app_data (s t : ByteArray) : (s ++ t).data.toList = s.data.toList ++ t.data.toList := by
  rw [ByteArray.data_append, Array.toList_append]

theorem decode_app_left (s t : ByteArray) (pos : Nat) (h : pos < s.size) (hb : ¬ ((Utf8.decode s pos).1 = 65533 ∧ (Utf8.decode s pos).2 = 1)) : Utf8.decode (s ++ t) pos = Utf8.decode s pos := by
  rw [decode_N] at hb
  rw [decode_N, decode_N, app_data]
  have hs := size_eq s
  have e : ∀ k, pos + k < s.data.toList.length → (s.data.toList ++ t.data.toList).getD (pos + k) 0 = s.data.toList.getD (pos + k) 0 := fun k hk => by
    rw [List.getD_eq_getElem?_getD, List.getD_eq_getElem?_getD, List.getElem?_append_left hk]
  have e0 := e 0 (by omega)
  rw [Nat.add_zero] at e0
  rw [e0]
  exact dN_more _ _ _ _ _ _ _ _ _ (by rw [List.length_append]; omega) (fun hk => by rw [e 1 (by omega)]) (fun hk => by rw [e 2 (by omega)]) (fun hk => by rw [e 3 (by omega)]) hb

theorem decode_app_right (s t : ByteArray) (pos : Nat) : Utf8.decode (s ++ t) (s.size + pos) = Utf8.decode t pos := by
  rw [decode_N, decode_N, app_data, List.length_append, size_eq s]
  have e : ∀ k, (s.data.toList ++ t.data.toList).getD (s.data.toList.length + k) 0 = t.data.toList.getD k 0 := fun k => by
    rw [List.getD_eq_getElem?_getD, List.getD_eq_getElem?_getD, List.getElem?_append_right (by omega), Nat.add_sub_cancel_left]
  rw [e, Nat.add_assoc, e, Nat.add_assoc, e, Nat.add_assoc, e, show s.data.toList.length + t.data.toList.length - (s.data.toList.length + pos) = t.data.toList.length - pos by omega]

/-- The runes' rb from a place on. -/
def rbFrom (s : ByteArray) (f pos : Nat) : List (Nat × Bool) := (spotsFrom s f pos 1 1).map fun x => (x.rune, x.bad)

theorem rb_lines (s : ByteArray) : ∀ (f pos l c l' c' : Nat), (spotsFrom s f pos l c).map (fun x => (x.rune, x.bad)) = (spotsFrom s f pos l' c').map fun x => (x.rune, x.bad)
  | 0, _, _, _, _, _ => rfl
  | f + 1, pos, l, c, l', c' => by
    by_cases h : pos < s.size
    · rw [spots_more s f pos l c h, spots_more s f pos l' c' h, List.map_cons, List.map_cons, rb_lines s f _ _ _ (nl l' (Utf8.decode s pos).1) (nc c' (Utf8.decode s pos).1)]
      rfl
    · rw [spots_end _ _ _ _ _ h, spots_end _ _ _ _ _ h]

theorem rbFrom_more (s : ByteArray) (f pos : Nat) (h : pos < s.size) : rbFrom s (f + 1) pos = ((Utf8.decode s pos).1, badOf (Utf8.decode s pos).1 (Utf8.decode s pos).2) :: rbFrom s f (pos + (Utf8.decode s pos).2) := by
  unfold rbFrom
  rw [spots_more s f pos 1 1 h, List.map_cons, rb_lines s f _ _ _ 1 1]
  rfl

theorem rbFrom_end (s : ByteArray) (f pos : Nat) (h : ¬ pos < s.size) : rbFrom s f pos = [] := by
  unfold rbFrom
  rw [spots_end _ _ _ _ _ h]
  rfl

theorem rbFrom_fuel (s : ByteArray) (f g pos : Nat) (hf : s.size ≤ pos + f) (hg : s.size ≤ pos + g) : rbFrom s f pos = rbFrom s g pos := by
  unfold rbFrom
  rw [spots_fuel s f g pos 1 1 hf hg]

theorem rb_right (s t : ByteArray) : ∀ (f pos : Nat), rbFrom (s ++ t) f (s.size + pos) = rbFrom t f pos
  | 0, pos => rfl
  | f + 1, pos => by
    by_cases h : pos < t.size
    · rw [rbFrom_more _ _ _ (by rw [ByteArray.size_append]; omega), rbFrom_more _ _ _ h, decode_app_right, Nat.add_assoc, rb_right s t f]
    · rw [rbFrom_end _ _ _ h, rbFrom_end _ _ _ (by rw [ByteArray.size_append]; omega)]

theorem rb_left (s t : ByteArray) : ∀ (f pos : Nat), s.size ≤ pos + f → pos ≤ s.size → (∀ x ∈ rbFrom s f pos, x.2 = false) → ∀ g, s.size + t.size ≤ pos + g →
    rbFrom (s ++ t) g pos = rbFrom s f pos ++ rb t
  | 0, pos => fun hf hp hx g hg => by
    obtain rfl : pos = s.size := by omega
    rw [rbFrom_end s 0 s.size (by omega), List.nil_append]
    have := rb_right s t g 0
    rw [Nat.add_zero] at this
    rw [this]
    exact rbFrom_fuel t g t.size 0 (by omega) (by omega)
  | f + 1, pos => fun hf hp hx g hg => by
    by_cases h : pos < s.size
    · obtain ⟨g, rfl⟩ : ∃ g', g = g' + 1 := ⟨g - 1, by omega⟩
      have hd := decode_pos s pos h
      rw [rbFrom_more s f pos h] at hx ⊢
      have hb : ¬ ((Utf8.decode s pos).1 = 65533 ∧ (Utf8.decode s pos).2 = 1) := badOf_false (hx _ (List.mem_cons_self ..))
      rw [rbFrom_more _ g pos (by rw [ByteArray.size_append]; omega), decode_app_left s t pos h hb, List.cons_append,
        rb_left s t f (pos + (Utf8.decode s pos).2) (by omega) (by omega) (fun x hx' => hx x (List.mem_cons_of_mem _ hx')) g (by omega)]
    · obtain rfl : pos = s.size := by omega
      rw [rbFrom_end s (f + 1) s.size (by omega), List.nil_append]
      have := rb_right s t g 0
      rw [Nat.add_zero] at this
      rw [this]
      exact rbFrom_fuel t g t.size 0 (by omega) (by omega)

/-- The runes of two texts, one behind the other. -/
theorem rb_app (s t : ByteArray) (h : noneBad (rb s) = true) : rb (s ++ t) = rb s ++ rb t := by
  have hx : ∀ x ∈ rbFrom s s.size 0, x.2 = false := fun x hx => by
    have := List.all_eq_true.1 h x hx
    simpa using this
  exact rb_left s t s.size 0 (by omega) (by omega) hx (s ++ t).size (by rw [ByteArray.size_append]; omega)

theorem standAll_app : ∀ (A B : List (Nat × Bool)) (first : Bool), standAll (A ++ B) first = (standAll A first && standAll B (first && A.isEmpty))
  | [], B, first => by simp [standAll]
  | x :: A, B, first => by
    have ih := standAll_app A B false
    simp only [List.cons_append, standAll, ih, List.isEmpty_cons, Bool.and_false, Bool.false_and, Bool.and_assoc]

theorem noneBad_app (A B : List (Nat × Bool)) : noneBad (A ++ B) = (noneBad A && noneBad B) := by simp [noneBad]

end Go.Proofs.YtgkdejldpldkiaaDoor

set_option linter.unusedVariables false
namespace Go.Proofs.YtgkdejldpldkiaaDoor
open Go.RowKit

theorem refLetter_later (r : Int) (w : World) : Calls Tryd.prog 70 #[.int .i32 r] w fun e w' => e = .returned (.bool (letterF r)) ∧ Later w w' :=
  (refLetter_any r w).mono fun e w' h => ⟨h.1, by rw [h.2]; exact Later.refl _⟩
theorem refDigit_later (r : Int) (w : World) : Calls Tryd.prog 71 #[.int .i32 r] w fun e w' => e = .returned (.bool (digitF r)) ∧ Later w w' :=
  (refDigit_any r w).mono fun e w' h => ⟨h.1, by rw [h.2]; exact Later.refl _⟩

theorem refGo_drop (L : List Sp) (i : Nat) (x : Sp) (h : L[i]? = some x) : refGo (L.drop i) i = if x.bad = true then false else if standF x.rune ((i : Int) == 0) = true then refGo (L.drop (i + 1)) (i + 1) else false := by
  obtain ⟨hi, hx⟩ := List.getElem?_eq_some_iff.1 h
  rw [List.drop_eq_getElem_cons hi, hx]
  rfl

theorem refRight_split (s : ByteArray) : rightF s = (decide (0 < (spots s).length) && decide ((spots s).length ≤ 16) && !wordF s && refGo (spots s) 0) := by
  rw [refGo_spots, ← rb_length]
  simp only [rightF, fewRunes]
  generalize decide (0 < (rb s).length) = a
  generalize decide ((rb s).length ≤ 16) = b
  generalize standAll (rb s) true = c
  generalize noneBad (rb s) = d
  generalize wordF s = e
  cases a <;> cases b <;> cases c <;> cases d <;> cases e <;> rfl

set_option maxRecDepth 1000000 in
set_option maxHeartbeats 1000000 in
theorem refRight_any (s : ByteArray) (hsz : s.size ≤ 1000000) (w : World) :
    Calls Tryd.prog 33 #[.string s] w fun e w' => e = .returned (.bool (rightF s)) ∧ Later w w' := by
  rw [refRight_split]
  have c29 := fun w' => refSpots_any s hsz w'
  have c14 := fun w' => refWord_any s w'
  have hn : (spots s).length ≤ 1000000 := by have := (place_all s).2.2; omega
  generalize spots s = L at *
  generalize wordF s = wd at *
  by_cases h1 : (L.length : Int) < 1
  · have e : decide (0 < L.length) = false := decide_eq_false (by omega)
    rw [e]
    go_enter Tryd.func33, Tryd.ntmps33
    go_wp2_with (go_at_call 68; refine (c29 _).mono ?_; rintro e w1 ⟨⟨a, cap, rfl, hrow⟩, hl1⟩; clear hrow)
    go_ret
    exact ⟨by simp, hl1⟩
  · have e1 : decide (0 < L.length) = true := decide_eq_true (by omega)
    rw [e1]
    by_cases h2 : (16 : Int) < (L.length : Int)
    · have e2 : decide (L.length ≤ 16) = false := decide_eq_false (by omega)
      rw [e2]
      go_enter Tryd.func33, Tryd.ntmps33
      go_wp2_with (go_at_call 68; refine (c29 _).mono ?_; rintro e w1 ⟨⟨a, cap, rfl, hrow⟩, hl1⟩; clear hrow)
      go_ret
      exact ⟨by simp, hl1⟩
    · have e2 : decide (L.length ≤ 16) = true := decide_eq_true (by omega)
      rw [e2]
      cases wd with
      | true =>
        go_enter Tryd.func33, Tryd.ntmps33
        go_wp2_with (first
          | (go_at_call 68; refine (c29 _).mono ?_; rintro e w1 ⟨⟨a, cap, rfl, hrow⟩, hl1⟩; clear hrow)
          | (go_at_call 69; refine (c14 _).mono ?_; rintro e w2 ⟨rfl, hl2⟩; have L2 := Later.trans hl1 hl2))
        go_ret
        exact ⟨by simp, L2⟩
      | false =>
        rw [show (true && true && !false && refGo L 0) = refGo L 0 from rfl]
        clear e1 e2 hsz
        go_enter Tryd.func33, Tryd.ntmps33
        go_wp2_with (first
          | (go_at_call 68; refine (c29 _).mono ?_; rintro e w1 ⟨⟨a, cap, rfl, hrow⟩, hl1⟩)
          | (go_at_call 69; refine (c14 _).mono ?_; rintro e w2 ⟨rfl, hl2⟩; have L2 := Later.trans hl1 hl2; have hrow2 := hrow.later hl2; clear hrow))
        go_loopw [4] (fun vi wr => ∃ (i : Nat), vi = .int .i64 (i : Nat) ∧ i ≤ L.length ∧ Later w wr ∧ Row wr a L ∧ Hid (refGo (L.drop i) i = refGo L 0)) (fun vi _ => L.length - (intOf vi).toNat)
        case atStart => exact ⟨0, rfl, by omega, L2, hrow2, rfl⟩
        case round =>
          clear hrow2 hl1 hl2 L2 c29 c14
          obtain ⟨i, rfl, hi, hlw, hrow, HS⟩ := hrel
          by_cases hlt : i < L.length
          · obtain ⟨x, hx⟩ : ∃ x, L[i]? = some x := ⟨_, List.getElem?_eq_getElem hlt⟩
            have hs := HS.out
            rw [refGo_drop L i x hx] at hs
            obtain ⟨gg, rfl, p0, -, -, -, -, p5⟩ := hrow.get hx
            have HR : Hid (Row wr (some ⟨gg, 0, none⟩) L) := hrow
            clear hrow HS hx
            generalize x.rune = r at *
            generalize x.bad = bd at *
            have hi1 : (i : Int) < (L.length : Int) := by omega
            cases bd with
            | true =>
              have HE : Hid (refGo L 0 = false) := hs.symm
              clear hs
              go_wp2
              go_ret
              exact ⟨by simp only [HE.out]; rfl, hlw⟩
            | false =>
              rw [if_neg (by decide)] at hs
              have c30 := fun w' => refLetter_later (r : Nat) w'
              have c31 := fun w' => refDigit_later (r : Nat) w'
              unfold standF at hs
              generalize letterF (r : Nat) = le at *
              generalize digitF (r : Nat) = di at *
              cases le with
              | true =>
                have HS3 : Hid (refGo (L.drop (i + 1)) (i + 1) = refGo L 0) := by
                  show _ = _; simpa using hs
                clear hs
                go_wp2_with (first
                  | (go_at_call 70; refine (c30 _).mono ?_; rintro e w2 ⟨rfl, hl2⟩; have q0 := cell_later p0 hl2; have q5 := cell_later p5 hl2; have HR2 : Hid (Row w2 (some ⟨gg, 0, none⟩) L) := HR.out.later hl2; have L2 := Later.trans hlw hl2))
                go_roundw
                case rel => exact ⟨i + 1, by go_num, by omega, L2, HR2.out, HS3⟩
                case measure => simp [intOf]; omega
              | false =>
                by_cases h0 : i = 0
                · subst h0
                  have HE : Hid (refGo L 0 = false) := by
                    show _ = _
                    rw [← hs]; simp
                  clear hs
                  go_wp2_with (first
                    | (go_at_call 70; refine (c30 _).mono ?_; rintro e w2 ⟨rfl, hl2⟩; have q0 := cell_later p0 hl2; have q5 := cell_later p5 hl2; have L2 := Later.trans hlw hl2))
                  go_ret
                  exact ⟨by simp only [HE.out]; rfl, L2⟩
                · have h0' : ((i : Int) == 0) = false := by simp; omega
                  rw [h0'] at hs
                  cases di with
                  | true =>
                    have HS3 : Hid (refGo (L.drop (i + 1)) (i + 1) = refGo L 0) := by
                      show _ = _; simpa using hs
                    clear hs
                    go_wp2_with (first
                      | (go_at_call 70; refine (c30 _).mono ?_; rintro e w2 ⟨rfl, hl2⟩; have q0 := cell_later p0 hl2; have q5 := cell_later p5 hl2; have HR2 : Hid (Row w2 (some ⟨gg, 0, none⟩) L) := HR.out.later hl2; have L2 := Later.trans hlw hl2)
                      | (go_at_call 71; refine (c31 _).mono ?_; rintro e w3 ⟨rfl, hl3⟩; have HR3 : Hid (Row w3 (some ⟨gg, 0, none⟩) L) := HR2.out.later hl3; have L3 := Later.trans L2 hl3))
                    go_roundw
                    case rel => exact ⟨i + 1, by go_num, by omega, L3, HR3.out, HS3⟩
                    case measure => simp [intOf]; omega
                  | false =>
                    have HE : Hid (refGo L 0 = false) := by
                      show _ = _
                      rw [← hs]; simp
                    clear hs
                    go_wp2_with (first
                      | (go_at_call 70; refine (c30 _).mono ?_; rintro e w2 ⟨rfl, hl2⟩; have q0 := cell_later p0 hl2; have q5 := cell_later p5 hl2; have L2 := Later.trans hlw hl2)
                      | (go_at_call 71; refine (c31 _).mono ?_; rintro e w3 ⟨rfl, hl3⟩; have L3 := Later.trans L2 hl3))
                    go_ret
                    exact ⟨by simp only [HE.out]; rfl, L3⟩
          · have HE : Hid (refGo L 0 = true) := by
              show _ = _
              rw [← HS.out, List.drop_of_length_le (by omega)]
              rfl
            clear HS
            go_wp2
            go_ret
            exact ⟨by simp only [HE.out]; rfl, hlw⟩

end Go.Proofs.YtgkdejldpldkiaaDoor
