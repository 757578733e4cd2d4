/-
  What the document's own Spots returns: the same row of the text's runes. Nothing that was in memory turns. Conditions: the text has at most 1000000 bytes.
-/
import Derived.Test.YtginggelbfbcfaaDoorRow
set_option linter.unusedVariables false
namespace Go.Proofs.YtginggelbfbcfaaDoor
open Go.RowKit

theorem Tryd.info68 : (Tryd.prog.info? 68).map (fun i => (i.zero, i.size, i.bytes)) = some (some (.agg #[.int .i32 0, .int .i64 0, .int .i64 0, .int .i64 0, .int .i64 0, .bool false]), 6, 48) := by kernel_rfl

/-- Not told yet whether it is bad. -/
def Sp.unbad (x : Sp) : Sp := ⟨x.rune, x.at_, x.size, x.line, x.col, false⟩
/-- Not told yet how long it is. -/
def Sp.bare (x : Sp) : Sp := ⟨x.rune, x.at_, 0, x.line, x.col, false⟩

/-- All but the last one are told how long they are. -/
def raw (D : List Sp) : List Sp := D.dropLast.map Sp.unbad ++ (D.getLast?.toList.map Sp.bare)

theorem raw_nil : raw [] = [] := rfl
theorem raw_snoc (E : List Sp) (x : Sp) : raw (E ++ [x]) = E.map Sp.unbad ++ [x.bare] := by simp [raw]
theorem raw_length (E : List Sp) (x : Sp) : (raw (E ++ [x])).length = E.length + 1 := by rw [raw_snoc]; simp

theorem flat_set (A : List Sp) (x y : Sp) (R : List Sp) (k : Nat) (u : Value) (hk : k < 6) (h : x.cells.set k u = y.cells) :
    (flat (A ++ x :: R)).set (A.length * 6 + k) u = flat (A ++ y :: R) := by
  have e : ∀ z : Sp, flat (A ++ z :: R) = flat A ++ (z.cells ++ flat R) := fun z => by rw [flat_append]; rfl
  rw [e, e, List.set_append_right _ _ (by rw [flat_length]; omega), flat_length, show A.length * 6 + k - A.length * 6 = k by omega, List.set_append_left _ _ (by simp [Sp.cells]; omega), h]

/-- Behind an append: the new row, the reader of the text and what was there. -/
theorem after_append2 {w w2 w3 : World} {s : ByteArray} {pos : Nat} {o : Obj} {v v' : Value} {n m : Nat} {xs ys : List Value}
    (hit : w2.heap[w.heap.size]? = some (.stringIter s pos)) (hlw : Later w w2)
    (hown : w2.ownsRow (w.heap.size + 1) 68 6 v n xs) (hg : (w2.alloc o).grownBy w3 v.ownBlock) (hown' : w3.ownsRow (w.heap.size + 1) 68 6 v' m ys) :
    Aside (w3.ownsRow (w.heap.size + 1) 68 6 v' m ys ∧ w3.heap[w.heap.size]? = some (.stringIter s pos) ∧ Later w w3) := by
  have hlt := lt_of_block hit
  refine ⟨hown', ?_, ?_⟩
  · rw [hg.block w.heap.size (by simp; omega) (fun h => by have := (hown.lt _ h.symm).1; omega), Below.heap_alloc _ _ _ hlt]; exact hit
  · exact Below.grown (Below.alloc hlw hlw.size _) hg (by have := hlw.size; simp; omega) (fun j hj => by have := (hown.lt _ hj).1; omega)

theorem nil_or_snoc {α : Type} (D : List α) : D = [] ∨ ∃ E x, D = E ++ [x] := by
  rcases List.eq_nil_or_concat D with h | ⟨E, x, h⟩
  · exact Or.inl h
  · exact Or.inr ⟨E, x, by rw [h, List.concat_eq_append]⟩

theorem six_at (w : World) (n : Nat) (hn : w.heap.size = n) (a b c d e f : Value) (t : TypeId) : ∀ j u, [a, b, c, d, e, f][j]? = some u → (w.alloc (.cells #[a, b, c, d, e, f] t)).cell? ((⟨n, 0, none⟩ : Addr).add j) = some u := by
  subst hn
  exact cell_six_new w a b c d e f t

/-- The last rune of a row is told how long it is. -/
theorem last_set {w W1 : World} {g cap : Nat} {E : List Sp} {x : Sp} (hown : W1.ownsRow (w.heap.size + 1) 68 6 (.slice (some ⟨g, 0, none⟩) (E.length + 1) cap) (E.length + 1) (flat (raw (E ++ [x])))) (hlw : Later w W1) :
    W1.cell? ⟨g, E.length * 6 + 1, none⟩ = some (.int .i64 (x.at_ : Nat)) ∧ W1.cell? ⟨g, E.length * 6 + 2, none⟩ = some (.int .i64 0) ∧ W1.frozen? ⟨g, E.length * 6 + 2, none⟩ = false ∧
    (W1.setCell ⟨g, E.length * 6 + 2, none⟩ (.int .i64 (x.size : Nat))).ownsRow (w.heap.size + 1) 68 6 (.slice (some ⟨g, 0, none⟩) (E.length + 1) cap) (E.length + 1) (flat ((E ++ [x]).map Sp.unbad)) ∧
    Later w (W1.setCell ⟨g, E.length * 6 + 2, none⟩ (.int .i64 (x.size : Nat))) ∧
    (W1.setCell ⟨g, E.length * 6 + 2, none⟩ (.int .i64 (x.size : Nat))).heap[w.heap.size]? = W1.heap[w.heap.size]? ∧
    (W1.setCell ⟨g, E.length * 6 + 2, none⟩ (.int .i64 (x.size : Nat))).heap.size = W1.heap.size := by
  have hb := (hown.lt g rfl).1
  rw [raw_snoc] at hown
  have f := flat_get (E.map Sp.unbad ++ [x.bare]) E.length x.bare (by rw [List.getElem?_append_right (by simp)]; simp)
  refine ⟨?_, ?_, hown.frozenAt _, ?_, Below.setCell hlw (by show w.heap.size ≤ g; omega) _, Below.heap_setCell _ _ _ _ (by show w.heap.size ≠ g; omega), by simp⟩
  · rw [hown.cellAt _ (by omega), f 1 (by omega)]; rfl
  · rw [hown.cellAt _ (by omega), f 2 (by omega)]; rfl
  · have h := (hown.stored (E.length * 6 + 2) (.int .i64 (x.size : Nat))).1
    have hs := flat_set (E.map Sp.unbad) x.bare x.unbad [] 2 (.int .i64 (x.size : Nat)) (by omega) rfl
    rw [List.length_map] at hs
    rw [hs] at h
    rw [List.map_append]
    exact h

/-- The form of a row that is not empty. -/
theorem row_form {w : World} {base : Nat} {e : TypeId} {v : Value} {n : Nat} {xs : List Value} (h : w.ownsRow base e 6 v (n + 1) xs) : ∃ g cap, v = .slice (some ⟨g, 0, none⟩) (n + 1) cap := by
  rcases h.2 with ⟨_, h0⟩ | ⟨g, cap, cur, rfl, _⟩
  · omega
  · exact ⟨g, cap, rfl⟩

theorem flat_raw {D : List Sp} {X : Sp} {r pos l c : Nat} (hX : X.bare = ⟨r, pos, 0, l, c, false⟩) :
    flat (raw (D ++ [X])) = flat (D.map Sp.unbad) ++ [.int .i32 (r : Nat), .int .i64 (pos : Nat), .int .i64 0, .int .i64 (l : Nat), .int .i64 (c : Nat), .bool false] := by
  rw [raw_snoc, flat_append, flat_one, hX]
  rfl

theorem snoc_last {α : Type} {A B : List α} {x y : α} (h : A ++ [x] = B ++ [y]) : x = y := by
  have := congrArg List.getLast? h
  simpa using this

/-- One more rune of a row is told whether it is bad. -/
theorem bad_set {w W1 : World} {g cap n m : Nat} {L : List Sp} {y : Sp} (hn : L.length = n) (hy : L[m]? = some y) (hown : W1.ownsRow (w.heap.size + 1) 68 6 (.slice (some ⟨g, 0, none⟩) n cap) n (flat (L.take m ++ (L.drop m).map Sp.unbad))) (hlw : Later w W1) :
    W1.cell? ⟨g, m * 6, none⟩ = some (.int .i32 (y.rune : Nat)) ∧ W1.cell? ⟨g, m * 6 + 2, none⟩ = some (.int .i64 (y.size : Nat)) ∧ W1.cell? ⟨g, m * 6 + 5, none⟩ = some (.bool false) ∧ W1.frozen? ⟨g, m * 6 + 5, none⟩ = false ∧
    (W1.setCell ⟨g, m * 6 + 5, none⟩ (.bool y.bad)).ownsRow (w.heap.size + 1) 68 6 (.slice (some ⟨g, 0, none⟩) n cap) n (flat (L.take (m + 1) ++ (L.drop (m + 1)).map Sp.unbad)) ∧
    Later w (W1.setCell ⟨g, m * 6 + 5, none⟩ (.bool y.bad)) := by
  have hb := (hown.lt g rfl).1
  have hm : m < L.length := (List.getElem?_eq_some_iff.1 hy).1
  have hd : L.drop m = y :: L.drop (m + 1) := by
    rw [List.drop_eq_getElem_cons hm]
    congr 1
    exact (List.getElem?_eq_some_iff.1 hy).2
  rw [hd, List.map_cons] at hown
  have hl : (L.take m).length = m := by rw [List.length_take]; omega
  have f := flat_get (L.take m ++ y.unbad :: (L.drop (m + 1)).map Sp.unbad) m y.unbad (by rw [List.getElem?_append_right (by omega), hl, Nat.sub_self]; rfl)
  refine ⟨?_, ?_, ?_, hown.frozenAt _, ?_, Below.setCell hlw (by show w.heap.size ≤ g; omega) _⟩
  · have := f 0 (by omega)
    rw [hown.cellAt _ (by omega)]; exact this
  · rw [hown.cellAt _ (by omega), f 2 (by omega)]; rfl
  · rw [hown.cellAt _ (by omega), f 5 (by omega)]; rfl
  · have h := (hown.stored (m * 6 + 5) (.bool y.bad)).1
    have hs := flat_set (L.take m) y.unbad y ((L.drop (m + 1)).map Sp.unbad) 5 (.bool y.bad) (by omega) rfl
    rw [hl] at hs
    rw [hs] at h
    have e : L.take (m + 1) ++ (L.drop (m + 1)).map Sp.unbad = L.take m ++ y :: (L.drop (m + 1)).map Sp.unbad := by
      rw [take_succ_get L m y hy, List.append_assoc]; rfl
    rw [e]
    exact h

set_option maxRecDepth 1000000 in
set_option maxHeartbeats 1000000 in
theorem refSpots_any (s : ByteArray) (hsz : s.size ≤ 1000000) (w : World) :
    Calls Tryd.prog 55 #[.string s] w fun e w' => (∃ a cap, e = .returned (.slice a (spots s).length cap) ∧ Row w' a (spots s)) ∧ Later w w' := by
  obtain ⟨i0, hi, hz0, hz1, hz2⟩ := info_parts Tryd.info68
  go_enter Tryd.func55, Tryd.ntmps55
  go_wp2
  go_loopw [3, 4, 5] (fun v vl vc wr => ∃ (pos fuel l c : Nat) (D : List Sp), vl = .int .i64 (l : Nat) ∧ vc = .int .i64 (c : Nat) ∧ wr.heap[w.heap.size]? = some (.stringIter s pos) ∧ wr.ownsRow (w.heap.size + 1) 68 6 v D.length (flat (raw D)) ∧ Later w wr ∧ Hid (D ++ spotsFrom s fuel pos l c = spots s) ∧ Hid (∀ E x, D = E ++ [x] → x.at_ + x.size = pos) ∧ s.size ≤ pos + fuel ∧ pos ≤ s.size ∧ l ≤ pos + 1 ∧ c ≤ pos + 1 ∧ D.length ≤ pos) (fun _ _ _ wr => s.size - wr.iterPos w.heap.size)
  case atStart => exact ⟨0, s.size, 1, 1, [], rfl, rfl, World.iter_heap w s 0, World.ownsRow_nil _ _ _ _, Later.alloc (Later.refl _) _, rfl, (fun E x h => by simp at h), by omega, by omega, by omega, by omega, by simp⟩
  case round =>
    obtain ⟨pos, fuel, l, c, D, rfl, rfl, hit, hown, hlw, HS, HE, hf, hp, hlp, hcp, hDp⟩ := hrel
    have hpos0 := iterPos_of hit
    by_cases hp : pos < s.size
    · have hnx : ∀ ty, (Instr.next (.pointer (some ⟨w.heap.size, 0, none⟩)) true ty).run Tryd.prog wr = _ := fun ty => Lib.run_next_any_at wr w.heap.size s pos ty hit hp
      have hd := decode_pos s pos hp
      have hit2 := Lib.iterAt_heap wr w.heap.size s pos (pos + (Utf8.decode s pos).2) hit
      have hlw2 : Later w _ := Lib.below_iterAt hlw (k := w.heap.size) (Nat.le_refl _) s (pos + (Utf8.decode s pos).2)
      have hown2 := ownsRow_iterAt hown (k := w.heap.size) (by omega) s (pos + (Utf8.decode s pos).2)
      obtain ⟨W1, hW1⟩ : ∃ W1, W1 = wr.iterAt w.heap.size s (pos + (Utf8.decode s pos).2) := ⟨_, rfl⟩
      rw [← hW1] at hnx hit2 hlw2 hown2
      obtain ⟨fuel, rfl⟩ : ∃ f', fuel = f' + 1 := ⟨fuel - 1, by omega⟩
      have HS2 : Hid ((D ++ [spotAt s pos l c]) ++ spotsFrom s fuel (pos + (Utf8.decode s pos).2) (nl l (Utf8.decode s pos).1) (nc c (Utf8.decode s pos).1) = spots s) := by
        show _ = _
        rw [← HS.out, spots_more s fuel pos l c hp]; simp
      have HX : Hid ((spotAt s pos l c).bare = ⟨(Utf8.decode s pos).1, pos, 0, l, c, false⟩) := rfl
      have HX2 : Hid ((spotAt s pos l c).at_ + (spotAt s pos l c).size = pos + (Utf8.decode s pos).2) := rfl
      generalize spotAt s pos l c = X at HS2 HX HX2
      generalize (Utf8.decode s pos).1 = r at *
      generalize (Utf8.decode s pos).2 = k at *
      clear hW1 hit hlw hown HS
      rcases nil_or_snoc D with rfl | ⟨E, x, rfl⟩
      · obtain ⟨a, cap, rfl, -⟩ := row_of_owns (L := []) hown2
        have hownP := hown2
        have hitP := hit2
        have hlwP := hlw2
        have hszP : W1.heap.size = W1.heap.size := rfl
        by_cases hr : r = 10
        · subst hr
          go_wp2_with (at_builtin; refine wpList_append_own _ rfl _ _ 65 rfl (w.heap.size + 1) 68 i0 (.agg #[.int .i32 0, .int .i64 0, .int .i64 0, .int .i64 0, .int .i64 0, .bool false]) 6 48 Tryd.underlying65 hi hz0 hz1 hz2 rfl (by decide) _ _ _ rfl (hownP.alloc _) ⟨W1.heap.size, 0, none⟩ 1 1 [.int .i32 10, .int .i64 (pos : Nat), .int .i64 0, .int .i64 (l : Nat), .int .i64 (c : Nat), .bool false] rfl rfl (six_at _ _ hszP _ _ _ _ _ _ _) (fun x hx => by simp at hx; rcases hx with rfl | rfl | rfl | rfl | rfl | rfl <;> rfl) (by unfold maxLen; omega) (by omega) (by have := lt_of_block hit2; simp; omega) ?_; intro v' w3 hown' hgrow3 hnil3; have X3 := after_append2 hitP hlwP hownP hgrow3 hown'; clear hown' hgrow3 hnil3)
          go_roundw
          case rel => exact ⟨pos + k, fuel, l + 1, 1, [] ++ [X], by go_num, by go_num, X3.out.2.1, (by rw [flat_raw HX.out]; exact X3.out.1), X3.out.2.2, HS2, (fun E' x' h => by rw [← snoc_last h]; exact HX2.out), by omega, by omega, by omega, by omega, by simp; omega⟩
          case measure => rw [iterPos_of X3.out.2.1, hpos0]; omega
        · have hr' : ((r : Int) == 10) = false := by simp; omega
          go_wp2_with (at_builtin; refine wpList_append_own _ rfl _ _ 65 rfl (w.heap.size + 1) 68 i0 (.agg #[.int .i32 0, .int .i64 0, .int .i64 0, .int .i64 0, .int .i64 0, .bool false]) 6 48 Tryd.underlying65 hi hz0 hz1 hz2 rfl (by decide) _ _ _ rfl (hownP.alloc _) ⟨W1.heap.size, 0, none⟩ 1 1 [.int .i32 (r : Nat), .int .i64 (pos : Nat), .int .i64 0, .int .i64 (l : Nat), .int .i64 (c : Nat), .bool false] rfl rfl (six_at _ _ hszP _ _ _ _ _ _ _) (fun x hx => by simp at hx; rcases hx with rfl | rfl | rfl | rfl | rfl | rfl <;> rfl) (by unfold maxLen; omega) (by omega) (by have := lt_of_block hit2; simp; omega) ?_; intro v' w3 hown' hgrow3 hnil3; have X3 := after_append2 hitP hlwP hownP hgrow3 hown'; clear hown' hgrow3 hnil3)
          go_roundw
          case rel => exact ⟨pos + k, fuel, l, c + 1, [] ++ [X], by go_num, by go_num, X3.out.2.1, (by rw [flat_raw HX.out]; exact X3.out.1), X3.out.2.2, (by show _ = _; rw [← HS2.out]; simp [nl, nc, hr]), (fun E' x' h => by rw [← snoc_last h]; exact HX2.out), by omega, by omega, by omega, by omega, by simp; omega⟩
          case measure => rw [iterPos_of X3.out.2.1, hpos0]; omega
      · have hsub : (pos : Int) - (x.at_ : Int) = (x.size : Int) := by have := HE.out E x rfl; omega
        rw [List.length_append, List.length_singleton] at hown2 hDp
        obtain ⟨gg, cap, rfl⟩ := row_form hown2
        obtain ⟨c1, c2, f2, hownP, hlwP, hitQ, hszP⟩ := last_set hown2 hlw2
        have hitP := hitQ.trans hit2
        have hi0 : (0 : Int) < (E.length : Int) + 1 := by omega
        have hi1 : (E.length : Int) < (E.length : Int) + 1 := by omega
        have hi2 : (E.length : Int) < ((E.length + 1 : Nat) : Int) := by omega
        by_cases hr : r = 10
        · subst hr
          go_wp2_with (at_builtin; refine wpList_append_own _ rfl _ _ 65 rfl (w.heap.size + 1) 68 i0 (.agg #[.int .i32 0, .int .i64 0, .int .i64 0, .int .i64 0, .int .i64 0, .bool false]) 6 48 Tryd.underlying65 hi hz0 hz1 hz2 rfl (by decide) _ _ _ rfl (hownP.alloc _) ⟨W1.heap.size, 0, none⟩ 1 1 [.int .i32 10, .int .i64 (pos : Nat), .int .i64 0, .int .i64 (l : Nat), .int .i64 (c : Nat), .bool false] rfl rfl (six_at _ _ hszP _ _ _ _ _ _ _) (fun x hx => by simp at hx; rcases hx with rfl | rfl | rfl | rfl | rfl | rfl <;> rfl) (by unfold maxLen; omega) (by omega) (by have := lt_of_block hit2; simp [hszP]; omega) ?_; intro v' w3 hown' hgrow3 hnil3; have X3 := after_append2 hitP hlwP hownP hgrow3 hown'; clear hown' hgrow3 hnil3)
          go_roundw
          case rel => exact ⟨pos + k, fuel, l + 1, 1, (E ++ [x]) ++ [X], by go_num, by go_num, X3.out.2.1, (by rw [show ((E ++ [x]) ++ [X]).length = E.length + 1 + 1 by simp, flat_raw HX.out]; exact X3.out.1), X3.out.2.2, HS2, (fun E' x' h => by rw [← snoc_last h]; exact HX2.out), by omega, by omega, by omega, by omega, by simp; omega⟩
          case measure => rw [iterPos_of X3.out.2.1, hpos0]; omega
        · have hr' : ((r : Int) == 10) = false := by simp; omega
          go_wp2_with (at_builtin; refine wpList_append_own _ rfl _ _ 65 rfl (w.heap.size + 1) 68 i0 (.agg #[.int .i32 0, .int .i64 0, .int .i64 0, .int .i64 0, .int .i64 0, .bool false]) 6 48 Tryd.underlying65 hi hz0 hz1 hz2 rfl (by decide) _ _ _ rfl (hownP.alloc _) ⟨W1.heap.size, 0, none⟩ 1 1 [.int .i32 (r : Nat), .int .i64 (pos : Nat), .int .i64 0, .int .i64 (l : Nat), .int .i64 (c : Nat), .bool false] rfl rfl (six_at _ _ hszP _ _ _ _ _ _ _) (fun x hx => by simp at hx; rcases hx with rfl | rfl | rfl | rfl | rfl | rfl <;> rfl) (by unfold maxLen; omega) (by omega) (by have := lt_of_block hit2; simp [hszP]; omega) ?_; intro v' w3 hown' hgrow3 hnil3; have X3 := after_append2 hitP hlwP hownP hgrow3 hown'; clear hown' hgrow3 hnil3)
          go_roundw
          case rel => exact ⟨pos + k, fuel, l, c + 1, (E ++ [x]) ++ [X], by go_num, by go_num, X3.out.2.1, (by rw [show ((E ++ [x]) ++ [X]).length = E.length + 1 + 1 by simp, flat_raw HX.out]; exact X3.out.1), X3.out.2.2, (by show _ = _; rw [← HS2.out]; simp [nl, nc, hr]), (fun E' x' h => by rw [← snoc_last h]; exact HX2.out), by omega, by omega, by omega, by omega, by simp; omega⟩
          case measure => rw [iterPos_of X3.out.2.1, hpos0]; omega
    · have hnx : ∀ ty, (Instr.next (.pointer (some ⟨w.heap.size, 0, none⟩)) true ty).run Tryd.prog wr = _ := fun ty => Lib.run_next_end_at wr w.heap.size s pos ty hit hp
      have hD : D = spots s := by rw [← HS.out, spots_end s fuel pos l c hp]; simp
      have HB : Hid (∀ (i : Nat) (y : Sp), D[i]? = some y → y.bad = badOf y.rune y.size) := fun i y h => by
        rw [hD] at h
        obtain ⟨_, _, _, _, h5⟩ := spots_at s i y h
        rw [h5]; rfl
      have HD : Hid (D = spots s) := hD
      clear hD
      rcases nil_or_snoc D with rfl | ⟨E, x, rfl⟩
      · obtain ⟨a, cap, rfl, hrow⟩ := row_of_owns (L := []) hown
        go_wp2
        go_loopw [8] (fun vi wr' => vi = .int .i64 0 ∧ wr' = wr) (fun _ _ => 0)
        case atStart => exact ⟨rfl, rfl⟩
        case round =>
          obtain ⟨rfl, rfl⟩ := hrel
          go_wp2
          go_ret
          exact ⟨⟨a, cap, by rw [← HD.out]; rfl, by rw [← HD.out]; exact hrow⟩, hlw⟩
      · have hsub : (s.size : Int) - (x.at_ : Int) = (x.size : Int) := by have := HE.out E x rfl; omega
        rw [List.length_append, List.length_singleton] at hown hDp
        obtain ⟨gg, cap, rfl⟩ := row_form hown
        obtain ⟨c1, c2, f2, hownP, hlwP, -, -⟩ := last_set hown hlw
        have hi0 : (0 : Int) < (E.length : Int) + 1 := by omega
        have hi1 : (E.length : Int) < (E.length : Int) + 1 := by omega
        have hi2 : (E.length : Int) < ((E.length + 1 : Nat) : Int) := by omega
        go_wp2
        go_loopw [8] (fun vi wr' => ∃ (m : Nat), vi = .int .i64 (m : Nat) ∧ m ≤ E.length + 1 ∧ wr'.ownsRow (w.heap.size + 1) 68 6 (.slice (some ⟨gg, 0, none⟩) (E.length + 1) cap) (E.length + 1) (flat ((E ++ [x]).take m ++ ((E ++ [x]).drop m).map Sp.unbad)) ∧ Later w wr') (fun vi _ => E.length + 1 - (intOf vi).toNat)
        case atStart => exact ⟨0, rfl, by omega, hownP, hlwP⟩
        case round =>
          clear hown hlw c1 c2 f2 hownP hlwP hnx hit
          obtain ⟨m, rfl, hm, hown, hlw⟩ := hrel
          by_cases hlt : m < E.length + 1
          · obtain ⟨y, hy⟩ : ∃ y, (E ++ [x])[m]? = some y := ⟨_, List.getElem?_eq_getElem (by simp; omega)⟩
            obtain ⟨c0, c2, c5, f5, hownP, hlwP⟩ := bad_set (by simp) hy hown hlw
            have hby := HB.out m y hy
            rw [hby] at hownP hlwP
            generalize y.rune = r at *
            generalize y.size = sz at *
            clear hby hy hown hlw
            have hm1 : (m : Int) < (E.length : Int) + 1 := by omega
            have hm2 : (m : Int) < ((E.length + 1 : Nat) : Int) := by omega
            cases hb : ((r : Int) == 65533) with
            | true =>
              have e : badOf r sz = ((sz : Int) == 1) := by simp [badOf, hb]
              rw [e] at hownP hlwP
              clear e
              go_wp2
              go_roundw
              case rel => exact ⟨m + 1, by go_num, by omega, hownP, hlwP⟩
              case measure => simp [intOf]; omega
            | false =>
              have e : badOf r sz = false := by simp [badOf, hb]
              rw [e] at hownP hlwP
              clear e
              go_wp2
              go_roundw
              case rel => exact ⟨m + 1, by go_num, by omega, hownP, hlwP⟩
              case measure => simp [intOf]; omega
          · have hrow := row_of_owns (w := wr) (base := w.heap.size + 1) (e := 68) (v := .slice (some ⟨gg, 0, none⟩) (E.length + 1) cap) (L := E ++ [x]) (by
              have h := hown
              rw [List.take_of_length_le (by simp; omega), List.drop_of_length_le (by simp; omega), List.map_nil, List.append_nil] at h
              rw [List.length_append]
              exact h)
            obtain ⟨a, cap', e1, hrow⟩ := hrow
            have hln : E.length + 1 = (spots s).length := by rw [← HD.out]; simp
            have h1 := (Value.slice.inj e1).1
            subst h1
            clear e1
            have HL : Hid (E.length + 1 = (spots s).length) := hln
            have HR : Hid (Row wr (some ⟨gg, 0, none⟩) (spots s)) := by rw [← HD.out]; exact hrow
            clear hln hrow
            go_wp2
            go_ret
            exact ⟨⟨_, _, by rw [← HL.out]; rfl, HR.out⟩, hlw⟩

end Go.Proofs.YtginggelbfbcfaaDoor
