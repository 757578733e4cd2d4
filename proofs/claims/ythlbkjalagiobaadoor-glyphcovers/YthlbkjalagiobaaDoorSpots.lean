/-
  What glyph.Spots returns: a row of the text's runes, each with where it stands. Nothing that was in memory turns. Conditions: the text has at most 1000 bytes, and the library's tables stand as its text lays them.
-/
import Derived.Test.YthlbkjalagiobaaDoorRow
namespace Go.Proofs.YthlbkjalagiobaaDoor
open Go.RowKit

theorem Tryd.info34 : (Tryd.prog.info? 34).map (fun i => (i.zero, i.size, i.bytes)) = some (some (.agg #[.int .i32 0, .int .i64 0, .int .i64 0, .int .i64 0, .int .i64 0, .bool false]), 6, 48) := by kernel_rfl

/-- Behind an append: the new row, the box, the reader of the text and what was there. -/
theorem after_append {w w1 w2 w3 : World} {s : ByteArray} {pos : Nat} {a b : Value} {o : Obj} {v v' : Value} {n m : Nat} {xs ys : List Value}
    (hbx : w2.heap[w1.heap.size]? = some (.cells #[a, b] 37)) (hit : w2.heap[w1.heap.size + 1]? = some (.stringIter s pos)) (hlw : Later w w2) (hl1 : Later w w1)
    (hown : w2.ownsRow (w1.heap.size + 2) 34 6 v n xs) (hg : (w2.alloc o).grownBy w3 v.ownBlock) (hown' : w3.ownsRow (w1.heap.size + 2) 34 6 v' m ys) :
    Aside (w3.ownsRow (w1.heap.size + 2) 34 6 v' m ys ∧ w3.heap[w1.heap.size]? = some (.cells #[a, b] 37) ∧ w3.heap[w1.heap.size + 1]? = some (.stringIter s pos) ∧ Later w w3) := by
  have hlt := lt_of_block hit
  have hlt' := lt_of_block hbx
  have hs := hl1.size
  refine ⟨hown', ?_, ?_, ?_⟩
  · rw [hg.block w1.heap.size (by simp; omega) (fun h => by have := (hown.lt _ h.symm).1; omega), Below.heap_alloc _ _ _ hlt']; exact hbx
  · rw [hg.block (w1.heap.size + 1) (by simp; omega) (fun h => by have := (hown.lt _ h.symm).1; omega), Below.heap_alloc _ _ _ hlt]; exact hit
  · exact Below.grown (Below.alloc hlw hlw.size _) hg (by have := hlw.size; simp; omega) (fun j hj => by have := (hown.lt _ hj).1; omega)

theorem flat_snoc {D : List Sp} {X : Sp} {r pos k l c : Nat} {b b' : Bool} (hX : X = ⟨r, pos, k, l, c, b⟩) (hb : b = b') :
    flat (D ++ [X]) = flat D ++ [.int .i32 (r : Nat), .int .i64 (pos : Nat), .int .i64 (k : Nat), .int .i64 (l : Nat), .int .i64 (c : Nat), .bool b'] := by
  rw [flat_append, flat_one, hX, hb]
  rfl

set_option maxRecDepth 1000000 in
set_option maxHeartbeats 4000000 in
theorem spots_any (s : ByteArray) (hsz : s.size ≤ 1000) (w : World) (g : Good w) :
    Calls Tryd.prog 12 #[.string s] w fun e w' => (∃ a cap, e = .returned (.slice a (spots s).length cap) ∧ Row w' a (spots s)) ∧ Later w w' := by
  obtain ⟨i0, hi, hz0, hz1, hz2⟩ := info_parts Tryd.info34
  go_enter Tryd.func12, Tryd.ntmps12
  go_wp2_with (go_at_call 21; refine (start_any _).mono ?_; rintro e w1 ⟨rfl, hl1⟩)
  go_loopw [3] (fun v wr => ∃ (pos fuel l c : Nat) (D : List Sp), wr.heap[w1.heap.size]? = some (.cells #[.int .i64 l, .int .i64 c] 37) ∧ wr.heap[w1.heap.size + 1]? = some (.stringIter s pos) ∧ wr.ownsRow (w1.heap.size + 2) 34 6 v D.length (flat D) ∧ Later w wr ∧ Hid (D ++ spotsFrom s fuel pos l c = spots s) ∧ s.size ≤ pos + fuel ∧ pos ≤ s.size ∧ l ≤ pos + 1 ∧ c ≤ pos + 1 ∧ D.length ≤ pos) (fun _ wr => s.size - wr.iterPos (w1.heap.size + 1))
  case atStart => exact ⟨0, s.size, 1, 1, [], (two_new w1 _ _).1, (two_new w1 _ _).2, World.ownsRow_nil _ _ _ _, Later.alloc (Later.alloc hl1 _) _, rfl, by omega, by omega, by omega, by omega, by simp⟩
  case round =>
    obtain ⟨pos, fuel, l, c, D, hbx, hit, hown, hlw, HS, hf, hp, hlp, hcp, hDp⟩ := hrel
    have hpos0 := iterPos_of hit
    by_cases hp : pos < s.size
    · have hnx : ∀ ty, (Instr.next (.pointer (some ⟨w1.heap.size + 1, 0, none⟩)) true ty).run Tryd.prog wr = _ := fun ty => Lib.run_next_any_at wr (w1.heap.size + 1) s pos ty hit hp
      have hd := decode_pos s pos hp
      have dc : ∀ w', Good w' → _ := fun w' g' => decode_any s pos hp w' g'
      have hit2 := Lib.iterAt_heap wr (w1.heap.size + 1) s pos (pos + (Utf8.decode s pos).2) hit
      have hlw2 : Later w _ := Lib.below_iterAt hlw (k := w1.heap.size + 1) (by have := hl1.size; omega) s (pos + (Utf8.decode s pos).2)
      have hbx2 : (wr.iterAt (w1.heap.size + 1) s (pos + (Utf8.decode s pos).2)).heap[w1.heap.size]? = some (.cells #[.int .i64 l, .int .i64 c] 37) := by rw [Lib.iterAt_other _ _ _ _ _ (by omega)]; exact hbx
      have hown2 := ownsRow_iterAt hown (k := w1.heap.size + 1) (by omega) s (pos + (Utf8.decode s pos).2)
      obtain ⟨W1, hW1⟩ : ∃ W1, W1 = wr.iterAt (w1.heap.size + 1) s (pos + (Utf8.decode s pos).2) := ⟨_, rfl⟩
      rw [← hW1] at hnx hit2 hlw2 hbx2 hown2
      obtain ⟨fuel, rfl⟩ : ∃ f', fuel = f' + 1 := ⟨fuel - 1, by omega⟩
      have HS2 : Hid ((D ++ [spotAt s pos l c]) ++ spotsFrom s fuel (pos + (Utf8.decode s pos).2) (nl l (Utf8.decode s pos).1) (nc c (Utf8.decode s pos).1) = spots s) := by
        show _ = _
        rw [← HS.out, spots_more s fuel pos l c hp]; simp
      have HX : Hid (spotAt s pos l c = ⟨(Utf8.decode s pos).1, pos, (Utf8.decode s pos).2, l, c, badOf (Utf8.decode s pos).1 (Utf8.decode s pos).2⟩) := rfl
      generalize spotAt s pos l c = X at HS2 HX
      generalize (Utf8.decode s pos).1 = r at *
      generalize (Utf8.decode s pos).2 = k at *
      clear hW1 hit hlw hbx hown HS
      cases hb : ((r : Int) == 65533) with
      | true =>
        have HB : Hid (badOf r k = ((k : Int) == 1)) := by show _ = _; simp [badOf, hb]
        go_wp2_with (first
          | (go_at_call 23; refine (dc _ (g.later hlw2)).mono ?_; rintro e w2 ⟨rfl, hl2⟩; have hbx3 := (hl2.block _ (lt_of_block hbx2)).trans hbx2; obtain ⟨d0, d1, f0, f1⟩ := box_facts hbx3)
          | (go_at_call 22; refine (behind_any l c r (by omega) (by omega) _).mono ?_; rintro e w4 ⟨rfl, hl4⟩; have hbx5 := (hl4.block _ (lt_of_block X3.out.2.1)).trans X3.out.2.1; obtain ⟨b0, b1, q0, q1⟩ := box_facts hbx5)
          | (at_builtin; refine wpList_append_own _ rfl _ _ 26 rfl (w1.heap.size + 2) 34 i0 (.agg #[.int .i32 0, .int .i64 0, .int .i64 0, .int .i64 0, .int .i64 0, .bool false]) 6 48 Tryd.underlying26 hi hz0 hz1 hz2 rfl (by decide) _ _ _ rfl ((ownsRow_later hown2 hl2).alloc _) ⟨w2.heap.size, 0, none⟩ 1 1 [.int .i32 (r : Nat), .int .i64 (pos : Nat), .int .i64 (k : Nat), .int .i64 (l : Nat), .int .i64 (c : Nat), .bool ((k : Int) == 1)] rfl rfl (cell_six_new _ _ _ _ _ _ _ _) (fun x hx => by simp at hx; rcases hx with rfl | rfl | rfl | rfl | rfl | rfl <;> rfl) (by unfold maxLen; omega) (by omega) (by have := lt_of_block hit2; have := hl2.size; simp; omega) ?_; intro v' w3 hown' hgrow3 hnil3; have X3 := after_append hbx3 ((hl2.block _ (lt_of_block hit2)).trans hit2) (Later.trans hlw2 hl2) hl1 (ownsRow_later hown2 hl2) hgrow3 hown'; obtain ⟨e0, e1, g0, g1⟩ := box_facts X3.out.2.1; clear hown' hgrow3 hnil3))
        have hit6 := (box_others (w := w4) (B := w1.heap.size) (k := w1.heap.size + 1) (by omega) (.int .i64 (nl l r)) (.int .i64 (nc c r))).trans ((hl4.block _ (lt_of_block X3.out.2.2.1)).trans X3.out.2.2.1)
        go_roundw
        case rel =>
          refine ⟨pos + k, fuel, nl l r, nc c r, D ++ [X], box_stored hbx5 _ _, hit6, ?_, ?_, HS2, by omega, by omega, ?_, ?_, by simp; omega⟩
          · rw [flat_snoc HX.out HB.out, List.length_append]
            exact ownsRow_setCell_below (ownsRow_setCell_below (ownsRow_later X3.out.1 hl4) (by show w1.heap.size < _; omega) _) (by show w1.heap.size < _; omega) _
          · exact Below.setCell (Below.setCell (Later.trans X3.out.2.2.2 hl4) hl1.size _) hl1.size _
          · simp only [nl]; split <;> omega
          · simp only [nc]; split <;> omega
        case measure => rw [iterPos_of hit6, hpos0]; omega
      | false =>
        have HB : Hid (badOf r k = false) := by show _ = _; simp [badOf, hb]
        go_wp2_with (first
          | (go_at_call 23; refine (dc _ (g.later hlw2)).mono ?_; rintro e w2 ⟨rfl, hl2⟩; have hbx3 := (hl2.block _ (lt_of_block hbx2)).trans hbx2; obtain ⟨d0, d1, f0, f1⟩ := box_facts hbx3)
          | (go_at_call 22; refine (behind_any l c r (by omega) (by omega) _).mono ?_; rintro e w4 ⟨rfl, hl4⟩; have hbx5 := (hl4.block _ (lt_of_block X3.out.2.1)).trans X3.out.2.1; obtain ⟨b0, b1, q0, q1⟩ := box_facts hbx5)
          | (at_builtin; refine wpList_append_own _ rfl _ _ 26 rfl (w1.heap.size + 2) 34 i0 (.agg #[.int .i32 0, .int .i64 0, .int .i64 0, .int .i64 0, .int .i64 0, .bool false]) 6 48 Tryd.underlying26 hi hz0 hz1 hz2 rfl (by decide) _ _ _ rfl ((ownsRow_later hown2 hl2).alloc _) ⟨w2.heap.size, 0, none⟩ 1 1 [.int .i32 (r : Nat), .int .i64 (pos : Nat), .int .i64 (k : Nat), .int .i64 (l : Nat), .int .i64 (c : Nat), .bool false] rfl rfl (cell_six_new _ _ _ _ _ _ _ _) (fun x hx => by simp at hx; rcases hx with rfl | rfl | rfl | rfl | rfl | rfl <;> rfl) (by unfold maxLen; omega) (by omega) (by have := lt_of_block hit2; have := hl2.size; simp; omega) ?_; intro v' w3 hown' hgrow3 hnil3; have X3 := after_append hbx3 ((hl2.block _ (lt_of_block hit2)).trans hit2) (Later.trans hlw2 hl2) hl1 (ownsRow_later hown2 hl2) hgrow3 hown'; obtain ⟨e0, e1, g0, g1⟩ := box_facts X3.out.2.1; clear hown' hgrow3 hnil3))
        have hit6 := (box_others (w := w4) (B := w1.heap.size) (k := w1.heap.size + 1) (by omega) (.int .i64 (nl l r)) (.int .i64 (nc c r))).trans ((hl4.block _ (lt_of_block X3.out.2.2.1)).trans X3.out.2.2.1)
        go_roundw
        case rel =>
          refine ⟨pos + k, fuel, nl l r, nc c r, D ++ [X], box_stored hbx5 _ _, hit6, ?_, ?_, HS2, by omega, by omega, ?_, ?_, by simp; omega⟩
          · rw [flat_snoc HX.out HB.out, List.length_append]
            exact ownsRow_setCell_below (ownsRow_setCell_below (ownsRow_later X3.out.1 hl4) (by show w1.heap.size < _; omega) _) (by show w1.heap.size < _; omega) _
          · exact Below.setCell (Below.setCell (Later.trans X3.out.2.2.2 hl4) hl1.size _) hl1.size _
          · simp only [nl]; split <;> omega
          · simp only [nc]; split <;> omega
        case measure => rw [iterPos_of hit6, hpos0]; omega
    · have hnx : ∀ ty, (Instr.next (.pointer (some ⟨w1.heap.size + 1, 0, none⟩)) true ty).run Tryd.prog wr = _ := fun ty => Lib.run_next_end_at wr (w1.heap.size + 1) s pos ty hit hp
      have e : D = spots s := by rw [← HS.out, spots_end s fuel pos l c hp]; simp
      subst e
      obtain ⟨a, cap, rfl, hrow⟩ := row_of_owns hown
      go_wp2
      go_ret
      exact ⟨⟨_, _, rfl, hrow⟩, hlw⟩

end Go.Proofs.YthlbkjalagiobaaDoor
