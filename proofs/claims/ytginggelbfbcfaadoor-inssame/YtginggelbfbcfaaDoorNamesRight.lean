/-
  What names.Right returns. Nothing that was in memory turns. Conditions: the text has at most 1000 bytes, and the listed tables stand as their texts lay them.
-/
import Derived.Test.YtginggelbfbcfaaDoorNamesWord
import Derived.Test.YtginggelbfbcfaaDoorRunes
import Derived.Test.YtginggelbfbcfaaDoorRow
import Derived.Test.YtginggelbfbcfaaDoorValidShelf
namespace Go.Proofs.YtginggelbfbcfaaDoor
open Go.RowKit
set_option linter.unusedVariables false
set_option linter.unusedSimpArgs false

/-- The library's two tables and the program's three, as their texts lay them. -/
structure NamesGood (w : World) : Prop where
  utf : Lib.Utf8Tabs 0 1 w
  regs : Tab w 2 regsT
  ops : Tab w 3 opsT
  jumps : Tab w 4 jumpsT

theorem NamesGood.later {w w' : World} (g : NamesGood w) (h : Later w w') : NamesGood w' :=
  ⟨⟨fun c hc => cell_later (g.utf.1 c hc) h, fun i hi => ⟨cell_later (g.utf.2 i hi).1 h, cell_later (g.utf.2 i hi).2 h⟩⟩, g.regs.later h, g.ops.later h, g.jumps.later h⟩

theorem may_any (r : Int) (first : Bool) (w : World) :
    Calls Tryd.prog 61 #[.int .i32 r, .bool first] w fun e w' => e = .returned (.bool (standF r first)) ∧ Later w w' := by
  have c35 := fun w' => letter_any r w'
  have c36 := fun w' => digit_any r w'
  unfold standF
  generalize letterF r = a at *
  generalize digitF r = b at *
  cases a <;> cases first
  all_goals go_enter Tryd.func61, Tryd.ntmps61
  all_goals go_wp2_with (first
    | (go_at_call 70; refine (c35 _).mono ?_; rintro e w1 ⟨rfl, hl1⟩)
    | (go_at_call 71; refine (c36 _).mono ?_; rintro e w2 ⟨rfl, hl2⟩; have L2 := Later.trans hl1 hl2))
  all_goals go_ret
  all_goals exact ⟨rfl, by assumption⟩

set_option maxRecDepth 1000000 in
set_option maxHeartbeats 1000000 in
theorem shaped_any (s : ByteArray) (hsz : s.size ≤ 1000) (w : World) :
    Calls Tryd.prog 48 #[.string s] w fun e w' => e = .returned (.bool (shapedGo (spots s) 0)) ∧ Later w w' := by
  go_enter Tryd.func48, Tryd.ntmps48
  go_wp2
  go_loopw [3] (fun vn wr => ∃ (pos fuel l c n : Nat), vn = .int .i64 (n : Nat) ∧ wr.heap[w.heap.size]? = some (.stringIter s pos) ∧ Later w wr ∧ Hid (shapedGo (spotsFrom s fuel pos l c) n = shapedGo (spots s) 0) ∧ s.size ≤ pos + fuel ∧ pos ≤ s.size ∧ n ≤ 16) (fun _ wr => s.size - wr.iterPos w.heap.size)
  case atStart => exact ⟨0, s.size, 1, 1, 0, rfl, World.iter_heap w s 0, Later.alloc (Later.refl _) _, rfl, by omega, by omega, by omega⟩
  case round =>
    obtain ⟨pos, fuel, l, c, n, rfl, hit, hlw, HS, hf, hp, hn⟩ := hrel
    have hpos0 := iterPos_of hit
    by_cases hp : pos < s.size
    · have hnx : ∀ ty, (Instr.next (.pointer (some ⟨w.heap.size, 0, none⟩)) true ty).run Tryd.prog wr = _ := fun ty => Lib.run_next_any_at wr w.heap.size s pos ty hit hp
      have hd := decode_pos s pos hp
      have hit2 := Lib.iterAt_heap wr w.heap.size s pos (pos + (Utf8.decode s pos).2) hit
      have hlw2 : Later w _ := Lib.below_iterAt hlw (k := w.heap.size) (Nat.le_refl _) s (pos + (Utf8.decode s pos).2)
      obtain ⟨W1, hW1⟩ : ∃ W1, W1 = wr.iterAt w.heap.size s (pos + (Utf8.decode s pos).2) := ⟨_, rfl⟩
      rw [← hW1] at hnx hit2 hlw2
      obtain ⟨fuel, rfl⟩ : ∃ f', fuel = f' + 1 := ⟨fuel - 1, by omega⟩
      have HS2 : Hid ((if 16 < n + 1 then false else if standF ((Utf8.decode s pos).1 : Nat) ((pos : Int) == 0) = true then shapedGo (spotsFrom s fuel (pos + (Utf8.decode s pos).2) (nl l (Utf8.decode s pos).1) (nc c (Utf8.decode s pos).1)) (n + 1) else false) = shapedGo (spots s) 0) := by
        show _ = _
        rw [← HS.out, spots_more s fuel pos l c hp]
        rfl
      generalize (Utf8.decode s pos).1 = r at *
      generalize (Utf8.decode s pos).2 = k at *
      clear hW1 hit hlw HS
      by_cases h16 : 16 < n + 1
      · have hg : (16 : Int) < (n : Int) + 1 := by omega
        have HE : Hid (shapedGo (spots s) 0 = false) := by show _ = _; rw [← HS2.out, if_pos h16]
        clear HS2
        go_wp2
        go_ret
        exact ⟨by simp only [HE.out]; rfl, hlw2⟩
      · have hg : ¬ (16 : Int) < (n : Int) + 1 := by omega
        have hs2 := HS2.out
        rw [if_neg h16] at hs2
        have c33 := fun w' => may_any (r : Nat) ((pos : Int) == 0) w'
        obtain ⟨fl, hfl⟩ : ∃ fl, fl = ((pos : Int) == 0) := ⟨_, rfl⟩
        rw [← hfl] at hs2 c33
        have HFL : Hid (fl = ((pos : Int) == 0)) := hfl
        obtain ⟨q, hq⟩ : ∃ q, q = standF (r : Nat) fl := ⟨_, rfl⟩
        rw [← hq] at hs2 c33
        clear HS2 hq
        cases q with
        | true =>
          have HS3 : Hid _ := hs2
          clear hs2
          go_wp2_with (go_at_call 61; rw [← hfl]; refine (c33 _).mono ?_; rintro e w2 ⟨rfl, hl2⟩)
          have hit3 := (hl2.block _ (lt_of_block hit2)).trans hit2
          go_roundw
          case rel => exact ⟨pos + k, fuel, nl l r, nc c r, n + 1, by go_num, hit3, Later.trans hlw2 hl2, HS3.out, by omega, by omega, by omega⟩
          case measure => rw [iterPos_of hit3, hpos0]; omega
        | false =>
          have HE : Hid (shapedGo (spots s) 0 = false) := hs2.symm
          clear hs2
          go_wp2_with (go_at_call 61; rw [← hfl]; refine (c33 _).mono ?_; rintro e w2 ⟨rfl, hl2⟩)
          go_ret
          exact ⟨by simp only [HE.out]; rfl, Later.trans hlw2 hl2⟩
    · have hnx : ∀ ty, (Instr.next (.pointer (some ⟨w.heap.size, 0, none⟩)) true ty).run Tryd.prog wr = _ := fun ty => Lib.run_next_end_at wr w.heap.size s pos ty hit hp
      have HE : Hid (shapedGo (spots s) 0 = decide (0 < n)) := by show _ = _; rw [← HS.out, spots_end s fuel pos l c hp]; rfl
      clear HS
      go_wp2
      go_ret
      exact ⟨by simp only [HE.out]; simp, hlw⟩

theorem right_split (s : ByteArray) : rightF s = (shapedGo (spots s) 0 && (Lib.validD s.data.toList && !wordF s)) := by
  rw [shapedGo_spots, valid_rb]
  simp only [rightF, Bool.and_assoc]

set_option maxRecDepth 1000000 in
set_option maxHeartbeats 1000000 in
theorem nameRight_any (s : ByteArray) (hsz : s.size ≤ 1000) (w : World) (g : NamesGood w) :
    Calls Tryd.prog 36 #[.string s] w fun e w' => e = .returned (.bool (rightF s)) ∧ Later w w' := by
  rw [right_split]
  have c27 := fun w' => shaped_any s hsz w'
  have c28 : ∀ w', NamesGood w' → Calls Tryd.prog 49 #[.string s] w' fun e w'' => e = .returned (.bool (Lib.validD s.data.toList)) ∧ Later w' w'' := fun w' g' => Tryd.utf8_ValidString s w' (by omega) g'.utf
  have c13 := fun w' (g' : NamesGood w') => word_any s w' g'.regs g'.ops g'.jumps
  have go : ∀ {w'}, Later w w' → NamesGood w' := fun h => g.later h
  generalize shapedGo (spots s) 0 = a at *
  generalize Lib.validD s.data.toList = b at *
  generalize wordF s = c at *
  cases a <;> cases b
  all_goals go_enter Tryd.func36, Tryd.ntmps36
  all_goals go_wp2_with (first
    | (go_at_call 48; refine (c27 _).mono ?_; rintro e w1 ⟨rfl, hl1⟩)
    | (go_at_call 49; refine (c28 _ (go hl1)).mono ?_; rintro e w2 ⟨rfl, hl2⟩; have L2 := Later.trans hl1 hl2)
    | (go_at_call 50; refine (c13 _ (go L2)).mono ?_; rintro e w3 ⟨rfl, hl3⟩; have L3 := Later.trans L2 hl3))
  all_goals go_ret
  all_goals exact ⟨by simp, by assumption⟩

end Go.Proofs.YtginggelbfbcfaaDoor
