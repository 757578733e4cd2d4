/-
  Which cell an operand tells, by package cells. Nothing that was in memory turns. Conditions: the program lies in memory, its texts are short, the words' tables are as listed.
-/
import Derived.Test.YtgkdejldpldkiaaDoorCellsA
import Derived.Test.YtgkdejldpldkiaaDoorJf
namespace Go.Proofs.YtgkdejldpldkiaaDoor
open Go.RowKit
set_option linter.unusedVariables false
set_option linter.unusedSimpArgs false

set_option maxRecDepth 1000000 in
set_option maxHeartbeats 1000000 in
theorem place_any (o : Opd) (r : Nat → Int) (w : World) (hT : Tab w 2 regsT) :
    Calls Tryd.prog 57 #[o.val, regsV r] w fun e w' => e = .returned (match placeF o r with | some n => .tuple #[.int .i64 n, .bool true] | none => .tuple #[.int .i64 0, .bool false]) ∧ Later w w' := by
  have c := fun w' hl => right_any o w' (Tab.later hT hl)
  obtain ⟨k, a, s, n⟩ := o
  unfold placeF
  have hr : opdRightF ⟨k, a, s, n⟩ = true → k = 4 → 0 ≤ a ∧ a ≤ 7 := by
    intro h1 h2
    simp only [opdRightF, decide_eq_true_eq] at h1
    omega
  unfold Opd.val at *
  unfold regsV
  dsimp only at *
  clear hT
  generalize opdRightF ⟨k, a, s, n⟩ = b at *
  have LL := Later.alloc (Later.alloc (Later.refl w) (.cells #[.int .i64 k, .int .i64 a, .int .i64 s, .int .i64 n] 41)) (.cells #[.int .i64 (r 0), .int .i64 (r 1), .int .i64 (r 2), .int .i64 (r 3), .int .i64 (r 4), .int .i64 (r 5), .int .i64 (r 6), .int .i64 (r 7)] 49)
  obtain ⟨HB, HC⟩ := two_new2 w (.cells #[.int .i64 k, .int .i64 a, .int .i64 s, .int .i64 n] 41) (.cells #[.int .i64 (r 0), .int .i64 (r 1), .int .i64 (r 2), .int .i64 (r 3), .int .i64 (r 4), .int .i64 (r 5), .int .i64 (r 6), .int .i64 (r 7)] 49)
  obtain ⟨b0, b1, b2, b3, -⟩ := box4_facts HB
  have HAT : Hid (∀ j, j < 8 → ((w.alloc (.cells #[.int .i64 k, .int .i64 a, .int .i64 s, .int .i64 n] 41)).alloc (.cells #[.int .i64 (r 0), .int .i64 (r 1), .int .i64 (r 2), .int .i64 (r 3), .int .i64 (r 4), .int .i64 (r 5), .int .i64 (r 6), .int .i64 (r 7)] 49)).cell? ⟨w.heap.size + 1, j, none⟩ = some (.int .i64 (r j))) := fun j hj => box8_at HC hj
  clear HB HC
  cases b
  · rw [if_neg (by simp)]
    go_enter Tryd.func57, Tryd.ntmps57
    go_upto_region 1 with (fail)
    generalize (w.alloc (.cells #[.int .i64 k, .int .i64 a, .int .i64 s, .int .i64 n] 41)).alloc (.cells #[.int .i64 (r 0), .int .i64 (r 1), .int .i64 (r 2), .int .i64 (r 3), .int .i64 (r 4), .int .i64 (r 5), .int .i64 (r 6), .int .i64 (r 7)] 49) = W at *
    go_wp2_with (go_at_call 91; refine (c _ LL).mono ?_; rintro e w1 ⟨rfl, hl1⟩)
    go_returns
    exact ⟨rfl, LL.trans hl1⟩
  · rw [if_pos rfl]
    by_cases h3 : k = 3
    · subst h3
      rw [if_pos rfl]
      dsimp only
      go_enter Tryd.func57, Tryd.ntmps57
      go_upto_region 1 with (fail)
      generalize (w.alloc (.cells #[.int .i64 3, .int .i64 a, .int .i64 s, .int .i64 n] 41)).alloc (.cells #[.int .i64 (r 0), .int .i64 (r 1), .int .i64 (r 2), .int .i64 (r 3), .int .i64 (r 4), .int .i64 (r 5), .int .i64 (r 6), .int .i64 (r 7)] 49) = W at *
      go_wp2_with (go_at_call 91; refine (c _ LL).mono ?_; rintro e w1 ⟨rfl, hl1⟩; have d0 := cell_later b0 hl1; have d3 := cell_later b3 hl1)
      go_returns
      exact ⟨rfl, LL.trans hl1⟩
    · rw [if_neg h3]
      have h3' : (k == 3) = false := by simpa using h3
      by_cases h4 : k = 4
      · obtain ⟨ha0, ha1⟩ := hr rfl h4
        subst h4
        rw [if_pos rfl]
        dsimp only
        obtain ⟨j, rfl⟩ : ∃ j : Nat, a = j := ⟨a.toNat, by omega⟩
        have hj : j < 8 := by omega
        rw [Int.toNat_natCast]
        have hat := HAT.out j hj
        clear HAT hr
        generalize hz : r j = z at *
        clear hz
        go_enter Tryd.func57, Tryd.ntmps57
        go_upto_region 1 with (fail)
        generalize (w.alloc (.cells #[.int .i64 4, .int .i64 j, .int .i64 s, .int .i64 n] 41)).alloc (.cells #[.int .i64 (r 0), .int .i64 (r 1), .int .i64 (r 2), .int .i64 (r 3), .int .i64 (r 4), .int .i64 (r 5), .int .i64 (r 6), .int .i64 (r 7)] 49) = W at *
        go_wp2_with (go_at_call 91; refine (c _ LL).mono ?_; rintro e w1 ⟨rfl, hl1⟩; have d0 := cell_later b0 hl1; have d1 := cell_later b1 hl1; have d2 := cell_later hat hl1)
        go_returns
        exact ⟨rfl, LL.trans hl1⟩
      · rw [if_neg h4]
        have h4' : (k == 4) = false := by simpa using h4
        dsimp only
        go_enter Tryd.func57, Tryd.ntmps57
        go_upto_region 1 with (fail)
        generalize (w.alloc (.cells #[.int .i64 k, .int .i64 a, .int .i64 s, .int .i64 n] 41)).alloc (.cells #[.int .i64 (r 0), .int .i64 (r 1), .int .i64 (r 2), .int .i64 (r 3), .int .i64 (r 4), .int .i64 (r 5), .int .i64 (r 6), .int .i64 (r 7)] 49) = W at *
        go_wp2_with (go_at_call 91; refine (c _ LL).mono ?_; rintro e w1 ⟨rfl, hl1⟩; have d0 := cell_later b0 hl1; have d1 := cell_later b1 hl1)
        go_returns
        exact ⟨rfl, LL.trans hl1⟩

end Go.Proofs.YtgkdejldpldkiaaDoor
