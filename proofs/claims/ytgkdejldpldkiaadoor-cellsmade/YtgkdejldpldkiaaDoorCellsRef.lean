/-
  What the document's own answers return of where symbols lie: how many cells there are, where each symbol begins, which symbol has a cell. Nothing that was in memory turns. Conditions: the program lies in memory, its texts are short.
-/
import Derived.Test.YtgkdejldpldkiaaDoorCellsPlain
import Derived.Test.YtgkdejldpldkiaaDoorJk
namespace Go.Proofs.YtgkdejldpldkiaaDoor
open Go.RowKit
set_option linter.unusedVariables false
set_option linter.unusedSimpArgs false

set_option maxRecDepth 1000000 in
set_option maxHeartbeats 1000000 in
theorem refBase0_any (u v : Value) (S : Syms) (P : List Thr) (k : Nat) (w : World) (hS : SymRow w u S) (hP : ThrRow w v P) (hz : Sized S) (hk : k ≤ S.length) :
    Calls Tryd.prog 89 #[.agg #[u, v], .int .i64 k] w fun e w' => e = .returned (.int .i64 (sumF (S.take k))) ∧ Later w w' := by
  obtain ⟨p, cap, rfl, h1, h2⟩ := hS.slice
  obtain ⟨p', cap', rfl, h1', h2'⟩ := hP.slice
  unfold maxLen at h2
  have LL := Later.alloc (Later.refl w) (.cells #[.slice p S.length cap, .slice p' P.length cap'] 27)
  obtain ⟨hB0, hB1, -⟩ := box2_facts (at_new w (.cells #[.slice p S.length cap, .slice p' P.length cap'] 27))
  have HS : Hid (SymRow w (.slice p S.length cap) S) := hS
  have HZ : Hid (Sized S) := hz
  clear hS hz hP
  go_enter Tryd.func89, Tryd.ntmps89
  go_upto_region 1 with (fail)
  generalize w.alloc (.cells #[.slice p S.length cap, .slice p' P.length cap'] 27) = W at *
  go_wp2
  go_loopw [5, 6] (fun vn vi wr => ∃ (i : Nat) (n : Int), vi = .int .i64 (i : Nat) ∧ vn = .int .i64 n ∧ i ≤ k ∧ wr = W ∧ 0 ≤ n ∧ n ≤ 4096 ∧ Hid (sumF (S.take i) = n)) (fun _ vi _ => k - (intOf vi).toNat)
  case atStart => exact ⟨0, 0, rfl, rfl, by omega, rfl, by omega, by omega, rfl⟩
  case round =>
    obtain ⟨i, n, rfl, rfl, hi, rfl, hn0, hn1, hF⟩ := hrel
    by_cases h8 : i < k
    · obtain ⟨⟨x, L⟩, ht⟩ : ∃ t, S[i]? = some t := ⟨_, List.getElem?_eq_getElem (by omega)⟩
      obtain ⟨g, o, rfl, -, -, hin, x0, x1, x2⟩ := (SymRow.kept HS.out LL.kept).get ht
      have hc : Hid (sumF (S.take (i + 1)) = n + x.size) := by show _ = _; rw [sum_next ht, hF.out]
      obtain ⟨hb0, hb1, -⟩ := HZ.out.get ht
      have hs := HZ.out.sum (i + 1)
      rw [hc.out] at hs
      obtain ⟨hs0, hs1⟩ := hs
      dsimp only at hb0 hb1
      have hlt : i < S.length := by omega
      clear ht hin HS HZ hF x0 x2
      go_wp2
      go_roundw
      case rel => exact ⟨i + 1, n + x.size, by go_num, by go_num, by omega, (by first | rfl | trivial), by omega, by omega, hc⟩
      case measure => simp [intOf]; omega
    · have hc := hF.out
      rw [show i = k by omega] at hc
      clear hF HS HZ
      go_wp2
      go_ret
      exact ⟨by rw [hc]; rfl, LL⟩

theorem laid_sum (S : Syms) (P : List Thr) : sumF (laidF S P) = if checkC S P = 0 then sumF S else 0 := by
  unfold laidF
  by_cases h : checkC S P = 0
  · rw [if_pos h, if_pos h]
  · rw [if_neg h, if_neg h]; rfl

set_option maxRecDepth 1000000 in
set_option maxHeartbeats 1000000 in
theorem refSize_any (u v : Value) (S : Syms) (P : List Thr) (w : World) (hS : SymRow w u S) (hP : ThrRow w v P) (f : FineP S P) :
    Calls Tryd.prog 51 #[.agg #[u, v]] w fun e w' => e = .returned (.int .i64 (sumF (laidF S P))) ∧ Later w w' := by
  rw [laid_sum]
  have LL := Later.alloc (Later.refl w) (.cells #[u, v] 27)
  have c := refCheck_any u v S P _ (hS.kept LL.kept) (hP.kept LL.kept) f
  have c2 := fun w' hl hz => refBase0_any u v S P S.length w' (hS.kept (Later.kept hl)) (hP.kept (Later.kept hl)) hz (Nat.le_refl _)
  rw [List.take_length] at c2
  have hz0 := sized_check (S := S) (P := P)
  obtain ⟨p, cap, rfl, h1, h2⟩ := hS.slice
  obtain ⟨p', cap', rfl, h1', h2'⟩ := hP.slice
  obtain ⟨hB0, hB1, -⟩ := box2_facts (at_new w (.cells #[.slice p S.length cap, .slice p' P.length cap'] 27))
  clear hS hP f
  generalize checkC S P = n at *
  by_cases h : n = 0
  · rw [if_pos h]
    have c2' := fun w' hl => c2 w' hl (hz0 h)
    subst h
    clear c2 hz0
    generalize sumF S = m at *
    go_enter Tryd.func51, Tryd.ntmps51
    go_upto_region 1 with (fail)
    generalize w.alloc (.cells #[.slice p S.length cap, .slice p' P.length cap'] 27) = W at *
    go_wp2_with (first
      | (go_at_call 13; refine c.mono ?_; rintro e w1 ⟨rfl, hl1⟩; have d0 := cell_later hB0 hl1; have d1 := cell_later hB1 hl1)
      | (go_at_call 89; refine (c2' _ (LL.trans hl1)).mono ?_; rintro e w2 ⟨rfl, hl2⟩))
    go_ret
    exact ⟨rfl, LL.trans (hl1.trans hl2)⟩
  · rw [if_neg h]
    have h' : (n != 0) = true := by simpa using h
    clear c2 hz0 h
    go_enter Tryd.func51, Tryd.ntmps51
    go_upto_region 1 with (fail)
    generalize w.alloc (.cells #[.slice p S.length cap, .slice p' P.length cap'] 27) = W at *
    go_wp2_with (go_at_call 13; refine c.mono ?_; rintro e w1 ⟨rfl, hl1⟩)
    go_ret
    exact ⟨rfl, LL.trans hl1⟩

theorem laid_base (S : Syms) (P : List Thr) (k : Int) : baseF (laidF S P) k = if checkC S P = 0 then baseF S k else -1 := by
  unfold laidF
  by_cases h : checkC S P = 0
  · rw [if_pos h, if_pos h]
  · rw [if_neg h, if_neg h]
    unfold baseF
    rw [if_neg]
    simp only [List.length_nil]
    omega

set_option maxRecDepth 1000000 in
set_option maxHeartbeats 1000000 in
theorem refBase_any (u v : Value) (S : Syms) (P : List Thr) (k : Int) (hk : I64 k) (w : World) (hS : SymRow w u S) (hP : ThrRow w v P) (f : FineP S P) :
    Calls Tryd.prog 52 #[.agg #[u, v], .int .i64 k] w fun e w' => e = .returned (.int .i64 (baseF (laidF S P) k)) ∧ Later w w' := by
  rw [laid_base]
  have LL := Later.alloc (Later.refl w) (.cells #[u, v] 27)
  have c := refCheck_any u v S P _ (hS.kept LL.kept) (hP.kept LL.kept) f
  have c2 := fun (j : Nat) w' hl hz hj => refBase0_any u v S P j w' (hS.kept (Later.kept hl)) (hP.kept (Later.kept hl)) hz hj
  have hz0 := sized_check (S := S) (P := P)
  obtain ⟨p, cap, rfl, h1, h2⟩ := hS.slice
  obtain ⟨p', cap', rfl, h1', h2'⟩ := hP.slice
  obtain ⟨hB0, hB1, -⟩ := box2_facts (at_new w (.cells #[.slice p S.length cap, .slice p' P.length cap'] 27))
  clear hS hP f
  unfold maxLen at h2
  unfold I64 at hk
  generalize checkC S P = n at *
  by_cases h : n = 0
  · rw [if_pos h]
    have c2' := fun j w' hl hj => c2 j w' hl (hz0 h) hj
    subst h
    clear c2 hz0
    unfold baseF
    by_cases hk0 : k < 0
    · rw [if_neg (by omega)]
      clear c2'
      go_enter Tryd.func52, Tryd.ntmps52
      go_upto_region 1 with (fail)
      generalize w.alloc (.cells #[.slice p S.length cap, .slice p' P.length cap'] 27) = W at *
      go_wp2_with (go_at_call 13; refine c.mono ?_; rintro e w1 ⟨rfl, hl1⟩; have d0 := cell_later hB0 hl1; have d1 := cell_later hB1 hl1)
      go_ret
      exact ⟨rfl, LL.trans hl1⟩
    · obtain ⟨j, rfl⟩ : ∃ j : Nat, k = j := ⟨k.toNat, by omega⟩
      by_cases hj : j < S.length
      · rw [if_pos (by omega), Int.toNat_natCast]
        have c3 := fun w' hl => c2' j w' hl (by omega)
        clear c2'
        generalize sumF (S.take j) = m at *
        go_enter Tryd.func52, Tryd.ntmps52
        go_upto_region 1 with (fail)
        generalize w.alloc (.cells #[.slice p S.length cap, .slice p' P.length cap'] 27) = W at *
        go_wp2_with (first
          | (go_at_call 13; refine c.mono ?_; rintro e w1 ⟨rfl, hl1⟩; have d0 := cell_later hB0 hl1; have d1 := cell_later hB1 hl1)
          | (go_at_call 89; refine (c3 _ (LL.trans hl1)).mono ?_; rintro e w2 ⟨rfl, hl2⟩))
        go_ret
        exact ⟨rfl, LL.trans (hl1.trans hl2)⟩
      · rw [if_neg (by omega)]
        clear c2'
        go_enter Tryd.func52, Tryd.ntmps52
        go_upto_region 1 with (fail)
        generalize w.alloc (.cells #[.slice p S.length cap, .slice p' P.length cap'] 27) = W at *
        go_wp2_with (go_at_call 13; refine c.mono ?_; rintro e w1 ⟨rfl, hl1⟩; have d0 := cell_later hB0 hl1; have d1 := cell_later hB1 hl1)
        go_ret
        exact ⟨rfl, LL.trans hl1⟩
  · rw [if_neg h]
    have h' : (n != 0) = true := by simpa using h
    clear c2 hz0 h
    go_enter Tryd.func52, Tryd.ntmps52
    go_upto_region 1 with (fail)
    generalize w.alloc (.cells #[.slice p S.length cap, .slice p' P.length cap'] 27) = W at *
    go_wp2_with (go_at_call 13; refine c.mono ?_; rintro e w1 ⟨rfl, hl1⟩)
    go_ret
    exact ⟨rfl, LL.trans hl1⟩

theorem laid_sym (S : Syms) (P : List Thr) (a : Int) : symAt (laidF S P) a = if checkC S P = 0 then symAt S a else -1 := by
  unfold laidF
  by_cases h : checkC S P = 0
  · rw [if_pos h, if_pos h]
  · rw [if_neg h, if_neg h]
    unfold symAt
    split <;> rfl

set_option maxRecDepth 1000000 in
set_option maxHeartbeats 1000000 in
theorem refSym_any (u v : Value) (S : Syms) (P : List Thr) (a : Int) (ha : I64 a) (w : World) (hS : SymRow w u S) (hP : ThrRow w v P) (f : FineP S P) :
    Calls Tryd.prog 53 #[.agg #[u, v], .int .i64 a] w fun e w' => e = .returned (.int .i64 (symAt (laidF S P) a)) ∧ Later w w' := by
  rw [laid_sym]
  have LL := Later.alloc (Later.refl w) (.cells #[u, v] 27)
  have c := refCheck_any u v S P _ (hS.kept LL.kept) (hP.kept LL.kept) f
  have hz0 := sized_check (S := S) (P := P)
  have HS : Hid (SymRow w u S) := hS
  obtain ⟨p, cap, rfl, h1, h2⟩ := hS.slice
  obtain ⟨p', cap', rfl, h1', h2'⟩ := hP.slice
  obtain ⟨hB0, hB1, -⟩ := box2_facts (at_new w (.cells #[.slice p S.length cap, .slice p' P.length cap'] 27))
  clear hS hP f
  unfold maxLen at h2
  unfold I64 at ha
  generalize checkC S P = n at *
  by_cases h : n = 0
  · rw [if_pos h]
    have HZ : Hid (Sized S) := hz0 h
    subst h
    clear hz0
    by_cases ha0 : a < 0
    · rw [show symAt S a = -1 by unfold symAt; rw [if_pos ha0]]
      go_enter Tryd.func53, Tryd.ntmps53
      go_upto_region 1 with (fail)
      generalize w.alloc (.cells #[.slice p S.length cap, .slice p' P.length cap'] 27) = W at *
      go_wp2_with (go_at_call 13; refine c.mono ?_; rintro e w1 ⟨rfl, hl1⟩; have d0 := cell_later hB0 hl1; have d1 := cell_later hB1 hl1)
      go_ret
      exact ⟨rfl, LL.trans hl1⟩
    · have hsa : symAt S a = symF S a 0 := by unfold symAt; rw [if_neg ha0]
      have HA : Hid (symF (S.drop 0) a 0 = symAt S a) := hsa.symm
      clear hsa
      generalize symAt S a = r at *
      go_enter Tryd.func53, Tryd.ntmps53
      go_upto_region 1 with (fail)
      generalize w.alloc (.cells #[.slice p S.length cap, .slice p' P.length cap'] 27) = W at *
      go_wp2_with (go_at_call 13; refine c.mono ?_; rintro e w1 ⟨rfl, hl1⟩; have d0 := cell_later hB0 hl1; have d1 := cell_later hB1 hl1)
      clear c
      go_loopw [1, 5] (fun vn vi wr => ∃ (i : Nat) (b : Int), vi = .int .i64 (i : Nat) ∧ vn = .int .i64 b ∧ i ≤ S.length ∧ wr = w1 ∧ 0 ≤ b ∧ b ≤ a ∧ Hid (symF (S.drop i) b i = r)) (fun _ vi _ => S.length - (intOf vi).toNat)
      case atStart => exact ⟨0, a, rfl, rfl, by omega, rfl, by omega, by omega, HA⟩
      case round =>
        obtain ⟨i, b, rfl, rfl, hi, rfl, hn0, hn1, hF⟩ := hrel
        clear HA
        by_cases h8 : i < S.length
        · obtain ⟨⟨x, L⟩, ht⟩ : ∃ t, S[i]? = some t := ⟨_, List.getElem?_eq_getElem (by omega)⟩
          obtain ⟨g, o, rfl, -, -, hin, x0, x1, x2⟩ := (SymRow.kept HS.out (LL.trans hl1).kept).get ht
          have hc := hF.out
          rw [sym_drop ht] at hc
          obtain ⟨hb0, hb1, -⟩ := HZ.out.get ht
          dsimp only at hb0 hb1 hc
          clear ht hin HS HZ hF x0 x2
          by_cases hlt : b < x.size
          · rw [if_pos hlt] at hc
            have HC : Hid ((i : Int) = r) := hc
            clear hc
            go_wp2
            go_ret
            exact ⟨by rw [← HC.out]; rfl, LL.trans hl1⟩
          · rw [if_neg hlt] at hc
            have HC : Hid (symF (S.drop (i + 1)) (b - x.size) (i + 1) = r) := hc
            clear hc
            go_wp2
            go_roundw
            case rel => exact ⟨i + 1, b - x.size, by go_num, by go_num, by omega, (by first | rfl | trivial), by omega, by omega, HC⟩
            case measure => simp [intOf]; omega
        · have hc := hF.out
          rw [List.drop_of_length_le (by omega)] at hc
          have HC : Hid ((-1 : Int) = r) := hc
          clear hF HS HZ hc
          go_wp2
          go_ret
          exact ⟨by rw [← HC.out]; rfl, LL.trans hl1⟩
  · rw [if_neg h]
    have h' : (n != 0) = true := by simpa using h
    clear hz0 h HS
    go_enter Tryd.func53, Tryd.ntmps53
    go_upto_region 1 with (fail)
    generalize w.alloc (.cells #[.slice p S.length cap, .slice p' P.length cap'] 27) = W at *
    go_wp2_with (go_at_call 13; refine c.mono ?_; rintro e w1 ⟨rfl, hl1⟩)
    go_ret
    exact ⟨rfl, LL.trans hl1⟩

end Go.Proofs.YtgkdejldpldkiaaDoor
