/-
  What package cells returns of a program: how many cells its symbols have, where each begins, which symbol has a cell. Nothing that was in memory turns. Conditions: the program lies in memory, its texts are short, the words' tables are as listed.
-/
import Derived.Test.YtgkdejldpldkiaaDoorCellsPlain
import Derived.Test.YtgkdejldpldkiaaDoorJj
import Derived.Test.YtgkdejldpldkiaaDoorJk
namespace Go.Proofs.YtgkdejldpldkiaaDoor
open Go.RowKit
set_option linter.unusedVariables false
set_option linter.unusedSimpArgs false

theorem laid_row {u : Value} {S : Syms} {w : World} (P : List Thr) (hS : SymRow w u S) : ∃ p cap, (if checkC S P = 0 then u else .slice none 0 0) = .slice p (laidF S P).length cap ∧ SymRow w (.slice p (laidF S P).length cap) (laidF S P) := by
  unfold laidF
  by_cases h : checkC S P = 0
  · obtain ⟨p, cap, rfl, -, -⟩ := hS.slice
    rw [if_pos h, if_pos h]
    exact ⟨p, cap, rfl, hS⟩
  · rw [if_neg h, if_neg h]
    exact ⟨none, 0, rfl, RowIn.nil _ _ _⟩

set_option maxRecDepth 1000000 in
set_option maxHeartbeats 1000000 in
theorem laid_any (u v : Value) (S : Syms) (P : List Thr) (w : World) (hG : NamesGood w) (hS : SymRow w u S) (hP : ThrRow w v P) (f : FineP S P) :
    Calls Tryd.prog 55 #[.agg #[u, v]] w fun e w' => e = .returned (if checkC S P = 0 then u else .slice none 0 0) ∧ Later w w' := by
  have LL := Later.alloc (Later.refl w) (.cells #[u, v] 27)
  have c := check_any u v S P _ (hG.later LL) (hS.kept LL.kept) (hP.kept LL.kept) f
  obtain ⟨p, cap, rfl, h1, h2⟩ := hS.slice
  obtain ⟨p', cap', rfl, h1', h2'⟩ := hP.slice
  obtain ⟨hB0, hB1, -⟩ := box2_facts (at_new w (.cells #[.slice p S.length cap, .slice p' P.length cap'] 27))
  clear hS hP hG f
  generalize checkC S P = n at *
  by_cases h : n = 0
  · subst h
    rw [if_pos rfl]
    go_enter Tryd.func55, Tryd.ntmps55
    go_upto_region 1 with (fail)
    generalize w.alloc (.cells #[.slice p S.length cap, .slice p' P.length cap'] 27) = W at *
    go_wp2_with (go_at_call 11; refine c.mono ?_; rintro e w1 ⟨rfl, hl1⟩; have d0 := cell_later hB0 hl1; have d1 := cell_later hB1 hl1)
    go_ret
    exact ⟨rfl, LL.trans hl1⟩
  · rw [if_neg h]
    have h' : (n != 0) = true := by simpa using h
    clear h
    go_enter Tryd.func55, Tryd.ntmps55
    go_upto_region 1 with (fail)
    generalize w.alloc (.cells #[.slice p S.length cap, .slice p' P.length cap'] 27) = W at *
    go_wp2_with (go_at_call 11; refine c.mono ?_; rintro e w1 ⟨rfl, hl1⟩)
    go_ret
    exact ⟨rfl, LL.trans hl1⟩

set_option maxRecDepth 1000000 in
set_option maxHeartbeats 1000000 in
theorem total_any (u : Value) (S : Syms) (w : World) (hS : SymRow w u S) (hz : Sized S) :
    Calls Tryd.prog 56 #[u] w fun e w' => e = .returned (.int .i64 (sumF S)) ∧ Later w w' := by
  obtain ⟨p, cap, rfl, h1, h2⟩ := hS.slice
  unfold maxLen at h2
  have HS : Hid (SymRow w (.slice p S.length cap) S) := hS
  have HZ : Hid (Sized S) := hz
  clear hS hz
  go_enter Tryd.func56, Tryd.ntmps56
  go_wp2
  go_loopw [3, 8] (fun vn vi wr => ∃ (i : Nat) (n : Int), vi = .int .i64 (i : Nat) ∧ vn = .int .i64 n ∧ i ≤ S.length ∧ Later w wr ∧ 0 ≤ n ∧ n ≤ 4096 ∧ Hid (sumF (S.take i) = n)) (fun _ vi _ => S.length - (intOf vi).toNat)
  case atStart => exact ⟨0, 0, rfl, rfl, by omega, Later.refl _, by omega, by omega, rfl⟩
  case round =>
    obtain ⟨i, n, rfl, rfl, hi, hlw, hn0, hn1, hF⟩ := hrel
    by_cases h8 : i < S.length
    · obtain ⟨⟨x, L⟩, ht⟩ : ∃ t, S[i]? = some t := ⟨_, List.getElem?_eq_getElem h8⟩
      obtain ⟨g, o, rfl, -, -, hin, x0, x1, x2⟩ := (SymRow.kept HS.out hlw.kept).get ht
      have hc : Hid (sumF (S.take (i + 1)) = n + x.size) := by show _ = _; rw [sum_next ht, hF.out]
      obtain ⟨hb0, hb1, -⟩ := HZ.out.get ht
      have hs := HZ.out.sum (i + 1)
      rw [hc.out] at hs
      obtain ⟨hs0, hs1⟩ := hs
      obtain ⟨q, dap, hlb, -, -⟩ := hin.slice
      rw [hlb] at x2
      dsimp only at hb0 hb1
      have hlb2 : Hid (x.init = .slice q L.length dap) := hlb
      clear ht hin HS HZ hF hlb
      go_wp2
      go_roundw
      case rel => exact ⟨i + 1, n + x.size, by go_num, by go_num, by omega, (by repeat (first | exact hlw | refine Later.alloc ?_ _)), by omega, by omega, hc⟩
      case measure => simp [intOf]; omega
    · have hc := hF.out
      rw [List.take_of_length_le (by omega)] at hc
      clear hF HS HZ
      go_wp2
      go_ret
      exact ⟨by rw [hc]; rfl, hlw⟩

set_option maxRecDepth 1000000 in
set_option maxHeartbeats 1000000 in
theorem size_any (u v : Value) (S : Syms) (P : List Thr) (w : World) (hG : NamesGood w) (hS : SymRow w u S) (hP : ThrRow w v P) (f : FineP S P) :
    Calls Tryd.prog 27 #[.agg #[u, v]] w fun e w' => e = .returned (.int .i64 (sumF (laidF S P))) ∧ Later w w' := by
  have LL := Later.alloc (Later.refl w) (.cells #[u, v] 27)
  have cL := fun w' hl => laid_any u v S P w' (NamesGood.later hG hl) (hS.kept (Later.kept hl)) (hP.kept (Later.kept hl)) f
  obtain ⟨q, dap, hV, hT⟩ := laid_row P hS
  rw [hV] at cL
  have hz := laid_sized S P
  obtain ⟨p, cap, rfl, h1, h2⟩ := hS.slice
  obtain ⟨p', cap', rfl, h1', h2'⟩ := hP.slice
  obtain ⟨hB0, hB1, -⟩ := box2_facts (at_new w (.cells #[.slice p S.length cap, .slice p' P.length cap'] 27))
  clear hS hP hG f hV
  generalize laidF S P = T at *
  have cT := fun w' hl => total_any (.slice q T.length dap) T w' (hT.kept (Later.kept hl)) hz
  clear hT hz
  generalize sumF T = m at *
  go_enter Tryd.func27, Tryd.ntmps27
  go_upto_region 1 with (fail)
  generalize w.alloc (.cells #[.slice p S.length cap, .slice p' P.length cap'] 27) = W at *
  go_wp2_with (first
    | (go_at_call 55; refine (cL _ LL).mono ?_; rintro e w1 ⟨rfl, hl1⟩; have d0 := cell_later hB0 hl1; have d1 := cell_later hB1 hl1)
    | (go_at_call 56; refine (cT _ (LL.trans hl1)).mono ?_; rintro e w2 ⟨rfl, hl2⟩))
  go_ret
  exact ⟨rfl, LL.trans (hl1.trans hl2)⟩

set_option maxRecDepth 1000000 in
set_option maxHeartbeats 1000000 in
theorem base_any (u v : Value) (S : Syms) (P : List Thr) (k : Int) (hk : I64 k) (w : World) (hG : NamesGood w) (hS : SymRow w u S) (hP : ThrRow w v P) (f : FineP S P) :
    Calls Tryd.prog 24 #[.agg #[u, v], .int .i64 k] w fun e w' => e = .returned (.int .i64 (baseF (laidF S P) k)) ∧ Later w w' := by
  have LL := Later.alloc (Later.refl w) (.cells #[u, v] 27)
  have cL := fun w' hl => laid_any u v S P w' (NamesGood.later hG hl) (hS.kept (Later.kept hl)) (hP.kept (Later.kept hl)) f
  obtain ⟨q, dap, hV, hT⟩ := laid_row P hS
  rw [hV] at cL
  have hz := laid_sized S P
  obtain ⟨p, cap, rfl, h1, h2⟩ := hS.slice
  obtain ⟨p', cap', rfl, h1', h2'⟩ := hP.slice
  obtain ⟨hB0, hB1, -⟩ := box2_facts (at_new w (.cells #[.slice p S.length cap, .slice p' P.length cap'] 27))
  clear hS hP hG f hV
  generalize laidF S P = T at *
  obtain ⟨-, hc, hm⟩ : ∃ (_ : True), T.length ≤ dap ∧ dap ≤ maxLen := by
    obtain ⟨a, b, e, h3, h4⟩ := hT.slice
    cases e
    exact ⟨trivial, h3, h4⟩
  unfold maxLen at hm
  unfold I64 at hk
  have hfew := hz.few
  have cT := fun (j : Nat) w' hl (hj : j ≤ T.length) => total_any (.slice q j dap) (T.take j) w' (SymRow.kept (RowIn.take hT j hj) (Later.kept hl)) (hz.take j)
  clear hT hz
  unfold baseF
  by_cases hk0 : k < 0
  · rw [if_neg (by omega)]
    clear cT
    go_enter Tryd.func24, Tryd.ntmps24
    go_upto_region 1 with (fail)
    generalize w.alloc (.cells #[.slice p S.length cap, .slice p' P.length cap'] 27) = W at *
    go_wp2_with (go_at_call 55; refine (cL _ LL).mono ?_; rintro e w1 ⟨rfl, hl1⟩; have d0 := cell_later hB0 hl1; have d1 := cell_later hB1 hl1)
    go_ret
    exact ⟨rfl, LL.trans hl1⟩
  · obtain ⟨j, rfl⟩ : ∃ j : Nat, k = j := ⟨k.toNat, by omega⟩
    by_cases hj : j < T.length
    · rw [if_pos (by omega), Int.toNat_natCast]
      have c3 := fun w' hl => cT j w' hl (by omega)
      clear cT
      generalize sumF (T.take j) = m at *
      go_enter Tryd.func24, Tryd.ntmps24
      go_upto_region 1 with (fail)
      generalize w.alloc (.cells #[.slice p S.length cap, .slice p' P.length cap'] 27) = W at *
      go_wp2_with (first
        | (go_at_call 55; refine (cL _ LL).mono ?_; rintro e w1 ⟨rfl, hl1⟩; have d0 := cell_later hB0 hl1; have d1 := cell_later hB1 hl1)
        | (go_at_call 56; refine (c3 _ (LL.trans hl1)).mono ?_; rintro e w2 ⟨rfl, hl2⟩))
      go_ret
      exact ⟨rfl, LL.trans (hl1.trans hl2)⟩
    · rw [if_neg (by omega)]
      clear cT
      go_enter Tryd.func24, Tryd.ntmps24
      go_upto_region 1 with (fail)
      generalize w.alloc (.cells #[.slice p S.length cap, .slice p' P.length cap'] 27) = W at *
      go_wp2_with (go_at_call 55; refine (cL _ LL).mono ?_; rintro e w1 ⟨rfl, hl1⟩; have d0 := cell_later hB0 hl1; have d1 := cell_later hB1 hl1)
      go_ret
      exact ⟨rfl, LL.trans hl1⟩

set_option maxRecDepth 1000000 in
set_option maxHeartbeats 1000000 in
theorem sym_any (u v : Value) (S : Syms) (P : List Thr) (a : Int) (ha : I64 a) (w : World) (hG : NamesGood w) (hS : SymRow w u S) (hP : ThrRow w v P) (f : FineP S P) :
    Calls Tryd.prog 26 #[.agg #[u, v], .int .i64 a] w fun e w' => e = .returned (.int .i64 (symAt (laidF S P) a)) ∧ Later w w' := by
  have LL := Later.alloc (Later.refl w) (.cells #[u, v] 27)
  have cL := fun w' hl => laid_any u v S P w' (NamesGood.later hG hl) (hS.kept (Later.kept hl)) (hP.kept (Later.kept hl)) f
  obtain ⟨q, dap, hV, hT⟩ := laid_row P hS
  rw [hV] at cL
  have hz := laid_sized S P
  obtain ⟨p, cap, rfl, h1, h2⟩ := hS.slice
  obtain ⟨p', cap', rfl, h1', h2'⟩ := hP.slice
  obtain ⟨hB0, hB1, -⟩ := box2_facts (at_new w (.cells #[.slice p S.length cap, .slice p' P.length cap'] 27))
  clear hS hP hG f hV
  generalize laidF S P = T at *
  obtain ⟨-, hc, hm⟩ : ∃ (_ : True), T.length ≤ dap ∧ dap ≤ maxLen := by
    obtain ⟨a, b, e, h3, h4⟩ := hT.slice
    cases e
    exact ⟨trivial, h3, h4⟩
  unfold maxLen at hm
  unfold I64 at ha
  have hfew := hz.few
  have HT : Hid (SymRow w (.slice q T.length dap) T) := hT
  have HZ : Hid (Sized T) := hz
  clear hT hz
  by_cases ha0 : a < 0
  · rw [show symAt T a = -1 by unfold symAt; rw [if_pos ha0]]
    go_enter Tryd.func26, Tryd.ntmps26
    go_upto_region 1 with (fail)
    generalize w.alloc (.cells #[.slice p S.length cap, .slice p' P.length cap'] 27) = W at *
    go_wp2
    go_ret
    exact ⟨rfl, LL⟩
  · have hsa : symAt T a = symF T a 0 := by unfold symAt; rw [if_neg ha0]
    have HA : Hid (symF (T.drop 0) a 0 = symAt T a) := hsa.symm
    clear hsa
    generalize symAt T a = r at *
    go_enter Tryd.func26, Tryd.ntmps26
    go_upto_region 1 with (fail)
    generalize w.alloc (.cells #[.slice p S.length cap, .slice p' P.length cap'] 27) = W at *
    go_wp2_with (go_at_call 55; refine (cL _ LL).mono ?_; rintro e w1 ⟨rfl, hl1⟩; have d0 := cell_later hB0 hl1; have d1 := cell_later hB1 hl1)
    clear cL
    go_loopw [1, 12] (fun vn vi wr => ∃ (i : Nat) (b : Int), vi = .int .i64 (i : Nat) ∧ vn = .int .i64 b ∧ i ≤ T.length ∧ Later w wr ∧ 0 ≤ b ∧ b ≤ a ∧ Hid (symF (T.drop i) b i = r)) (fun _ vi _ => T.length - (intOf vi).toNat)
    case atStart => exact ⟨0, a, rfl, rfl, by omega, LL.trans hl1, by omega, by omega, HA⟩
    case round =>
      obtain ⟨i, b, rfl, rfl, hi, hlw, hn0, hn1, hF⟩ := hrel
      clear HA
      by_cases h8 : i < T.length
      · obtain ⟨⟨x, L⟩, ht⟩ : ∃ t, T[i]? = some t := ⟨_, List.getElem?_eq_getElem (by omega)⟩
        obtain ⟨g, o, rfl, -, -, hin, x0, x1, x2⟩ := (SymRow.kept HT.out hlw.kept).get ht
        have hc := hF.out
        rw [sym_drop ht] at hc
        obtain ⟨hb0, hb1, -⟩ := HZ.out.get ht
        obtain ⟨q', dap', hlb, -, -⟩ := hin.slice
        rw [hlb] at x2
        dsimp only at hb0 hb1 hc
        have hlb2 : Hid (x.init = .slice q' L.length dap') := hlb
        clear ht hin HT HZ hF hlb
        by_cases hlt : b < x.size
        · rw [if_pos hlt] at hc
          have HC : Hid ((i : Int) = r) := hc
          clear hc
          go_wp2
          go_ret
          exact ⟨by rw [← HC.out]; rfl, Later.alloc hlw _⟩
        · rw [if_neg hlt] at hc
          have HC : Hid (symF (T.drop (i + 1)) (b - x.size) (i + 1) = r) := hc
          clear hc
          go_wp2
          go_roundw
          case rel => exact ⟨i + 1, b - x.size, by go_num, by go_num, by omega, (by repeat (first | exact hlw | refine Later.alloc ?_ _)), by omega, by omega, HC⟩
          case measure => simp [intOf]; omega
      · have hc := hF.out
        rw [List.drop_of_length_le (by omega)] at hc
        have HC : Hid ((-1 : Int) = r) := hc
        clear hF HT HZ hc
        go_wp2
        go_ret
        exact ⟨by rw [← HC.out]; rfl, hlw⟩

end Go.Proofs.YtgkdejldpldkiaaDoor
