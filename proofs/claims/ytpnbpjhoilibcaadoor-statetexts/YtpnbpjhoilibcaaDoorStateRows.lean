/-
  What the library's slices.Equal, package state's Same, the document's sameInts, SameEntries and Same return: whether two rows, two states, are the same. Nothing that was in memory turns. Conditions: they lie in memory.
-/
import Derived.Test.YtpnbpjhoilibcaaDoorStateEq
import Derived.Test.YtpnbpjhoilibcaaDoorRingEq
import Derived.BigQuiet
import Derived.Deep.QuietTactic
namespace Go.Proofs.YtpnbpjhoilibcaaDoor
open Go.RowKit
set_option linter.unusedVariables false
set_option linter.unusedSimpArgs false

set_option maxRecDepth 1000000 in
set_option maxHeartbeats 2000000 in
theorem eqInts_any (w : World) (u v : Value) (A B : List Int) (hA : IntsIn w u A) (hB : IntsIn w v B) :
    Calls Tryd.prog 18 #[u, v] w fun e w' => e = .returned (.bool (listEq intEq A B)) ∧ Later w w' := by
  obtain ⟨p, cap, rfl, h1, h2⟩ := RowIn.slice hA
  obtain ⟨q, caq, rfl, h3, h4⟩ := RowIn.slice hB
  unfold maxLen at h2 h4
  have HA : Hid (IntsIn w (.slice p A.length cap) A) := hA
  have HB : Hid (IntsIn w (.slice q B.length caq) B) := hB
  clear hA hB
  obtain ⟨d, hd0⟩ : ∃ d, listEq intEq A B = d := ⟨_, rfl⟩
  rw [hd0]
  by_cases hl : A.length = B.length
  · rw [hl] at HA h1 ⊢
    go_enter Tryd.func18, Tryd.ntmps18
    go_wp2
    go_loopw [13] (fun vi wr => ∃ i : Nat, vi = .int .i64 (i : Nat) ∧ i ≤ B.length ∧ Later w wr ∧ Hid (∀ k a b, k < i → A[k]? = some a → B[k]? = some b → intEq a b = true)) (fun vi _ => B.length - (intOf vi).toNat)
    case atStart => exact ⟨0, rfl, by omega, Later.refl _, Lib.hid (fun k a b hk => by omega)⟩
    case round =>
      obtain ⟨i, rfl, hi, hlw, hF⟩ := hrel
      by_cases h8 : i < B.length
      · obtain ⟨x, hx⟩ : ∃ x, A[i]? = some x := ⟨_, List.getElem?_eq_getElem (by omega)⟩
        obtain ⟨y, hy⟩ : ∃ y, B[i]? = some y := ⟨_, List.getElem?_eq_getElem (by omega)⟩
        obtain ⟨g, o, rfl, -, x0⟩ := (HA.out.later hlw).get hx
        obtain ⟨g', o', rfl, -, y0⟩ := (HB.out.later hlw).get hy
        have HX : Hid (A[i]? = some x) := hx
        have HY : Hid (B[i]? = some y) := hy
        clear hx hy HA HB
        cases hxy : intEq x y
        · obtain rfl : false = d := by rw [← hd0]; exact (listEq_not HX.out HY.out hxy).symm
          have hb : (x != y) = true := by have := hxy; simp [intEq] at this; simp [this]
          clear hxy hd0
          go_wp2
          go_quiet (fail)
          go_wp2
          go_ret
          exact ⟨rfl, Later.drewN hlw _⟩
        · have HE : Hid (intEq x y = true) := hxy
          have hb : (x != y) = false := by have := hxy; simp [intEq] at this; simp [this]
          clear hxy
          go_wp2
          go_quiet (fail)
          go_wp2
          go_roundw
          case rel => exact ⟨i + 1, by go_num, by omega, Later.drewN hlw _, Lib.hid (fun k a b hk ha hb => by
            rcases Nat.lt_or_ge k i with h' | h'
            · exact hF.out k a b h' ha hb
            · obtain rfl : k = i := by omega
              rw [HX.out] at ha; rw [HY.out] at hb
              cases ha; cases hb; exact HE.out)⟩
          case measure => simp [intOf] <;> omega
      · obtain rfl : i = B.length := by omega
        obtain rfl : true = d := by rw [← hd0]; exact (listEq_all hl (fun k a b ha hb => hF.out k a b (by have := (List.getElem?_eq_some_iff.1 hb).1; omega) ha hb)).symm
        clear HA HB
        go_wp2
        go_ret
        exact ⟨rfl, hlw⟩
  · obtain rfl : false = d := by rw [← hd0]; exact (listEq_len hl).symm
    have hl' : ¬ (A.length : Int) = B.length := by omega
    go_enter Tryd.func18, Tryd.ntmps18
    go_wp2
    go_ret
    exact ⟨rfl, Later.refl _⟩

set_option maxRecDepth 1000000 in
set_option maxHeartbeats 2000000 in
theorem eqTs_any (w : World) (u v : Value) (A B : List TS) (hA : TsRow w u A) (hB : TsRow w v B) :
    Calls Tryd.prog 19 #[u, v] w fun e w' => e = .returned (.bool (listEq tsEq A B)) ∧ Later w w' := by
  obtain ⟨p, cap, rfl, h1, h2⟩ := RowIn.slice hA
  obtain ⟨q, caq, rfl, h3, h4⟩ := RowIn.slice hB
  unfold maxLen at h2 h4
  have HA : Hid (TsRow w (.slice p A.length cap) A) := hA
  have HB : Hid (TsRow w (.slice q B.length caq) B) := hB
  clear hA hB
  have q1 := ts_guard
  have q2 := fun (a b : TS) w => equal_ts a b w
  unfold tsV at q2
  obtain ⟨d, hd0⟩ : ∃ d, listEq tsEq A B = d := ⟨_, rfl⟩
  rw [hd0]
  by_cases hl : A.length = B.length
  · rw [hl] at HA h1 ⊢
    go_enter Tryd.func19, Tryd.ntmps19
    go_wp2
    go_loopw [13] (fun vi wr => ∃ i : Nat, vi = .int .i64 (i : Nat) ∧ i ≤ B.length ∧ Later w wr ∧ Hid (∀ k a b, k < i → A[k]? = some a → B[k]? = some b → tsEq a b = true)) (fun vi _ => B.length - (intOf vi).toNat)
    case atStart => exact ⟨0, rfl, by omega, Later.refl _, Lib.hid (fun k a b hk => by omega)⟩
    case round =>
      obtain ⟨i, rfl, hi, hlw, hF⟩ := hrel
      by_cases h8 : i < B.length
      · obtain ⟨x, hx⟩ : ∃ x, A[i]? = some x := ⟨_, List.getElem?_eq_getElem (by omega)⟩
        obtain ⟨y, hy⟩ : ∃ y, B[i]? = some y := ⟨_, List.getElem?_eq_getElem (by omega)⟩
        obtain ⟨g, o, rfl, -, ⟨x0, x1, x2, x3, x4, x5, x6, x7, x8, x9, x10, x11, x12, x13, x14, x15⟩⟩ := (HA.out.later hlw).get hx
        obtain ⟨g', o', rfl, -, ⟨y0, y1, y2, y3, y4, y5, y6, y7, y8, y9, y10, y11, y12, y13, y14, y15⟩⟩ := (HB.out.later hlw).get hy
        have HX : Hid (A[i]? = some x) := hx
        have HY : Hid (B[i]? = some y) := hy
        clear hx hy HA HB
        cases hxy : tsEq x y
        · obtain rfl : false = d := by rw [← hd0]; exact (listEq_not HX.out HY.out hxy).symm
          have hb : tsEq x y = false := hxy
          clear hxy hd0
          go_wp2
          go_quiet (fail)
          go_wp2
          go_ret
          exact ⟨rfl, Later.drewN hlw _⟩
        · have HE : Hid (tsEq x y = true) := hxy
          have hb : tsEq x y = true := hxy
          clear hxy
          go_wp2
          go_quiet (fail)
          go_wp2
          go_roundw
          case rel => exact ⟨i + 1, by go_num, by omega, Later.drewN hlw _, Lib.hid (fun k a b hk ha hb => by
            rcases Nat.lt_or_ge k i with h' | h'
            · exact hF.out k a b h' ha hb
            · obtain rfl : k = i := by omega
              rw [HX.out] at ha; rw [HY.out] at hb
              cases ha; cases hb; exact HE.out)⟩
          case measure => simp [intOf] <;> omega
      · obtain rfl : i = B.length := by omega
        obtain rfl : true = d := by rw [← hd0]; exact (listEq_all hl (fun k a b ha hb => hF.out k a b (by have := (List.getElem?_eq_some_iff.1 hb).1; omega) ha hb)).symm
        clear HA HB
        go_wp2
        go_ret
        exact ⟨rfl, hlw⟩
  · obtain rfl : false = d := by rw [← hd0]; exact (listEq_len hl).symm
    have hl' : ¬ (A.length : Int) = B.length := by omega
    go_enter Tryd.func19, Tryd.ntmps19
    go_wp2
    go_ret
    exact ⟨rfl, Later.refl _⟩

set_option maxRecDepth 1000000 in
set_option maxHeartbeats 2000000 in
theorem eqEnts_any (w : World) (u v : Value) (A B : List (Int × Int)) (hA : EntRow w u A) (hB : EntRow w v B) :
    Calls Tryd.prog 38 #[u, v] w fun e w' => e = .returned (.bool (listEq entEq A B)) ∧ Later w w' := by
  obtain ⟨p, cap, rfl, h1, h2⟩ := RowIn.slice hA
  obtain ⟨q, caq, rfl, h3, h4⟩ := RowIn.slice hB
  unfold maxLen at h2 h4
  have HA : Hid (EntRow w (.slice p A.length cap) A) := hA
  have HB : Hid (EntRow w (.slice q B.length caq) B) := hB
  clear hA hB
  have q1 := ent_guard
  have q2 := fun a b c d w => equal_ent a b c d w
  obtain ⟨d, hd0⟩ : ∃ d, listEq entEq A B = d := ⟨_, rfl⟩
  rw [hd0]
  by_cases hl : A.length = B.length
  · rw [hl] at HA h1 ⊢
    go_enter Tryd.func38, Tryd.ntmps38
    go_wp2
    go_loopw [13] (fun vi wr => ∃ i : Nat, vi = .int .i64 (i : Nat) ∧ i ≤ B.length ∧ Later w wr ∧ Hid (∀ k a b, k < i → A[k]? = some a → B[k]? = some b → entEq a b = true)) (fun vi _ => B.length - (intOf vi).toNat)
    case atStart => exact ⟨0, rfl, by omega, Later.refl _, Lib.hid (fun k a b hk => by omega)⟩
    case round =>
      obtain ⟨i, rfl, hi, hlw, hF⟩ := hrel
      by_cases h8 : i < B.length
      · obtain ⟨x, hx⟩ : ∃ x, A[i]? = some x := ⟨_, List.getElem?_eq_getElem (by omega)⟩
        obtain ⟨y, hy⟩ : ∃ y, B[i]? = some y := ⟨_, List.getElem?_eq_getElem (by omega)⟩
        obtain ⟨g, o, rfl, x0, x1⟩ := (HA.out.later hlw).get hx
        obtain ⟨g', o', rfl, y0, y1⟩ := (HB.out.later hlw).get hy
        have HX : Hid (A[i]? = some x) := hx
        have HY : Hid (B[i]? = some y) := hy
        clear hx hy HA HB
        cases hxy : entEq x y
        · obtain rfl : false = d := by rw [← hd0]; exact (listEq_not HX.out HY.out hxy).symm
          have hb : (x.1 == y.1 && x.2 == y.2) = false := hxy
          clear hxy hd0
          go_wp2
          go_quiet (fail)
          go_wp2
          go_ret
          exact ⟨rfl, Later.drewN hlw _⟩
        · have HE : Hid (entEq x y = true) := hxy
          have hb : (x.1 == y.1 && x.2 == y.2) = true := hxy
          clear hxy
          go_wp2
          go_quiet (fail)
          go_wp2
          go_roundw
          case rel => exact ⟨i + 1, by go_num, by omega, Later.drewN hlw _, Lib.hid (fun k a b hk ha hb => by
            rcases Nat.lt_or_ge k i with h' | h'
            · exact hF.out k a b h' ha hb
            · obtain rfl : k = i := by omega
              rw [HX.out] at ha; rw [HY.out] at hb
              cases ha; cases hb; exact HE.out)⟩
          case measure => simp [intOf] <;> omega
      · obtain rfl : i = B.length := by omega
        obtain rfl : true = d := by rw [← hd0]; exact (listEq_all hl (fun k a b ha hb => hF.out k a b (by have := (List.getElem?_eq_some_iff.1 hb).1; omega) ha hb)).symm
        clear HA HB
        go_wp2
        go_ret
        exact ⟨rfl, hlw⟩
  · obtain rfl : false = d := by rw [← hd0]; exact (listEq_len hl).symm
    have hl' : ¬ (A.length : Int) = B.length := by omega
    go_enter Tryd.func38, Tryd.ntmps38
    go_wp2
    go_ret
    exact ⟨rfl, Later.refl _⟩

set_option maxRecDepth 1000000 in
set_option maxHeartbeats 2000000 in
theorem refInts_any (w : World) (u v : Value) (A B : List Int) (hA : IntsIn w u A) (hB : IntsIn w v B) :
    Calls Tryd.prog 22 #[u, v] w fun e w' => e = .returned (.bool (listEq intEq A B)) ∧ Later w w' := by
  obtain ⟨p, cap, rfl, h1, h2⟩ := RowIn.slice hA
  obtain ⟨q, caq, rfl, h3, h4⟩ := RowIn.slice hB
  unfold maxLen at h2 h4
  have HA : Hid (IntsIn w (.slice p A.length cap) A) := hA
  have HB : Hid (IntsIn w (.slice q B.length caq) B) := hB
  clear hA hB
  obtain ⟨d, hd0⟩ : ∃ d, listEq intEq A B = d := ⟨_, rfl⟩
  rw [hd0]
  by_cases hl : A.length = B.length
  · rw [hl] at HA h1 ⊢
    go_enter Tryd.func22, Tryd.ntmps22
    go_wp2
    go_loopw [5] (fun vi wr => ∃ i : Nat, vi = .int .i64 (i : Nat) ∧ i ≤ B.length ∧ Later w wr ∧ Hid (∀ k a b, k < i → A[k]? = some a → B[k]? = some b → intEq a b = true)) (fun vi _ => B.length - (intOf vi).toNat)
    case atStart => exact ⟨0, rfl, by omega, Later.refl _, Lib.hid (fun k a b hk => by omega)⟩
    case round =>
      obtain ⟨i, rfl, hi, hlw, hF⟩ := hrel
      by_cases h8 : i < B.length
      · obtain ⟨x, hx⟩ : ∃ x, A[i]? = some x := ⟨_, List.getElem?_eq_getElem (by omega)⟩
        obtain ⟨y, hy⟩ : ∃ y, B[i]? = some y := ⟨_, List.getElem?_eq_getElem (by omega)⟩
        obtain ⟨g, o, rfl, -, x0⟩ := (HA.out.later hlw).get hx
        obtain ⟨g', o', rfl, -, y0⟩ := (HB.out.later hlw).get hy
        have HX : Hid (A[i]? = some x) := hx
        have HY : Hid (B[i]? = some y) := hy
        clear hx hy HA HB
        cases hxy : intEq x y
        · obtain rfl : false = d := by rw [← hd0]; exact (listEq_not HX.out HY.out hxy).symm
          have hb : (x != y) = true := by have := hxy; simp [intEq] at this; simp [this]
          clear hxy hd0
          go_wp2
          go_quiet (fail)
          go_wp2
          go_ret
          exact ⟨rfl, Later.drewN hlw _⟩
        · have HE : Hid (intEq x y = true) := hxy
          have hb : (x != y) = false := by have := hxy; simp [intEq] at this; simp [this]
          clear hxy
          go_wp2
          go_quiet (fail)
          go_wp2
          go_roundw
          case rel => exact ⟨i + 1, by go_num, by omega, Later.drewN hlw _, Lib.hid (fun k a b hk ha hb => by
            rcases Nat.lt_or_ge k i with h' | h'
            · exact hF.out k a b h' ha hb
            · obtain rfl : k = i := by omega
              rw [HX.out] at ha; rw [HY.out] at hb
              cases ha; cases hb; exact HE.out)⟩
          case measure => simp [intOf] <;> omega
      · obtain rfl : i = B.length := by omega
        obtain rfl : true = d := by rw [← hd0]; exact (listEq_all hl (fun k a b ha hb => hF.out k a b (by have := (List.getElem?_eq_some_iff.1 hb).1; omega) ha hb)).symm
        clear HA HB
        go_wp2
        go_ret
        exact ⟨rfl, hlw⟩
  · obtain rfl : false = d := by rw [← hd0]; exact (listEq_len hl).symm
    have hl' : ¬ (A.length : Int) = B.length := by omega
    go_enter Tryd.func22, Tryd.ntmps22
    go_wp2
    go_ret
    exact ⟨rfl, Later.refl _⟩

set_option maxRecDepth 1000000 in
set_option maxHeartbeats 2000000 in
theorem refEnts_any (w : World) (u v : Value) (A B : List (Int × Int)) (hA : EntRow w u A) (hB : EntRow w v B) :
    Calls Tryd.prog 23 #[u, v] w fun e w' => e = .returned (.bool (listEq entEq A B)) ∧ Later w w' := by
  obtain ⟨p, cap, rfl, h1, h2⟩ := RowIn.slice hA
  obtain ⟨q, caq, rfl, h3, h4⟩ := RowIn.slice hB
  unfold maxLen at h2 h4
  have HA : Hid (EntRow w (.slice p A.length cap) A) := hA
  have HB : Hid (EntRow w (.slice q B.length caq) B) := hB
  clear hA hB
  have q1 := ent_guard
  have q2 := fun a b c d w => equal_ent a b c d w
  obtain ⟨d, hd0⟩ : ∃ d, listEq entEq A B = d := ⟨_, rfl⟩
  rw [hd0]
  by_cases hl : A.length = B.length
  · rw [hl] at HA h1 ⊢
    go_enter Tryd.func23, Tryd.ntmps23
    go_wp2
    go_loopw [5] (fun vi wr => ∃ i : Nat, vi = .int .i64 (i : Nat) ∧ i ≤ B.length ∧ Later w wr ∧ Hid (∀ k a b, k < i → A[k]? = some a → B[k]? = some b → entEq a b = true)) (fun vi _ => B.length - (intOf vi).toNat)
    case atStart => exact ⟨0, rfl, by omega, Later.refl _, Lib.hid (fun k a b hk => by omega)⟩
    case round =>
      obtain ⟨i, rfl, hi, hlw, hF⟩ := hrel
      by_cases h8 : i < B.length
      · obtain ⟨x, hx⟩ : ∃ x, A[i]? = some x := ⟨_, List.getElem?_eq_getElem (by omega)⟩
        obtain ⟨y, hy⟩ : ∃ y, B[i]? = some y := ⟨_, List.getElem?_eq_getElem (by omega)⟩
        obtain ⟨g, o, rfl, x0, x1⟩ := (HA.out.later hlw).get hx
        obtain ⟨g', o', rfl, y0, y1⟩ := (HB.out.later hlw).get hy
        have HX : Hid (A[i]? = some x) := hx
        have HY : Hid (B[i]? = some y) := hy
        clear hx hy HA HB
        cases hxy : entEq x y
        · obtain rfl : false = d := by rw [← hd0]; exact (listEq_not HX.out HY.out hxy).symm
          have hb : (x.1 == y.1 && x.2 == y.2) = false := hxy
          clear hxy hd0
          go_wp2
          go_quiet (fail)
          go_wp2
          go_ret
          exact ⟨rfl, Later.drewN hlw _⟩
        · have HE : Hid (entEq x y = true) := hxy
          have hb : (x.1 == y.1 && x.2 == y.2) = true := hxy
          clear hxy
          go_wp2
          go_quiet (fail)
          go_wp2
          go_roundw
          case rel => exact ⟨i + 1, by go_num, by omega, Later.drewN hlw _, Lib.hid (fun k a b hk ha hb => by
            rcases Nat.lt_or_ge k i with h' | h'
            · exact hF.out k a b h' ha hb
            · obtain rfl : k = i := by omega
              rw [HX.out] at ha; rw [HY.out] at hb
              cases ha; cases hb; exact HE.out)⟩
          case measure => simp [intOf] <;> omega
      · obtain rfl : i = B.length := by omega
        obtain rfl : true = d := by rw [← hd0]; exact (listEq_all hl (fun k a b ha hb => hF.out k a b (by have := (List.getElem?_eq_some_iff.1 hb).1; omega) ha hb)).symm
        clear HA HB
        go_wp2
        go_ret
        exact ⟨rfl, hlw⟩
  · obtain rfl : false = d := by rw [← hd0]; exact (listEq_len hl).symm
    have hl' : ¬ (A.length : Int) = B.length := by omega
    go_enter Tryd.func23, Tryd.ntmps23
    go_wp2
    go_ret
    exact ⟨rfl, Later.refl _⟩

end Go.Proofs.YtpnbpjhoilibcaaDoor
