/-
  Which cell an operand tells, by package cells: Addr. Nothing that was in memory turns. Conditions: the program lies in memory, its texts are short, the words' tables are as listed.
-/
import Derived.Test.YtgkdejldpldkiaaDoorCellsB
namespace Go.Proofs.YtgkdejldpldkiaaDoor
open Go.RowKit
set_option linter.unusedVariables false
set_option linter.unusedSimpArgs false

theorem place_facts {o : Opd} {r : Nat → Int} {n : Int} (h : placeF o r = some n) : 0 ≤ o.sym ∧ opdRightF o = true ∧ (o.kind = 3 ∧ n = o.n ∨ o.kind = 4 ∧ n = r o.reg.toNat ∧ 0 ≤ o.reg ∧ o.reg ≤ 7) := by
  unfold placeF at h
  by_cases h1 : opdRightF o = true
  · rw [if_pos h1] at h
    have h2 := h1
    simp only [opdRightF, decide_eq_true_eq] at h2
    by_cases h3 : o.kind = 3
    · rw [if_pos h3] at h
      cases h
      exact ⟨by omega, h1, Or.inl ⟨h3, rfl⟩⟩
    · rw [if_neg h3] at h
      by_cases h4 : o.kind = 4
      · rw [if_pos h4] at h
        cases h
        exact ⟨by omega, h1, Or.inr ⟨h4, rfl, by omega, by omega⟩⟩
      · rw [if_neg h4] at h; cases h
  · rw [if_neg h1] at h; cases h

/-- What an answer of two parts is. -/
def tupV (x : Option Int) : Value := match x with
  | some n => .tuple #[.int .i64 n, .bool true]
  | none => .tuple #[.int .i64 0, .bool false]

set_option maxRecDepth 1000000 in
set_option maxHeartbeats 1000000 in
theorem addr_any (u v : Value) (S : Syms) (P : List Thr) (o : Opd) (r : Nat → Int) (ho : I64 o.n) (hos : I64 o.sym) (hr : ∀ j, I64 (r j)) (w : World) (hG : NamesGood w) (hS : SymRow w u S) (hP : ThrRow w v P) (f : FineP S P) :
    Calls Tryd.prog 25 #[.agg #[u, v], o.val, regsV r] w fun e w' => e = .returned (tupV (addrF (laidF S P) o r)) ∧ Later w w' := by
  have cP := fun w' hl => place_any o r w' (Tab.later hG.regs hl)
  have cB := fun w' hl => base_any u v S P o.sym hos w' (NamesGood.later hG hl) (hS.kept (Later.kept hl)) (hP.kept (Later.kept hl)) f
  have hfew : checkC S P = 0 → Sized S := sized_check
  have HF : Hid (∀ n, placeF o r = some n → 0 ≤ o.sym ∧ I64 n) := fun n h => by
    obtain ⟨h1, -, h2 | h2⟩ := place_facts h
    · exact ⟨h1, by rw [h2.2]; exact ho⟩
    · exact ⟨h1, by rw [h2.2.1]; exact hr _⟩
  have HS : Hid (SymRow w u S) := hS
  have HA : Hid (addrF (laidF S P) o r = match placeF o r with
    | none => none
    | some n => if o.sym < ((laidF S P).length : Int) ∧ 0 ≤ n ∧ n < sizeAt (laidF S P) o.sym then some (sumF ((laidF S P).take o.sym.toNat) + n) else none) := rfl
  have HB : Hid (laidF S P = if checkC S P = 0 then S else []) := rfl
  obtain ⟨p, cap, rfl, h1, h2⟩ := hS.slice
  obtain ⟨p', cap', rfl, h1', h2'⟩ := hP.slice
  obtain ⟨k, a, s, d⟩ := o
  unfold Opd.val at *
  unfold regsV at *
  dsimp only at *
  unfold maxLen at h2
  unfold I64 at hos
  have LL := Later.alloc (Later.alloc (Later.alloc (Later.refl w) (.cells #[.slice p S.length cap, .slice p' P.length cap'] 27)) (.cells #[.int .i64 k, .int .i64 a, .int .i64 s, .int .i64 d] 41)) (.cells #[.int .i64 (r 0), .int .i64 (r 1), .int .i64 (r 2), .int .i64 (r 3), .int .i64 (r 4), .int .i64 (r 5), .int .i64 (r 6), .int .i64 (r 7)] 49)
  have e1 : (w.alloc (.cells #[.slice p S.length cap, .slice p' P.length cap'] 27)).heap.size = w.heap.size + 1 := by simp
  obtain ⟨HBB, HC⟩ := two_new2 (w.alloc (.cells #[.slice p S.length cap, .slice p' P.length cap'] 27)) (.cells #[.int .i64 k, .int .i64 a, .int .i64 s, .int .i64 d] 41) (.cells #[.int .i64 (r 0), .int .i64 (r 1), .int .i64 (r 2), .int .i64 (r 3), .int .i64 (r 4), .int .i64 (r 5), .int .i64 (r 6), .int .i64 (r 7)] 49)
  rw [e1] at HBB HC
  obtain ⟨b0, b1, b2, b3, -⟩ := box4_facts HBB
  obtain ⟨c0, c1, c2, c3, c4, c5, c6, c7⟩ := box8_facts HC
  obtain ⟨a0, a1, -⟩ := box2_facts (heap_later (Later.alloc (Later.alloc (Later.refl _) (.cells #[.int .i64 k, .int .i64 a, .int .i64 s, .int .i64 d] 41)) (.cells #[.int .i64 (r 0), .int .i64 (r 1), .int .i64 (r 2), .int .i64 (r 3), .int .i64 (r 4), .int .i64 (r 5), .int .i64 (r 6), .int .i64 (r 7)] 49)) (at_new w (.cells #[.slice p S.length cap, .slice p' P.length cap'] 27)))
  clear hS hP hG f HBB HC ho hr e1
  generalize addrF (laidF S P) ⟨k, a, s, d⟩ r = A at *
  generalize hW : ((w.alloc (.cells #[.slice p S.length cap, .slice p' P.length cap'] 27)).alloc (.cells #[.int .i64 k, .int .i64 a, .int .i64 s, .int .i64 d] 41)).alloc (.cells #[.int .i64 (r 0), .int .i64 (r 1), .int .i64 (r 2), .int .i64 (r 3), .int .i64 (r 4), .int .i64 (r 5), .int .i64 (r 6), .int .i64 (r 7)] 49) = W at *
  cases hpl : placeF ⟨k, a, s, d⟩ r with
  | none =>
    rw [hpl] at cP
    have HE : Hid (A = none) := by show _ = _; rw [HA.out, hpl]
    clear HA HB HF hpl HS
    obtain rfl := HE.out
    unfold tupV
    dsimp only at cP ⊢
    go_enter Tryd.func25, Tryd.ntmps25
    go_upto_region 1 with (fail)
    clear hW
    go_wp2_with (go_at_call 57; refine (cP _ LL).mono ?_; rintro e w1 ⟨rfl, hl1⟩; have p0 := cell_later a0 hl1; have p1 := cell_later a1 hl1; have q0 := cell_later b0 hl1; have q1 := cell_later b1 hl1; have q2 := cell_later b2 hl1; have q3 := cell_later b3 hl1)
    go_returns
    exact ⟨rfl, LL.trans hl1⟩
  | some n =>
    rw [hpl] at cP
    obtain ⟨hs0, hn⟩ := HF.out n hpl
    unfold I64 at hn
    have HA2 := HA.out
    rw [hpl] at HA2
    dsimp only at HA2 cP
    clear HA HF hpl
    rw [HB.out] at HA2 cB
    clear HB
    by_cases hz : checkC S P = 0
    rotate_left
    · rw [if_neg hz] at HA2 cB
      rw [if_neg (by simp only [List.length_nil]; omega)] at HA2
      have hbb : baseF [] s = -1 := by unfold baseF; rw [if_neg (by simp only [List.length_nil]; omega)]
      rw [hbb] at cB
      have HE : Hid (A = none) := HA2
      clear HA2 hz hbb hfew HS
      obtain rfl := HE.out
      unfold tupV
      dsimp only
      go_enter Tryd.func25, Tryd.ntmps25
      go_upto_region 1 with (fail)
      clear hW
      go_wp2_with (first | (go_at_call 57; refine (cP _ LL).mono ?_; rintro e w1 ⟨rfl, hl1⟩; have p0 := cell_later a0 hl1; have p1 := cell_later a1 hl1; have q0 := cell_later b0 hl1; have q1 := cell_later b1 hl1; have q2 := cell_later b2 hl1; have q3 := cell_later b3 hl1) | (go_at_call 24; refine (cB _ (LL.trans hl1)).mono ?_; rintro e w2 ⟨rfl, hl2⟩; have u0 := cell_later p0 hl2; have u1 := cell_later p1 hl2; have v2 := cell_later q2 hl2))
      go_returns
      exact ⟨rfl, LL.trans (hl1.trans hl2)⟩
    rw [if_pos hz] at HA2 cB
    have hZ := hfew hz
    clear hfew hz
    obtain ⟨j, rfl⟩ : ∃ j : Nat, s = j := ⟨s.toNat, by omega⟩
    by_cases hj : j < S.length
    rotate_left
    · rw [if_neg (by omega)] at HA2
      have hbb : baseF S j = -1 := by unfold baseF; rw [if_neg (by omega)]
      rw [hbb] at cB
      have HE : Hid (A = none) := HA2
      clear HA2 hbb HS
      obtain rfl := HE.out
      unfold tupV
      dsimp only
      go_enter Tryd.func25, Tryd.ntmps25
      go_upto_region 1 with (fail)
      clear hW
      go_wp2_with (first | (go_at_call 57; refine (cP _ LL).mono ?_; rintro e w1 ⟨rfl, hl1⟩; have p0 := cell_later a0 hl1; have p1 := cell_later a1 hl1; have q0 := cell_later b0 hl1; have q1 := cell_later b1 hl1; have q2 := cell_later b2 hl1; have q3 := cell_later b3 hl1) | (go_at_call 24; refine (cB _ (LL.trans hl1)).mono ?_; rintro e w2 ⟨rfl, hl2⟩; have u0 := cell_later p0 hl2; have u1 := cell_later p1 hl2; have v2 := cell_later q2 hl2))
      go_returns
      exact ⟨rfl, LL.trans (hl1.trans hl2)⟩
    obtain ⟨⟨x, L⟩, ht⟩ : ∃ t, S[j]? = some t := ⟨_, List.getElem?_eq_getElem hj⟩
    have hbb : baseF S j = sumF (S.take j) := by unfold baseF; rw [if_pos (by omega), Int.toNat_natCast]
    have hsum := hZ.sum j
    rw [hbb] at cB
    rw [size_at ht, Int.toNat_natCast] at HA2
    dsimp only at HA2
    obtain ⟨hx0, hx1, -⟩ := hZ.get ht
    dsimp only at hx0 hx1
    generalize sumF (S.take j) = m at *
    obtain ⟨g, o, rfl, -, -, -, x0, x1, x2⟩ := SymRow.get HS.out ht
    obtain ⟨hm0, hm1⟩ := hsum
    clear hbb hZ x0 x2 HS ht
    by_cases hn0 : n < 0
    · rw [if_neg (by omega)] at HA2
      have HE : Hid (A = none) := HA2
      clear HA2
      obtain rfl := HE.out
      unfold tupV
      dsimp only
      have hwn : IntKind.u64.wrap n = n + 18446744073709551616 := by show n % 18446744073709551616 = _; omega
      go_enter Tryd.func25, Tryd.ntmps25
      go_upto_region 1 with (fail)
      clear hW
      go_wp2_with (first | (go_at_call 57; refine (cP _ LL).mono ?_; rintro e w1 ⟨rfl, hl1⟩; have p0 := cell_later a0 hl1; have p1 := cell_later a1 hl1; have q0 := cell_later b0 hl1; have q1 := cell_later b1 hl1; have q2 := cell_later b2 hl1; have q3 := cell_later b3 hl1) | (go_at_call 24; refine (cB _ (LL.trans hl1)).mono ?_; rintro e w2 ⟨rfl, hl2⟩; have u0 := cell_later p0 hl2; have u1 := cell_later p1 hl2; have v2 := cell_later q2 hl2; have x1b := cell_later x1 (LL.trans (hl1.trans hl2))))
      all_goals go_returns
      all_goals exact ⟨rfl, LL.trans (hl1.trans hl2)⟩
    by_cases hn1 : n < x.size
    · rw [if_pos (by omega)] at HA2
      have HE : Hid (A = some (m + n)) := HA2
      clear HA2
      obtain rfl := HE.out
      unfold tupV
      dsimp only
      go_enter Tryd.func25, Tryd.ntmps25
      go_upto_region 1 with (fail)
      clear hW
      go_wp2_with (first | (go_at_call 57; refine (cP _ LL).mono ?_; rintro e w1 ⟨rfl, hl1⟩; have p0 := cell_later a0 hl1; have p1 := cell_later a1 hl1; have q0 := cell_later b0 hl1; have q1 := cell_later b1 hl1; have q2 := cell_later b2 hl1; have q3 := cell_later b3 hl1) | (go_at_call 24; refine (cB _ (LL.trans hl1)).mono ?_; rintro e w2 ⟨rfl, hl2⟩; have u0 := cell_later p0 hl2; have u1 := cell_later p1 hl2; have v2 := cell_later q2 hl2; have x1b := cell_later x1 (LL.trans (hl1.trans hl2))))
      all_goals go_returns
      all_goals exact ⟨rfl, LL.trans (hl1.trans hl2)⟩
    · rw [if_neg (by omega)] at HA2
      have HE : Hid (A = none) := HA2
      clear HA2
      obtain rfl := HE.out
      unfold tupV
      dsimp only
      go_enter Tryd.func25, Tryd.ntmps25
      go_upto_region 1 with (fail)
      clear hW
      go_wp2_with (first | (go_at_call 57; refine (cP _ LL).mono ?_; rintro e w1 ⟨rfl, hl1⟩; have p0 := cell_later a0 hl1; have p1 := cell_later a1 hl1; have q0 := cell_later b0 hl1; have q1 := cell_later b1 hl1; have q2 := cell_later b2 hl1; have q3 := cell_later b3 hl1) | (go_at_call 24; refine (cB _ (LL.trans hl1)).mono ?_; rintro e w2 ⟨rfl, hl2⟩; have u0 := cell_later p0 hl2; have u1 := cell_later p1 hl2; have v2 := cell_later q2 hl2; have x1b := cell_later x1 (LL.trans (hl1.trans hl2))))
      all_goals go_returns
      all_goals exact ⟨rfl, LL.trans (hl1.trans hl2)⟩

end Go.Proofs.YtgkdejldpldkiaaDoor
