/-
  Which cell an operand tells, by the document's own answer. Nothing that was in memory turns. Conditions: the program lies in memory, its texts are short.
-/
import Derived.Test.YtgkdejldpldkiaaDoorCellsRef
import Derived.Test.YtgkdejldpldkiaaDoorCellsAddr
import Derived.Test.YtgkdejldpldkiaaDoorJd
namespace Go.Proofs.YtgkdejldpldkiaaDoor
open Go.RowKit
set_option linter.unusedVariables false
set_option linter.unusedSimpArgs false

theorem place_none {o : Opd} {r : Nat → Int} (h : opdRightF o = false ∨ memF o = false) : placeF o r = none := by
  unfold placeF
  rcases h with h | h
  · rw [h]; rfl
  · have h3 : ¬ (o.kind = 3 ∨ o.kind = 4) := by simpa [memF] using h
    split
    · rw [if_neg (by omega), if_neg (by omega)]
    · rfl

theorem place_some {o : Opd} {r : Nat → Int} (h : opdRightF o = true) (h' : memF o = true) : placeF o r = some (if o.kind = 4 then r o.reg.toNat else o.n) := by
  unfold placeF
  rw [if_pos h]
  simp only [memF, decide_eq_true_eq] at h'
  by_cases h3 : o.kind = 3
  · rw [if_pos h3, if_neg (by omega)]
  · rw [if_neg h3, if_pos (by omega), if_pos (by omega)]

set_option maxRecDepth 1000000 in
set_option maxHeartbeats 1000000 in
theorem refAddr0_any (u v : Value) (S : Syms) (P : List Thr) (o : Opd) (r : Nat → Int) (ho : I64 o.n) (hos : I64 o.sym) (hr : ∀ j, I64 (r j)) (w : World) (hS : SymRow w u S) (hP : ThrRow w v P) (hz : Sized S) :
    Calls Tryd.prog 88 #[.agg #[u, v], o.val, regsV r] w fun e w' => e = .returned (tupV (addrF S o r)) ∧ Later w w' := by
  have cR := fun w' => refOpdRight_any o w'
  have cM := fun w' => refMemory_any o w'
  have cB0 := fun (j : Nat) (hj : j ≤ S.length) w' hl => refBase0_any u v S P j w' (hS.kept (Later.kept hl)) (hP.kept (Later.kept hl)) hz hj
  have HS : Hid (SymRow w u S) := hS
  have HZ : Hid (Sized S) := hz
  have HA : Hid (addrF S o r = match placeF o r with
    | none => none
    | some n => if o.sym < (S.length : Int) ∧ 0 ≤ n ∧ n < sizeAt S o.sym then some (sumF (S.take o.sym.toNat) + n) else none) := rfl
  have HR : Hid (opdRightF o = true → memF o = true → 0 ≤ o.sym ∧ (o.kind = 4 → 0 ≤ o.reg ∧ o.reg ≤ 7)) := fun h1 h2 => by
    simp only [opdRightF, memF, decide_eq_true_eq] at h1 h2
    omega
  have HN : Hid (opdRightF o = false ∨ memF o = false → placeF o r = none) := place_none
  have HY : Hid (opdRightF o = true → memF o = true → placeF o r = some (if o.kind = 4 then r o.reg.toNat else o.n)) := place_some
  obtain ⟨p, cap, rfl, h1, h2⟩ := hS.slice
  obtain ⟨p', cap', rfl, h1', h2'⟩ := hP.slice
  obtain ⟨k, a, s, d⟩ := o
  unfold Opd.val at *
  unfold regsV at *
  dsimp only at *
  unfold maxLen at h2
  unfold I64 at hos
  have LL := Later.alloc (Later.alloc (Later.alloc (Later.refl w) (.cells #[.slice p S.length cap, .slice p' P.length cap'] 27)) (.cells #[.int .i64 k, .int .i64 a, .int .i64 s, .int .i64 d] 41)) (.cells #[.int .i64 (r 0), .int .i64 (r 1), .int .i64 (r 2), .int .i64 (r 3), .int .i64 (r 4), .int .i64 (r 5), .int .i64 (r 6), .int .i64 (r 7)] 49)
  have e1 : (w.alloc (.cells #[.slice p S.length cap, .slice p' P.length cap'] 27)).heap.size = w.heap.size + 1 := by simp
  obtain ⟨HBB, HC⟩ := two_new2 (w.alloc (.cells #[.slice p S.length cap, .slice p' P.length cap'] 27)) (.cells #[.int .i64 k, .int .i64 a, .int .i64 s, .int .i64 d] 41) (.cells #[.int .i64 (r 0), .int .i64 (r 1), .int .i64 (r 2), .int .i64 (r 3), .int .i64 (r 4), .int .i64 (r 5), .int .i64 (r 6), .int .i64 (r 7)] 49)
  rw [e1] at HBB HC
  obtain ⟨b0, b1, b2, b3, -⟩ := box4_facts HBB
  have HAT : Hid (∀ j, j < 8 → (((w.alloc (.cells #[.slice p S.length cap, .slice p' P.length cap'] 27)).alloc (.cells #[.int .i64 k, .int .i64 a, .int .i64 s, .int .i64 d] 41)).alloc (.cells #[.int .i64 (r 0), .int .i64 (r 1), .int .i64 (r 2), .int .i64 (r 3), .int .i64 (r 4), .int .i64 (r 5), .int .i64 (r 6), .int .i64 (r 7)] 49)).cell? ⟨w.heap.size + 1 + 1, j, none⟩ = some (.int .i64 (r j))) := fun j hj => box8_at HC hj
  obtain ⟨a0, a1, -⟩ := box2_facts (heap_later (Later.alloc (Later.alloc (Later.refl _) (.cells #[.int .i64 k, .int .i64 a, .int .i64 s, .int .i64 d] 41)) (.cells #[.int .i64 (r 0), .int .i64 (r 1), .int .i64 (r 2), .int .i64 (r 3), .int .i64 (r 4), .int .i64 (r 5), .int .i64 (r 6), .int .i64 (r 7)] 49)) (at_new w (.cells #[.slice p S.length cap, .slice p' P.length cap'] 27)))
  clear hS hP HBB HC hz e1
  generalize addrF S ⟨k, a, s, d⟩ r = A at *
  generalize hW : ((w.alloc (.cells #[.slice p S.length cap, .slice p' P.length cap'] 27)).alloc (.cells #[.int .i64 k, .int .i64 a, .int .i64 s, .int .i64 d] 41)).alloc (.cells #[.int .i64 (r 0), .int .i64 (r 1), .int .i64 (r 2), .int .i64 (r 3), .int .i64 (r 4), .int .i64 (r 5), .int .i64 (r 6), .int .i64 (r 7)] 49) = W at *
  generalize opdRightF ⟨k, a, s, d⟩ = q at *
  generalize memF ⟨k, a, s, d⟩ = m at *
  generalize placeF ⟨k, a, s, d⟩ r = pl at *
  cases q
  · have HE : Hid (A = none) := by show _ = _; rw [HA.out, HN.out (Or.inl rfl)]
    clear HA HN HY HR HS HZ HAT cB0 cM ho hr
    obtain rfl := HE.out
    unfold tupV
    dsimp only
    go_enter Tryd.func88, Tryd.ntmps88
    go_upto_region 1 with (fail)
    clear hW
    go_wp2_with (go_at_call 106; refine (cR _).mono ?_; rintro e w1 ⟨rfl, hl1⟩; have p0 := cell_later a0 hl1; have p1 := cell_later a1 hl1; have q0 := cell_later b0 hl1; have q1 := cell_later b1 hl1; have q2 := cell_later b2 hl1; have q3 := cell_later b3 hl1)
    go_returns
    exact ⟨rfl, LL.trans hl1⟩
  cases m
  · have HE : Hid (A = none) := by show _ = _; rw [HA.out, HN.out (Or.inr rfl)]
    clear HA HN HY HR HS HZ HAT cB0 ho hr
    obtain rfl := HE.out
    unfold tupV
    dsimp only
    go_enter Tryd.func88, Tryd.ntmps88
    go_upto_region 1 with (fail)
    clear hW
    go_wp2_with (first | (go_at_call 106; refine (cR _).mono ?_; rintro e w1 ⟨rfl, hl1⟩; have p0 := cell_later a0 hl1; have p1 := cell_later a1 hl1; have q0 := cell_later b0 hl1; have q1 := cell_later b1 hl1; have q2 := cell_later b2 hl1; have q3 := cell_later b3 hl1) | (go_at_call 103; refine (cM _).mono ?_; rintro e w2 ⟨rfl, hl2⟩; have u0 := cell_later p0 hl2; have u1 := cell_later p1 hl2; have v0 := cell_later q0 hl2; have v1 := cell_later q1 hl2; have v2 := cell_later q2 hl2; have v3 := cell_later q3 hl2))
    go_returns
    exact ⟨rfl, LL.trans (hl1.trans hl2)⟩
  obtain ⟨hs0, hreg⟩ := HR.out rfl rfl
  obtain rfl := HY.out rfl rfl
  have HA2 := HA.out
  dsimp only at HA2
  clear HA HN HY HR
  obtain ⟨j, rfl⟩ : ∃ j : Nat, s = j := ⟨s.toNat, by omega⟩
  by_cases hj : j < S.length
  rotate_left
  · have HE : Hid (A = none) := by show _ = _; rw [HA2, if_neg (by omega)]
    clear HA2 HS HZ HAT cB0 hreg ho hr
    obtain rfl := HE.out
    unfold tupV
    dsimp only
    go_enter Tryd.func88, Tryd.ntmps88
    go_upto_region 1 with (fail)
    clear hW
    go_wp2_with (first | (go_at_call 106; refine (cR _).mono ?_; rintro e w1 ⟨rfl, hl1⟩; have p0 := cell_later a0 hl1; have p1 := cell_later a1 hl1; have q0 := cell_later b0 hl1; have q1 := cell_later b1 hl1; have q2 := cell_later b2 hl1; have q3 := cell_later b3 hl1) | (go_at_call 103; refine (cM _).mono ?_; rintro e w2 ⟨rfl, hl2⟩; have u0 := cell_later p0 hl2; have u1 := cell_later p1 hl2; have v0 := cell_later q0 hl2; have v1 := cell_later q1 hl2; have v2 := cell_later q2 hl2; have v3 := cell_later q3 hl2))
    go_returns
    exact ⟨rfl, LL.trans (hl1.trans hl2)⟩
  obtain ⟨⟨x, L⟩, ht⟩ : ∃ t, S[j]? = some t := ⟨_, List.getElem?_eq_getElem hj⟩
  have hsum := HZ.out.sum j
  rw [size_at ht, Int.toNat_natCast] at HA2
  dsimp only at HA2
  obtain ⟨hx0, hx1, -⟩ := HZ.out.get ht
  dsimp only at hx0 hx1
  have cB := cB0 j (by omega)
  clear cB0
  generalize sumF (S.take j) = m at *
  obtain ⟨g, o, rfl, -, -, -, x0, x1, x2⟩ := SymRow.get HS.out ht
  obtain ⟨hm0, hm1⟩ := hsum
  clear HZ x0 x2 HS ht
  by_cases h4 : k = 4
  · subst h4
    rw [if_pos rfl] at HA2
    obtain ⟨hr0, hr1⟩ := hreg rfl
    obtain ⟨y, rfl⟩ : ∃ y : Nat, a = y := ⟨a.toNat, by omega⟩
    have hy : y < 8 := by omega
    rw [Int.toNat_natCast] at HA2
    have hat := HAT.out y hy
    have hn := hr y
    unfold I64 at hn
    clear HAT hreg ho hr
    generalize hnn : r y = n at *
    clear hnn
    by_cases hn0 : n < 0
    · have HE : Hid (A = none) := by show _ = _; rw [HA2, if_neg (by omega)]
      clear HA2 cB
      obtain rfl := HE.out
      unfold tupV
      dsimp only
      go_enter Tryd.func88, Tryd.ntmps88
      go_upto_region 1 with (fail)
      clear hW
      go_wp2_with (first | (go_at_call 106; refine (cR _).mono ?_; rintro e w1 ⟨rfl, hl1⟩; have p0 := cell_later a0 hl1; have p1 := cell_later a1 hl1; have q0 := cell_later b0 hl1; have q1 := cell_later b1 hl1; have q2 := cell_later b2 hl1; have q3 := cell_later b3 hl1) | (go_at_call 103; refine (cM _).mono ?_; rintro e w2 ⟨rfl, hl2⟩; have u0 := cell_later p0 hl2; have u1 := cell_later p1 hl2; have v0 := cell_later q0 hl2; have v1 := cell_later q1 hl2; have v2 := cell_later q2 hl2; have v3 := cell_later q3 hl2; have x1b := cell_later x1 (LL.trans (hl1.trans hl2)); have hatb := cell_later hat (hl1.trans hl2)))
      go_returns
      exact ⟨rfl, LL.trans (hl1.trans hl2)⟩
    by_cases hn1 : n < x.size
    · have HE : Hid (A = some (m + n)) := by show _ = _; rw [HA2, if_pos (by omega)]
      clear HA2
      obtain rfl := HE.out
      unfold tupV
      dsimp only
      go_enter Tryd.func88, Tryd.ntmps88
      go_upto_region 1 with (fail)
      clear hW
      go_wp2_with (first | (go_at_call 106; refine (cR _).mono ?_; rintro e w1 ⟨rfl, hl1⟩; have p0 := cell_later a0 hl1; have p1 := cell_later a1 hl1; have q0 := cell_later b0 hl1; have q1 := cell_later b1 hl1; have q2 := cell_later b2 hl1; have q3 := cell_later b3 hl1) | (go_at_call 103; refine (cM _).mono ?_; rintro e w2 ⟨rfl, hl2⟩; have u0 := cell_later p0 hl2; have u1 := cell_later p1 hl2; have v0 := cell_later q0 hl2; have v1 := cell_later q1 hl2; have v2 := cell_later q2 hl2; have v3 := cell_later q3 hl2; have x1b := cell_later x1 (LL.trans (hl1.trans hl2)); have hatb := cell_later hat (hl1.trans hl2)) | (go_at_call 89; refine (cB _ (LL.trans (hl1.trans hl2))).mono ?_; rintro e w3 ⟨rfl, hl3⟩))
      go_returns
      exact ⟨rfl, LL.trans (hl1.trans (hl2.trans hl3))⟩
    · have HE : Hid (A = none) := by show _ = _; rw [HA2, if_neg (by omega)]
      clear HA2 cB
      obtain rfl := HE.out
      unfold tupV
      dsimp only
      go_enter Tryd.func88, Tryd.ntmps88
      go_upto_region 1 with (fail)
      clear hW
      go_wp2_with (first | (go_at_call 106; refine (cR _).mono ?_; rintro e w1 ⟨rfl, hl1⟩; have p0 := cell_later a0 hl1; have p1 := cell_later a1 hl1; have q0 := cell_later b0 hl1; have q1 := cell_later b1 hl1; have q2 := cell_later b2 hl1; have q3 := cell_later b3 hl1) | (go_at_call 103; refine (cM _).mono ?_; rintro e w2 ⟨rfl, hl2⟩; have u0 := cell_later p0 hl2; have u1 := cell_later p1 hl2; have v0 := cell_later q0 hl2; have v1 := cell_later q1 hl2; have v2 := cell_later q2 hl2; have v3 := cell_later q3 hl2; have x1b := cell_later x1 (LL.trans (hl1.trans hl2)); have hatb := cell_later hat (hl1.trans hl2)))
      go_returns
      exact ⟨rfl, LL.trans (hl1.trans hl2)⟩
  · have h4' : (k == 4) = false := by simpa using h4
    rw [if_neg h4] at HA2
    have hn := ho
    unfold I64 at hn
    clear HAT hreg hr ho h4
    generalize hnn : d = n at *
    clear hnn
    by_cases hn0 : n < 0
    · have HE : Hid (A = none) := by show _ = _; rw [HA2, if_neg (by omega)]
      clear HA2 cB
      obtain rfl := HE.out
      unfold tupV
      dsimp only
      go_enter Tryd.func88, Tryd.ntmps88
      go_upto_region 1 with (fail)
      clear hW
      go_wp2_with (first | (go_at_call 106; refine (cR _).mono ?_; rintro e w1 ⟨rfl, hl1⟩; have p0 := cell_later a0 hl1; have p1 := cell_later a1 hl1; have q0 := cell_later b0 hl1; have q1 := cell_later b1 hl1; have q2 := cell_later b2 hl1; have q3 := cell_later b3 hl1) | (go_at_call 103; refine (cM _).mono ?_; rintro e w2 ⟨rfl, hl2⟩; have u0 := cell_later p0 hl2; have u1 := cell_later p1 hl2; have v0 := cell_later q0 hl2; have v1 := cell_later q1 hl2; have v2 := cell_later q2 hl2; have v3 := cell_later q3 hl2; have x1b := cell_later x1 (LL.trans (hl1.trans hl2))))
      go_returns
      exact ⟨rfl, LL.trans (hl1.trans hl2)⟩
    by_cases hn1 : n < x.size
    · have HE : Hid (A = some (m + n)) := by show _ = _; rw [HA2, if_pos (by omega)]
      clear HA2
      obtain rfl := HE.out
      unfold tupV
      dsimp only
      go_enter Tryd.func88, Tryd.ntmps88
      go_upto_region 1 with (fail)
      clear hW
      go_wp2_with (first | (go_at_call 106; refine (cR _).mono ?_; rintro e w1 ⟨rfl, hl1⟩; have p0 := cell_later a0 hl1; have p1 := cell_later a1 hl1; have q0 := cell_later b0 hl1; have q1 := cell_later b1 hl1; have q2 := cell_later b2 hl1; have q3 := cell_later b3 hl1) | (go_at_call 103; refine (cM _).mono ?_; rintro e w2 ⟨rfl, hl2⟩; have u0 := cell_later p0 hl2; have u1 := cell_later p1 hl2; have v0 := cell_later q0 hl2; have v1 := cell_later q1 hl2; have v2 := cell_later q2 hl2; have v3 := cell_later q3 hl2; have x1b := cell_later x1 (LL.trans (hl1.trans hl2))) | (go_at_call 89; refine (cB _ (LL.trans (hl1.trans hl2))).mono ?_; rintro e w3 ⟨rfl, hl3⟩))
      go_returns
      exact ⟨rfl, LL.trans (hl1.trans (hl2.trans hl3))⟩
    · have HE : Hid (A = none) := by show _ = _; rw [HA2, if_neg (by omega)]
      clear HA2 cB
      obtain rfl := HE.out
      unfold tupV
      dsimp only
      go_enter Tryd.func88, Tryd.ntmps88
      go_upto_region 1 with (fail)
      clear hW
      go_wp2_with (first | (go_at_call 106; refine (cR _).mono ?_; rintro e w1 ⟨rfl, hl1⟩; have p0 := cell_later a0 hl1; have p1 := cell_later a1 hl1; have q0 := cell_later b0 hl1; have q1 := cell_later b1 hl1; have q2 := cell_later b2 hl1; have q3 := cell_later b3 hl1) | (go_at_call 103; refine (cM _).mono ?_; rintro e w2 ⟨rfl, hl2⟩; have u0 := cell_later p0 hl2; have u1 := cell_later p1 hl2; have v0 := cell_later q0 hl2; have v1 := cell_later q1 hl2; have v2 := cell_later q2 hl2; have v3 := cell_later q3 hl2; have x1b := cell_later x1 (LL.trans (hl1.trans hl2))))
      go_returns
      exact ⟨rfl, LL.trans (hl1.trans hl2)⟩

theorem addr_none (o : Opd) (r : Nat → Int) : addrF [] o r = none := by
  unfold addrF
  cases h : placeF o r with
  | none => rfl
  | some n =>
    obtain ⟨h1, -, -⟩ := place_facts h
    dsimp only
    rw [if_neg (by simp only [List.length_nil]; omega)]

theorem laid_addr (S : Syms) (P : List Thr) (o : Opd) (r : Nat → Int) : addrF (laidF S P) o r = if checkC S P = 0 then addrF S o r else none := by
  unfold laidF
  by_cases h : checkC S P = 0
  · rw [if_pos h, if_pos h]
  · rw [if_neg h, if_neg h]
    exact addr_none o r

set_option maxRecDepth 1000000 in
set_option maxHeartbeats 1000000 in
theorem refAddr_any (u v : Value) (S : Syms) (P : List Thr) (o : Opd) (r : Nat → Int) (ho : I64 o.n) (hos : I64 o.sym) (hr : ∀ j, I64 (r j)) (w : World) (hS : SymRow w u S) (hP : ThrRow w v P) (f : FineP S P) :
    Calls Tryd.prog 50 #[.agg #[u, v], o.val, regsV r] w fun e w' => e = .returned (tupV (addrF (laidF S P) o r)) ∧ Later w w' := by
  rw [laid_addr]
  have c := fun w' hl => refCheck_any u v S P w' (hS.kept (Later.kept hl)) (hP.kept (Later.kept hl)) f
  have hz0 := sized_check (S := S) (P := P)
  have cA := fun w' hl hz => refAddr0_any u v S P o r ho hos hr w' (hS.kept (Later.kept hl)) (hP.kept (Later.kept hl)) hz
  obtain ⟨p, cap, rfl, h1, h2⟩ := hS.slice
  obtain ⟨p', cap', rfl, h1', h2'⟩ := hP.slice
  obtain ⟨k, a, s, d⟩ := o
  unfold Opd.val at *
  unfold regsV at *
  dsimp only at *
  have LL := Later.alloc (Later.alloc (Later.alloc (Later.refl w) (.cells #[.slice p S.length cap, .slice p' P.length cap'] 27)) (.cells #[.int .i64 k, .int .i64 a, .int .i64 s, .int .i64 d] 41)) (.cells #[.int .i64 (r 0), .int .i64 (r 1), .int .i64 (r 2), .int .i64 (r 3), .int .i64 (r 4), .int .i64 (r 5), .int .i64 (r 6), .int .i64 (r 7)] 49)
  have e1 : (w.alloc (.cells #[.slice p S.length cap, .slice p' P.length cap'] 27)).heap.size = w.heap.size + 1 := by simp
  obtain ⟨HBB, HC⟩ := two_new2 (w.alloc (.cells #[.slice p S.length cap, .slice p' P.length cap'] 27)) (.cells #[.int .i64 k, .int .i64 a, .int .i64 s, .int .i64 d] 41) (.cells #[.int .i64 (r 0), .int .i64 (r 1), .int .i64 (r 2), .int .i64 (r 3), .int .i64 (r 4), .int .i64 (r 5), .int .i64 (r 6), .int .i64 (r 7)] 49)
  rw [e1] at HBB HC
  obtain ⟨b0, b1, b2, b3, -⟩ := box4_facts HBB
  obtain ⟨c0, c1, c2, c3, c4, c5, c6, c7⟩ := box8_facts HC
  obtain ⟨a0, a1, -⟩ := box2_facts (heap_later (Later.alloc (Later.alloc (Later.refl _) (.cells #[.int .i64 k, .int .i64 a, .int .i64 s, .int .i64 d] 41)) (.cells #[.int .i64 (r 0), .int .i64 (r 1), .int .i64 (r 2), .int .i64 (r 3), .int .i64 (r 4), .int .i64 (r 5), .int .i64 (r 6), .int .i64 (r 7)] 49)) (at_new w (.cells #[.slice p S.length cap, .slice p' P.length cap'] 27)))
  clear hS hP f HBB HC ho hr e1
  generalize hW : ((w.alloc (.cells #[.slice p S.length cap, .slice p' P.length cap'] 27)).alloc (.cells #[.int .i64 k, .int .i64 a, .int .i64 s, .int .i64 d] 41)).alloc (.cells #[.int .i64 (r 0), .int .i64 (r 1), .int .i64 (r 2), .int .i64 (r 3), .int .i64 (r 4), .int .i64 (r 5), .int .i64 (r 6), .int .i64 (r 7)] 49) = W at *
  generalize checkC S P = n at *
  by_cases h : n = 0
  · rw [if_pos h]
    have cA' := fun w' hl => cA w' hl (hz0 h)
    subst h
    clear cA hz0
    generalize addrF S ⟨k, a, s, d⟩ r = A at *
    cases A
    all_goals
      unfold tupV at *
      dsimp only at *
      go_enter Tryd.func50, Tryd.ntmps50
      go_upto_region 1 with (fail)
      clear hW
      go_wp2_with (first | (go_at_call 13; refine (c _ LL).mono ?_; rintro e w1 ⟨rfl, hl1⟩; have p0 := cell_later a0 hl1; have p1 := cell_later a1 hl1; have q0 := cell_later b0 hl1; have q1 := cell_later b1 hl1; have q2 := cell_later b2 hl1; have q3 := cell_later b3 hl1; have r0 := cell_later c0 hl1; have r1 := cell_later c1 hl1; have r2 := cell_later c2 hl1; have r3 := cell_later c3 hl1; have r4 := cell_later c4 hl1; have r5 := cell_later c5 hl1; have r6 := cell_later c6 hl1; have r7 := cell_later c7 hl1) | (go_at_call 88; refine (cA' _ (LL.trans hl1)).mono ?_; rintro e w2 ⟨rfl, hl2⟩))
      go_returns
      exact ⟨rfl, LL.trans (hl1.trans hl2)⟩
  · rw [if_neg h]
    have h' : (n != 0) = true := by simpa using h
    clear cA hz0 h
    unfold tupV
    dsimp only
    go_enter Tryd.func50, Tryd.ntmps50
    go_upto_region 1 with (fail)
    clear hW
    go_wp2_with (go_at_call 13; refine (c _ LL).mono ?_; rintro e w1 ⟨rfl, hl1⟩; have p0 := cell_later a0 hl1; have p1 := cell_later a1 hl1; have q0 := cell_later b0 hl1; have q1 := cell_later b1 hl1; have q2 := cell_later b2 hl1; have q3 := cell_later b3 hl1; skip)
    go_returns
    exact ⟨rfl, LL.trans hl1⟩

end Go.Proofs.YtgkdejldpldkiaaDoor
