/-
  Last of a ring: the newest entry's number of an address. Nothing that was in memory turns. Conditions: the ring is no longer than a million.
-/
import Derived.Test.YtmfifaonbbeebaaRingBack
namespace Go.Proofs.Ytmfifaonbbeebaa
open Go.RowKit Go.Shelf
attribute [local go_sem] Oper.semAt_some
set_option linter.unusedVariables false
set_option linter.unusedSimpArgs false

/-- An entry's variable: a block of two cells. -/
def EntBox (W : World) (B : Nat) (x : Int × Int) : Prop := W.heap[B]? = some (.cells #[.int .i64 x.1, .int .i64 x.2] 31)

theorem entBox_own {β : Type} (B : Nat) (f : β → Int × Int) : Own (fun s W => EntBox W B (f s)) := fun s X Y row hs hg hrow => by
  have hs' : EntBox X B (f s) := hs
  show EntBox Y B (f s)
  unfold EntBox at *
  rw [hg.block B (lt_block hs') (fun e => ?_)]
  · exact hs'
  · obtain ⟨o, ho, hc⟩ := hrow B e.symm
    rw [hs'] at ho
    cases ho
    cases hc

theorem EntBox.other {W : World} {B : Nat} {x : Int × Int} (h : EntBox W B x) {B' : Nat} (hne : B' ≠ B) (u : Value) : EntBox (W.setCell ⟨B', 0, none⟩ u) B x := set_kept h hne

/-- What came by was of other addresses; then one of this address. -/
theorem lastF_stop {L : List (Int × Int)} {a : Int} {ini : List (Int × Int × Int)} {y : Int × Int × Int} (h : (ini ++ [y]).map (·.2) <+: L.reverse) (hi : ∀ z ∈ ini, z.2.1 ≠ a) (hy : y.2.1 = a) : lastF L a = some y.2.2 := by
  obtain ⟨rest, hr⟩ := h
  unfold lastF
  rw [← hr, List.map_append, List.append_assoc, List.find?_append]
  have h0 : List.find? (fun x : Int × Int => x.1 == a) (ini.map (·.2)) = none := by
    rw [List.find?_eq_none]
    intro z hz
    obtain ⟨u, hu, rfl⟩ := List.mem_map.1 hz
    simpa using hi u hu
  rw [h0]
  simp [hy]

theorem lastF_done {L : List (Int × Int)} {a : Int} {ys : List (Int × Int × Int)} (h : ys.map (·.2) = L.reverse) (hi : ∀ z ∈ ys, z.2.1 ≠ a) : lastF L a = none := by
  unfold lastF
  rw [← h]
  have h0 : List.find? (fun x : Int × Int => x.1 == a) (ys.map (·.2)) = none := by
    rw [List.find?_eq_none]
    intro z hz
    obtain ⟨u, hu, rfl⟩ := List.mem_map.1 hz
    simpa using hi u hu
  rw [h0]
  rfl

set_option maxRecDepth 1000000 in
set_option maxHeartbeats 4000000 in
/-- The walk, over whatever waits. -/
theorem last_of (w : World) (p : Option Addr) (L : List (Int × Int)) (a : Int) (v : Value) (hL : L.length ≤ 1000000) (hv : EntRow w v L)
    (hc : ∀ w1, Later w w1 → Calls Try.prog 19 #[.pointer p] w1 fun e w' => e = .returned v ∧ Later w1 w') :
    Calls Try.prog 18 #[.pointer p, .int .i64 a] w fun e w' => e = .returned (lastV (lastF L a)) ∧ Later w w' := by
  obtain ⟨vp, vcap, rfl, -, -⟩ := hv.slice
  have hlow := hv.low
  have L1 := Later.alloc (Later.alloc (Later.alloc (Later.refl w) (.cells #[.int .i64 a] 3)) (.cells #[.int .i64 0] 2)) (.cells #[.bool false] 4)
  have hc1 := hc _ L1
  have bA := Boxed.new w 3 (.int .i64 a)
  have bV := Boxed.new (w.alloc (.cells #[.int .i64 a] 3)) 2 (.int .i64 0)
  have bO := Boxed.new ((w.alloc (.cells #[.int .i64 a] 3)).alloc (.cells #[.int .i64 0] 2)) 4 (.bool false)
  have bA1 := (bA.alloc (.cells #[.int .i64 0] 2)).alloc (.cells #[.bool false] 4)
  have bV1 := bV.alloc (.cells #[.bool false] 4)
  rw [World.size_alloc] at bV bV1 bO
  rw [World.size_alloc] at bO
  have hz : (((w.alloc (.cells #[.int .i64 a] 3)).alloc (.cells #[.int .i64 0] 2)).alloc (.cells #[.bool false] 4)).heap.size = w.heap.size + 3 := by simp
  clear bA bV hc
  obtain ⟨V, hV⟩ : ∃ V, lastV (lastF L a) = V := ⟨_, rfl⟩
  rw [hV]
  refine (callsIn_wide (n := 3)).1 ?_
  refine callsIn_of_wp_marks Try.func18 rfl trivial ?_ rfl
  simp only [Try.ntmps18, List.size_toArray, List.length_cons, List.length_nil, Nat.reduceAdd, Nat.reduceSub, Array.replicate_succ, Array.replicate_zero, List.push_toArray, List.append_toArray, List.nil_append, List.cons_append]
  gi_wp2_with (first
    | (refine ⟨trivial, ?_⟩; gi_at_call 19; refine (callsIn_wide.2 hc1).mono ?_; rintro e w1 ⟨rfl, hl1⟩)
    | (refine ⟨trivial, ?_⟩; gi_at_call 22; refine (back_in Fence.wide 2 trivial rfl _ _ _ _).mono ?_; rintro e w' ⟨rfl, rfl⟩))
  have hs1 := hl1.size
  rw [hz] at hs1
  have LA := (L1.trans hl1)
  have LW := Later.alloc LA (.cells #[.slice vp L.length vcap] 26)
  have hcell := (box1_facts (at_new w1 (.cells #[.slice vp L.length vcap] 26))).1
  have hl2 := Later.alloc hl1 (.cells #[.slice vp L.length vcap] 26)
  have bA2 : Boxed (w1.alloc (.cells #[.slice vp L.length vcap] 26)) w.heap.size 3 (.int .i64 a) := heap_later hl2 bA1
  have bV2 : Boxed (w1.alloc (.cells #[.slice vp L.length vcap] 26)) (w.heap.size + 1) 2 (.int .i64 0) := heap_later hl2 bV1
  have bO2 : Boxed (w1.alloc (.cells #[.slice vp L.length vcap] 26)) (w.heap.size + 2) 4 (.bool false) := heap_later hl2 bO
  have hR2 := hv.later LW
  have hs2 : (w1.alloc (.cells #[.slice vp L.length vcap] 26)).heap.size = w1.heap.size + 1 := by simp
  clear bA1 bV1 bO hl2 L1 hz hc1 hv LA hl1
  generalize w1.alloc (.cells #[.slice vp L.length vcap] 26) = W0 at *
  obtain ⟨Bs, hBs⟩ : ∃ Bs, w1.heap.size = Bs := ⟨_, rfl⟩
  rw [hBs] at hcell hs1 hs2 ⊢
  obtain ⟨H, hH⟩ : ∃ H, w.heap.size = H := ⟨_, rfl⟩
  rw [hH] at hlow bA2 bV2 bO2 hs1 ⊢
  refine wpIn_rangeFunc_ownH rfl (by decide) (gf := 23) (lb := #[.pointer (some ⟨Bs, 0, none⟩)]) rfl trivial (enters_of Try.func23 (by kernel_rfl) rfl)
    (back_stops Fence.wide 2 trivial rfl (by omega) Bs H _ L hL W0 hlow (by omega) (by omega) hcell hR2) KeepB.trans (fun W l o o' hl ho hc hw => KeepB.put W l (by omega) (by omega) ho hc hw) (Below.refl _ _) (fun _ => rfl)
    (fun pre W => (∀ z ∈ pre, z.2.1 ≠ a) ∧ Boxed W H 3 (.int .i64 a) ∧ Boxed W (H + 1) 2 (.int .i64 0) ∧ Boxed W (H + 2) 4 (.bool false) ∧ Below H w W)
    (fun c pre W => (c = .ret ∧ ∃ ini y, pre = ini ++ [y] ∧ (∀ z ∈ ini, z.2.1 ≠ a) ∧ y.2.1 = a ∧ Boxed W (H + 1) 2 (.int .i64 y.2.2) ∧ Boxed W (H + 2) 4 (.bool true)) ∧ Below H w W)
    (OwnFrom.and (ownFrom_pure _ (fun pre : List (Int × Int × Int) => ∀ z ∈ pre, z.2.1 ≠ a)) (OwnFrom.and (Own.from (boxed_own _ _ (fun _ : List (Int × Int × Int) => Value.int .i64 a)) _) (OwnFrom.and (Own.from (boxed_own _ _ (fun _ : List (Int × Int × Int) => Value.int .i64 0)) _) (OwnFrom.and (Own.from (boxed_own _ _ (fun _ : List (Int × Int × Int) => Value.bool false)) _) (ownFrom_below (by omega) (by omega))))))
    (fun c => OwnFrom.and (Own.from (fun s A B row hs hg hr => by
      obtain ⟨hc, ini, y, e1, e2, e3, e4, e5⟩ := hs
      exact ⟨hc, ini, y, e1, e2, e3, boxed_own _ _ (fun _ : Unit => Value.int .i64 y.2.2) () A B row e4 hg hr, boxed_own _ _ (fun _ : Unit => Value.bool true) () A B row e5 hg hr⟩) _) (ownFrom_below (by omega) (by omega)))
    ⟨by simp, bA2, bV2, bO2, by rw [← hH]; exact LW⟩
    (fun x a' W => ∃ Bx, H + 2 < Bx ∧ EntBox W Bx x.2 ∧ a' = { tmps := #[.pointer p, .int .i64 a, undef, .pointer (some ⟨H, 0, none⟩), .pointer (some ⟨H + 1, 0, none⟩), .pointer (some ⟨H + 2, 0, none⟩), undef, .pointer (some ⟨Bx, 0, none⟩), .pointer p, .slice vp L.length vcap, .func (.func 23) #[] #[.pointer (some ⟨Bs, 0, none⟩)], .int .i64 x.1, .agg #[.int .i64 x.2.1, .int .i64 x.2.2], undef, undef, undef, undef, undef, undef], defers := [] })
    (fun x a' => Own.from (fun s A B row hs hg hr => by
      obtain ⟨Bx, h1, h2, h3⟩ := hs
      exact ⟨Bx, h1, entBox_own Bx (fun _ : Unit => x.2) () A B row h2 hg hr, h3⟩) _)
    ?assign ?body ?done ?stop
  case assign =>
    unfold backV
    rintro l pre x W K ⟨hp, bA, bV, bO, hB⟩ hK
    gi_wp2
    have hsz := hB.size
    have hlt := bO.lt
    exact hK _ _ ((KeepsOthers.alloc _ _).from _) ⟨(Below.refl H W).alloc (by omega) _, fun v hv => cell_later hv (Later.alloc (Later.refl W) _)⟩ ⟨hp, bA.alloc _, bV.alloc _, bO.alloc _, hB.alloc (by omega) _⟩ ⟨W.heap.size, hlt, at_new _ _, rfl⟩
  case body =>
    rintro l pre x a' W hl ⟨r, hr⟩ ⟨hp, bA, bV, bO, hB⟩ ⟨Bx, hBx, bX, rfl⟩ hlen
    obtain ⟨x0, x1, -⟩ := box2_facts bX
    have a0 := bA.cell
    have v0 := bV.cell
    have v1 := bV.frozen
    have o0 := bO.cell
    have o1 := bO.frozen
    by_cases hxa : x.2.1 = a
    · have hxb : (x.2.1 == a) = true := by simp [hxa]
      gi_wp2
      exact ⟨((KeepsOthers.setCell _ _ _).trans (KeepsOthers.setCell _ _ _)).from _, ⟨rfl, pre, x, rfl, hp, hxa, (bV.set _).other (by omega) _, (bO.other (by omega) _).set _⟩, (hB.setCell (p := ⟨H + 1, 0, none⟩) (show H ≤ H + 1 by omega) _).setCell (p := ⟨H + 2, 0, none⟩) (show H ≤ H + 2 by omega) _⟩
    · have hxb : (x.2.1 == a) = false := by simp [hxa]
      gi_wp2
      exact ⟨KeepsFrom.refl _ _, KeepB.refl _ _ _, fun z hz => (List.mem_append.1 hz).elim (hp z) (fun e => by simp at e; subst e; exact hxa), bA, bV, bO, hB⟩
  case done =>
    rintro D ys W hD hS ⟨hp, bA, bV, bO, hB⟩ hK
    have v0 := bV.cell
    have v1 := bV.frozen
    have o0 := bO.cell
    have o1 := bO.frozen
    obtain rfl : Value.tuple #[.int .i64 0, .bool false] = V := by rw [← hV, lastF_done hS hp]; rfl
    gi_wp2
    have hK' := ((KeepsOthers.setCell W ⟨H + 1, 0, none⟩ (.int .i64 0)).trans (KeepsOthers.setCell _ ⟨H + 2, 0, none⟩ (.bool false))).same D _ hK rfl
    refine ⟨by simp, .inl ⟨_, _, rfl, run_takeDeferred hK', ?_⟩⟩
    have c1 := (boxed_own (H + 1) 2 (fun _ : Unit => Value.int .i64 0) () _ _ _ ((bV.set (.int .i64 0)).other (show H + 1 ≠ H + 2 by omega) (.bool false)) (grownBy_putObj' _ D (.deferred none)) (fun r e => by cases e; exact ⟨_, hK', rfl⟩)).cell
    have c2 := (boxed_own (H + 2) 4 (fun _ : Unit => Value.bool false) () _ _ _ ((bO.other (show H + 2 ≠ H + 1 by omega) (.int .i64 0)).set (.bool false)) (grownBy_putObj' _ D (.deferred none)) (fun r e => by cases e; exact ⟨_, hK', rfl⟩)).cell
    refine ⟨.tuple #[.int .i64 0, .bool false], by simp [results, Try.f18, go_sem, c1, c2], rfl, ?_⟩
    have hB2 := (hB.setCell (p := ⟨H + 1, 0, none⟩) (show H ≤ H + 1 by omega) (.int .i64 0)).setCell (p := ⟨H + 2, 0, none⟩) (show H ≤ H + 2 by omega) (.bool false)
    unfold Later
    rw [hH]
    exact hB2.trans ((Below.refl H _).grown (grownBy_putObj' _ D _) (by have := (Array.getElem?_eq_some_iff.1 hK').1; omega) (fun k e => by cases e; omega))
  case stop =>
    rintro D c pre W hD hS ⟨⟨rfl, ini, y, rfl, hi, hy, bV, bO⟩, hB⟩ hK
    obtain rfl : Value.tuple #[.int .i64 y.2.2, .bool true] = V := by rw [← hV, lastF_stop hS hi hy]; rfl
    gi_wp2
    refine ⟨by simp, .inl ⟨_, _, rfl, run_takeDeferred hK, ?_⟩⟩
    have c1 := (boxed_own (H + 1) 2 (fun _ : Unit => Value.int .i64 y.2.2) () _ _ _ bV (grownBy_putObj' _ D (.deferred none)) (fun r e => by cases e; exact ⟨_, hK, rfl⟩)).cell
    have c2 := (boxed_own (H + 2) 4 (fun _ : Unit => Value.bool true) () _ _ _ bO (grownBy_putObj' _ D (.deferred none)) (fun r e => by cases e; exact ⟨_, hK, rfl⟩)).cell
    refine ⟨.tuple #[.int .i64 y.2.2, .bool true], by simp [results, Try.f18, go_sem, c1, c2], rfl, ?_⟩
    unfold Later
    rw [hH]
    exact hB.trans ((Below.refl H _).grown (grownBy_putObj' _ D _) (by have := (Array.getElem?_eq_some_iff.1 hK).1; omega) (fun k e => by cases e; omega))

theorem last_any (n0 : Nat) (w : World) (p : Nat) (b : Option Nat) (L : List (Int × Int)) (N : Nat) (a : Int) (h : RingAt n0 w p b L N) (hN : N ≤ 1000000) :
    Calls Try.prog 18 #[.pointer (some ⟨p, 0, none⟩), .int .i64 a] w fun e w' => e = .returned (lastV (lastF L a)) ∧ Later w w' := by
  obtain ⟨v, hv, hc⟩ := waiting_all n0 w p b L N h hN
  have := h.len
  exact last_of w (some ⟨p, 0, none⟩) L a v (by omega) hv hc

theorem last_nil (w : World) (a : Int) :
    Calls Try.prog 18 #[.pointer none, .int .i64 a] w fun e w' => e = .returned (.tuple #[.int .i64 0, .bool false]) ∧ Later w w' :=
  last_of w none [] a (.slice none 0 0) (by simp) (EntRow.nil w) (fun w1 _ => waiting_nil w1)

end Go.Proofs.Ytmfifaonbbeebaa
