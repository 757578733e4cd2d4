/-
  A ring's calls that change nothing of it: New, what waits, Len, List, Copy; and slices.Clone at entries. Conditions: as each theorem names them.
-/
import Derived.Test.YtmfifaonbbeebaaRingPlain
import Derived.BigQuiet
import Derived.Deep.QuietTactic
import Derived.Deep.RegionLaw
import Derived.RegionTactic
import Derived.Lib.SliceRun
namespace Go.Proofs.Ytmfifaonbbeebaa
open Go.RowKit Go.WideShapes
set_option linter.unusedVariables false
set_option linter.unusedSimpArgs false

theorem owns_base {w : World} {base base' : Nat} {e : TypeId} {size : Nat} {v : Value} {n : Nat} {xs : List Value} (h : w.ownsRow base e size v n xs) (hb : base' ≤ base) : w.ownsRow base' e size v n xs := by
  refine ⟨h.1, ?_⟩
  rcases h.2 with hn | ⟨g, cap, cur, hv, hg, rest⟩
  · exact .inl hn
  · exact .inr ⟨g, cap, cur, hv, by omega, rest⟩

theorem new_any (n0 : Nat) (w : World) (hn : n0 ≤ w.heap.size) :
    Calls Try.prog 8 #[] w fun e w' => e = .returned (.pointer (some ⟨w.heap.size, 0, none⟩)) ∧ Later w w' ∧ RingAt n0 w' w.heap.size none [] 0 := by
  go_enter Try.func8, Try.ntmps8
  go_wp2
  go_ret
  exact ⟨rfl, Later.alloc (Later.refl w) _, .slice none 0 0, [], hn, at_new _ _, rfl, by simp, World.ownsRow_nil _ _ _ _⟩

theorem waiting_nil (w : World) : Calls Try.prog 19 #[.pointer none] w fun e w' => e = .returned (.slice none 0 0) ∧ Later w w' := by
  go_enter Try.func19, Try.ntmps19
  go_wp2
  go_ret
  exact ⟨rfl, Later.refl w⟩

set_option maxRecDepth 1000000 in
set_option maxHeartbeats 2000000 in
/-- What waits, in the ring's own memory: one slice, whatever else is there by then. -/
theorem waiting_all (n0 : Nat) (w : World) (p : Nat) (b : Option Nat) (L : List (Int × Int)) (N : Nat) (h : RingAt n0 w p b L N) (hN : N ≤ 1000000) :
    ∃ v, EntRow w v L ∧ ∀ w1, Later w w1 → Calls Try.prog 19 #[.pointer (some ⟨p, 0, none⟩)] w1 fun e w' => e = .returned v ∧ Later w1 w' := by
  obtain ⟨v, pre, h1, h2, -, h4, h5⟩ := h
  obtain ⟨a, cap, rfl⟩ := owns_slice h5
  have hrow := (EntRow.of_owns rfl h5).drop rfl
  obtain ⟨hc1, hc2⟩ := owns_cap h5
  unfold maxLen at hc2
  have hlen : (pre ++ L).length = pre.length + L.length := List.length_append
  obtain ⟨n, hn⟩ : ∃ n, (pre ++ L).length = n := ⟨_, rfl⟩
  obtain ⟨l, hl⟩ : ∃ l, pre.length = l := ⟨_, rfl⟩
  rw [hn] at hrow h2 hc1 h4
  rw [hl] at hrow h2 hlen
  refine ⟨_, hrow, fun w1 hl1 => ?_⟩
  have hs : ∀ w, (Instr.slice 26 (.slice a n cap) (some (.int .i64 (l : Nat))) none none).run Try.prog w = .ok (.slice (if cap = l then a else a.map (·.add (l * 2))) (n - l) (cap - l)) w := fun w => by
    obtain ⟨i0, hi0, hz0, hz1, hz2⟩ := info_parts infoEnt
    have hln : (0 : Int) ≤ (l : Int) ∧ (l : Int) ≤ (n : Int) := by omega
    simp [Instr.slice, Instr.sliceBounds, Instr.sliceBound, asIntOf, run_underlying Try.underlying26, sizeOf, typeInfo, hi0, hz1, go_sem]
    omega
  generalize hX : (Value.slice (if cap = l then a else a.map (·.add (l * 2))) (n - l) (cap - l)) = X at *
  obtain ⟨c0, c1, -⟩ := box2_facts (heap_later hl1 h2)
  clear h2 h5 hrow hX
  go_enter Try.func19, Try.ntmps19
  go_wp2
  go_quiet (fail)
  go_wp2
  go_ret
  exact ⟨rfl, Later.drewN (Later.refl w1) _⟩

theorem waiting_any (n0 : Nat) (w : World) (p : Nat) (b : Option Nat) (L : List (Int × Int)) (N : Nat) (h : RingAt n0 w p b L N) (hN : N ≤ 1000000) :
    ∃ v, EntRow w v L ∧ Calls Try.prog 19 #[.pointer (some ⟨p, 0, none⟩)] w fun e w' => e = .returned v ∧ Later w w' := by
  obtain ⟨v, h1, h2⟩ := waiting_all n0 w p b L N h hN
  exact ⟨v, h1, h2 w (Later.refl w)⟩

theorem len_nil (w : World) : Calls Try.prog 14 #[.pointer none] w fun e w' => e = .returned (.int .i64 0) ∧ Later w w' := by
  go_enter Try.func14, Try.ntmps14
  go_wp2_with (go_at_call 19; refine (waiting_nil _).mono ?_; rintro e w' ⟨rfl, hl⟩)
  go_ret
  exact ⟨rfl, hl⟩

theorem len_any (n0 : Nat) (w : World) (p : Nat) (b : Option Nat) (L : List (Int × Int)) (N : Nat) (h : RingAt n0 w p b L N) (hN : N ≤ 1000000) :
    Calls Try.prog 14 #[.pointer (some ⟨p, 0, none⟩)] w fun e w' => e = .returned (.int .i64 L.length) ∧ Later w w' := by
  obtain ⟨v, hv, hc⟩ := waiting_any n0 w p b L N h hN
  obtain ⟨a, cap, rfl, -, -⟩ := hv.slice
  go_enter Try.func14, Try.ntmps14
  go_wp2_with (go_at_call 19; refine hc.mono ?_; rintro e w' ⟨rfl, hl⟩)
  go_ret
  exact ⟨rfl, hl⟩

set_option maxRecDepth 1000000 in
set_option maxHeartbeats 2000000 in
theorem clone_any (w : World) (v : Value) (L : List (Int × Int)) (h : EntRow w v L) (hL : L.length ≤ 1000000) :
    Calls Try.prog 20 #[v] w fun e w' => ∃ v', e = .returned v' ∧ w'.ownsRow w.heap.size 31 2 v' L.length (flatC entC L) ∧ Later w w' := by
  obtain ⟨i0, hi0, hz0, hz1, hz2⟩ := info_parts infoEnt
  have q : ∀ (w : World) (a : Option Addr) (n c n' c' : Nat), (binOp .eql 26 (.slice a n c) (.slice none n' c')).run Try.prog w = .ok (.bool a.isNone) w := fun w a n c n' c' => Lib.run_eql_slice_nil w _ _ a n c n' c' Try.underlying26
  obtain ⟨p, cap, rfl, hc1, hc2, hc3⟩ := h.all
  cases p with
  | none =>
    have hL0 : L = [] := by
      rcases L with _ | ⟨x, L⟩
      · rfl
      · obtain ⟨g, o, hg, -⟩ := hc3 (by simp)
        cases hg
    subst hL0
    go_enter Try.func20, Try.ntmps20
    go_wp2
    go_ret
    exact ⟨_, rfl, World.ownsRow_nil _ _ _ _, Later.refl w⟩
  | some a =>
    have hnews : ∀ j u, (flatC entC L)[j]? = some u → w.cell? (a.add j) = some u := fun j u hj => by
      rcases L with _ | ⟨x, L⟩
      · simp [flatC] at hj
      · obtain ⟨g, o, hg, h4⟩ := hc3 (by simp)
        cases hg
        rw [add_plain]
        exact h4 j u hj
    have hlen := flatC_length entC 2 entC_len L
    have hA : Aside (∀ j u, (flatC entC L)[j]? = some u → w.cell? (a.add j) = some u) := hnews
    have hone := entC_one L
    obtain ⟨C, hC⟩ : ∃ C, flatC entC L = C := ⟨_, rfl⟩
    obtain ⟨n, hn⟩ : ∃ n, L.length = n := ⟨_, rfl⟩
    rw [hC] at hA hlen hone ⊢
    rw [hn] at hL hlen ⊢
    clear hnews hc3 h hC hn hc1
    go_enter Try.func20, Try.ntmps20
    go_wp2_with (at_builtin; refine wpList_append_own _ rfl _ _ 26 rfl w.heap.size 31 i0 (.agg #[.int .i64 0, .int .i64 0]) 2 16 Try.underlying26 hi0 hz0 hz1 hz2 rfl (by decide) _ _ _ rfl (World.ownsRow_made w #[] 0 (Nat.le_refl _) (Nat.zero_le _) rfl) a n cap C rfl hlen ?qc2 hone (by unfold maxLen; omega) (by omega) (by simp) ?_)
    case qc2 => exact fun j u hj => cell_later (hA.out j u hj) (Later.alloc (Later.refl w) _)
    intro v' w1 hown hgrow hnil
    go_wp2
    go_ret
    refine ⟨v', rfl, by simpa using hown, ?_⟩
    exact ((Below.refl _ w).alloc (Nat.le_refl _) _).grown hgrow (by simp) (by intro k hk; simp [Value.ownBlock] at hk; omega)

theorem list_nil (w : World) : Calls Try.prog 17 #[.pointer none] w fun e w' => ∃ v', e = .returned v' ∧ w'.ownsRow w.heap.size 31 2 v' 0 [] ∧ Later w w' := by
  go_enter Try.func17, Try.ntmps17
  go_wp2_with (first
    | (go_at_call 19; refine (waiting_nil _).mono ?_; rintro e w' ⟨rfl, hl⟩)
    | (go_at_call 20; refine (clone_any _ _ [] (EntRow.nil _) (by simp)).mono ?_; rintro e w2 ⟨v', rfl, ho, hl2⟩))
  go_ret
  exact ⟨v', rfl, owns_base ho hl.size, hl.trans hl2⟩

/-- All that waits, in memory of the call's own. -/
theorem list_any (n0 : Nat) (w : World) (p : Nat) (b : Option Nat) (L : List (Int × Int)) (N : Nat) (h : RingAt n0 w p b L N) (hN : N ≤ 1000000) :
    Calls Try.prog 17 #[.pointer (some ⟨p, 0, none⟩)] w fun e w' => ∃ v', e = .returned v' ∧ w'.ownsRow w.heap.size 31 2 v' L.length (flatC entC L) ∧ Later w w' := by
  obtain ⟨v, hv, hc⟩ := waiting_any n0 w p b L N h hN
  have hl0 := h.len
  go_enter Try.func17, Try.ntmps17
  go_wp2_with (first
    | (go_at_call 19; refine hc.mono ?_; rintro e w' ⟨rfl, hl⟩)
    | (go_at_call 20; refine (clone_any _ _ L (hv.later hl) (by omega)).mono ?_; rintro e w2 ⟨v', rfl, ho, hl2⟩))
  go_ret
  exact ⟨v', rfl, owns_base ho hl.size, hl.trans hl2⟩

theorem copy_nil (w : World) : Calls Try.prog 15 #[.pointer none] w fun e w' => e = .returned (.pointer none) ∧ Later w w' := by
  go_enter Try.func15, Try.ntmps15
  go_wp2
  go_ret
  exact ⟨rfl, Later.refl w⟩

/-- A copy: a ring of its own, in new memory. -/
theorem copy_any (n0 : Nat) (w : World) (p : Nat) (b : Option Nat) (L : List (Int × Int)) (N : Nat) (h : RingAt n0 w p b L N) (hN : N ≤ 1000000) :
    Calls Try.prog 15 #[.pointer (some ⟨p, 0, none⟩)] w fun e w' => ∃ p' b', e = .returned (.pointer (some ⟨p', 0, none⟩)) ∧ RingAt w.heap.size w' p' b' L N ∧ Later w w' := by
  have hl0 := h.len
  have hc := list_any n0 w p b L N h hN
  go_enter Try.func15, Try.ntmps15
  go_wp2_with (go_at_call 17; refine hc.mono ?_; rintro e w2 ⟨v', rfl, ho, hl2⟩; obtain ⟨a, cap, rfl⟩ := owns_slice ho)
  go_ret
  exact ⟨_, _, rfl, ⟨_, [], hl2.size, at_new _ _, rfl, by simpa using hl0, by simpa using ho.alloc _⟩, Later.alloc hl2 _⟩

end Go.Proofs.Ytmfifaonbbeebaa
