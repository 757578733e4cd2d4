/-
  slices.Clone at symbols, threads, instructions, numbers, texts, threads' states, entries, buffers: a row of the call's own with the same cells; nothing that was in memory turns. Conditions: the row is no longer than a million.
-/
import Derived.Test.YtpnbpjhoilibcaaDoorRowIn
import Derived.Lib.SliceRun
namespace Go.Proofs.YtpnbpjhoilibcaaDoor
open Go.RowKit Go.WideShapes
set_option linter.unusedVariables false
set_option linter.unusedSimpArgs false

/-- Cells of n things in memory, for who appends them. -/
def Src (w : World) (v : Value) (n k : Nat) (C : List Value) : Prop :=
  ∃ (p : Option Addr) (cap : Nat), v = .slice p n cap ∧ C.length = n * k ∧ (∀ u ∈ C, u.oneCell' = true) ∧ (p = none → n = 0) ∧ ∀ a, p = some a → ∀ j u, C[j]? = some u → w.cell? (a.add j) = some u

theorem src_row {α : Type} {k : Nat} {E : World → α → List Value → Prop} {w : World} {v : Value} {l : List α} (h : RowIn k E w v l) (f : α → List Value) (h0 : 0 < k) (hk : ∀ a, (f a).length = k) (h1 : ∀ a ∈ l, ∀ u ∈ f a, u.oneCell' = true) (hE : ∀ (i : Nat) a cs, l[i]? = some a → E w a cs → cs = f a) : Src w v l.length k (flatC f l) := by
  obtain ⟨p, cap, rfl, -, -, h3⟩ := h
  refine ⟨p, cap, rfl, flatC_length f k hk l, fun u hu => ?_, fun hp => ?_, fun a ha j u hj => ?_⟩
  · obtain ⟨a, ha, hu⟩ := List.mem_flatMap.1 hu
    exact h1 a ha u hu
  · subst hp
    rcases l with _ | ⟨a, l⟩
    · rfl
    · obtain ⟨g, o, e, -⟩ := h3 (by simp)
      cases e
  · have hlt := (List.getElem?_eq_some_iff.1 hj).1
    rw [flatC_length f k hk] at hlt
    have hl : l ≠ [] := by rintro rfl; simp at hlt
    obtain ⟨g, o, rfl, h4⟩ := h3 hl
    cases ha
    have hq : j / k < l.length := (Nat.div_lt_iff_lt_mul h0).2 hlt
    have hi : l[j / k]? = some (l[j / k]'hq) := List.getElem?_eq_getElem hq
    obtain ⟨cs, h5, h6⟩ := h4 (j / k) _ hi
    obtain rfl := hE _ _ _ hi h5
    have hm : j / k * k + j % k = j := by rw [Nat.mul_comm]; exact Nat.div_add_mod j k
    have h7 := flatC_get f k hk l (j / k) _ hi (j % k) (Nat.mod_lt _ h0)
    rw [hm] at h7
    have h8 := h6 (j % k) u (by rw [← h7]; exact hj)
    rw [add_plain]
    rwa [show o + j / k * k + j % k = o + j by omega] at h8

theorem Src.later {w w' : World} {v : Value} {n k : Nat} {C : List Value} (h : Src w v n k C) (hl : Later w w') : Src w' v n k C := by
  obtain ⟨p, cap, h1, h2, h3, h4, h5⟩ := h
  exact ⟨p, cap, h1, h2, h3, h4, fun a ha j u hj => cell_later (h5 a ha j u hj) hl⟩

theorem infoCInt : (Tryd.prog.info? 2).map (fun i => (i.zero, i.size, i.bytes)) = some (some (.int .i64 0), 1, 8) := by kernel_rfl

set_option maxRecDepth 1000000 in
set_option maxHeartbeats 2000000 in
theorem cloneCInt_any (w : World) (v : Value) (n : Nat) (C : List Value) (h : Src w v n 1 C) (hn : n ≤ 1000000) :
    Calls Tryd.prog 34 #[v] w fun e w' => ∃ v', e = .returned v' ∧ w'.ownsRow w.heap.size 2 1 v' n C ∧ Later w w' := by
  obtain ⟨i0, hi0, hz0, hz1, hz2⟩ := info_parts infoCInt
  have q : ∀ (w : World) (a : Option Addr) (n c n' c' : Nat), (binOp .eql 22 (.slice a n c) (.slice none n' c')).run Tryd.prog w = .ok (.bool a.isNone) w := fun w a n c n' c' => Lib.run_eql_slice_nil w _ _ a n c n' c' Tryd.underlying22
  obtain ⟨p, cap, rfl, hlen, hone, hp, hnews⟩ := h
  cases p with
  | none =>
    obtain rfl := hp rfl
    obtain rfl : C = [] := List.length_eq_zero_iff.1 (by omega)
    go_enter Tryd.func34, Tryd.ntmps34
    go_wp2
    go_ret
    exact ⟨_, rfl, World.ownsRow_nil _ _ _ _, Later.refl w⟩
  | some a =>
    have hA : Aside (∀ j u, C[j]? = some u → w.cell? (a.add j) = some u) := hnews a rfl
    clear hnews hp
    go_enter Tryd.func34, Tryd.ntmps34
    go_wp2_with (at_builtin; refine wpList_append_own _ rfl _ _ 22 rfl w.heap.size 2 i0 (.int .i64 0) 1 8 Tryd.underlying22 hi0 hz0 hz1 hz2 rfl (by decide) _ _ _ rfl (World.ownsRow_made w #[] 0 (Nat.le_refl _) (Nat.zero_le _) rfl) a n cap C rfl hlen ?qc2 hone (by unfold maxLen; omega) (by omega) (by simp) ?_)
    case qc2 => exact fun j u hj => cell_later (hA.out j u hj) (Later.alloc (Later.refl w) _)
    intro v' w1 hown hgrow hnil
    go_wp2
    go_ret
    refine ⟨v', rfl, by simpa using hown, ?_⟩
    exact ((Below.refl _ w).alloc (Nat.le_refl _) _).grown hgrow (by simp) (by intro k hk; simp [Value.ownBlock] at hk; omega)

theorem infoCTxt : (Tryd.prog.info? 9).map (fun i => (i.zero, i.size, i.bytes)) = some (some (.string ⟨#[]⟩), 1, 16) := by kernel_rfl

theorem infoCTst : (Tryd.prog.info? 38).map (fun i => (i.zero, i.size, i.bytes)) = some (some (.agg #[.int .i64 0, .int .i64 0, .int .i64 0, .int .i64 0, .int .i64 0, .int .i64 0, .int .i64 0, .int .i64 0, .bool false, .bool false, .bool false, .bool false, .int .i64 0, .int .i64 0, .int .i64 0, .int .i64 0]), 16, 104) := by kernel_rfl

set_option maxRecDepth 1000000 in
set_option maxHeartbeats 2000000 in
theorem cloneCTst_any (w : World) (v : Value) (n : Nat) (C : List Value) (h : Src w v n 16 C) (hn : n ≤ 1000000) :
    Calls Tryd.prog 35 #[v] w fun e w' => ∃ v', e = .returned v' ∧ w'.ownsRow w.heap.size 38 16 v' n C ∧ Later w w' := by
  obtain ⟨i0, hi0, hz0, hz1, hz2⟩ := info_parts infoCTst
  have q : ∀ (w : World) (a : Option Addr) (n c n' c' : Nat), (binOp .eql 23 (.slice a n c) (.slice none n' c')).run Tryd.prog w = .ok (.bool a.isNone) w := fun w a n c n' c' => Lib.run_eql_slice_nil w _ _ a n c n' c' Tryd.underlying23
  obtain ⟨p, cap, rfl, hlen, hone, hp, hnews⟩ := h
  cases p with
  | none =>
    obtain rfl := hp rfl
    obtain rfl : C = [] := List.length_eq_zero_iff.1 (by omega)
    go_enter Tryd.func35, Tryd.ntmps35
    go_wp2
    go_ret
    exact ⟨_, rfl, World.ownsRow_nil _ _ _ _, Later.refl w⟩
  | some a =>
    have hA : Aside (∀ j u, C[j]? = some u → w.cell? (a.add j) = some u) := hnews a rfl
    clear hnews hp
    go_enter Tryd.func35, Tryd.ntmps35
    go_wp2_with (at_builtin; refine wpList_append_own _ rfl _ _ 23 rfl w.heap.size 38 i0 (.agg #[.int .i64 0, .int .i64 0, .int .i64 0, .int .i64 0, .int .i64 0, .int .i64 0, .int .i64 0, .int .i64 0, .bool false, .bool false, .bool false, .bool false, .int .i64 0, .int .i64 0, .int .i64 0, .int .i64 0]) 16 104 Tryd.underlying23 hi0 hz0 hz1 hz2 rfl (by decide) _ _ _ rfl (World.ownsRow_made w #[] 0 (Nat.le_refl _) (Nat.zero_le _) rfl) a n cap C rfl hlen ?qc2 hone (by unfold maxLen; omega) (by omega) (by simp) ?_)
    case qc2 => exact fun j u hj => cell_later (hA.out j u hj) (Later.alloc (Later.refl w) _)
    intro v' w1 hown hgrow hnil
    go_wp2
    go_ret
    refine ⟨v', rfl, by simpa using hown, ?_⟩
    exact ((Below.refl _ w).alloc (Nat.le_refl _) _).grown hgrow (by simp) (by intro k hk; simp [Value.ownBlock] at hk; omega)

theorem infoCEnt : (Tryd.prog.info? 41).map (fun i => (i.zero, i.size, i.bytes)) = some (some (.agg #[.int .i64 0, .int .i64 0]), 2, 16) := by kernel_rfl

set_option maxRecDepth 1000000 in
set_option maxHeartbeats 2000000 in
theorem cloneCEnt_any (w : World) (v : Value) (n : Nat) (C : List Value) (h : Src w v n 2 C) (hn : n ≤ 1000000) :
    Calls Tryd.prog 37 #[v] w fun e w' => ∃ v', e = .returned v' ∧ w'.ownsRow w.heap.size 41 2 v' n C ∧ Later w w' := by
  obtain ⟨i0, hi0, hz0, hz1, hz2⟩ := info_parts infoCEnt
  have q : ∀ (w : World) (a : Option Addr) (n c n' c' : Nat), (binOp .eql 39 (.slice a n c) (.slice none n' c')).run Tryd.prog w = .ok (.bool a.isNone) w := fun w a n c n' c' => Lib.run_eql_slice_nil w _ _ a n c n' c' Tryd.underlying39
  obtain ⟨p, cap, rfl, hlen, hone, hp, hnews⟩ := h
  cases p with
  | none =>
    obtain rfl := hp rfl
    obtain rfl : C = [] := List.length_eq_zero_iff.1 (by omega)
    go_enter Tryd.func37, Tryd.ntmps37
    go_wp2
    go_ret
    exact ⟨_, rfl, World.ownsRow_nil _ _ _ _, Later.refl w⟩
  | some a =>
    have hA : Aside (∀ j u, C[j]? = some u → w.cell? (a.add j) = some u) := hnews a rfl
    clear hnews hp
    go_enter Tryd.func37, Tryd.ntmps37
    go_wp2_with (at_builtin; refine wpList_append_own _ rfl _ _ 39 rfl w.heap.size 41 i0 (.agg #[.int .i64 0, .int .i64 0]) 2 16 Tryd.underlying39 hi0 hz0 hz1 hz2 rfl (by decide) _ _ _ rfl (World.ownsRow_made w #[] 0 (Nat.le_refl _) (Nat.zero_le _) rfl) a n cap C rfl hlen ?qc2 hone (by unfold maxLen; omega) (by omega) (by simp) ?_)
    case qc2 => exact fun j u hj => cell_later (hA.out j u hj) (Later.alloc (Later.refl w) _)
    intro v' w1 hown hgrow hnil
    go_wp2
    go_ret
    refine ⟨v', rfl, by simpa using hown, ?_⟩
    exact ((Below.refl _ w).alloc (Nat.le_refl _) _).grown hgrow (by simp) (by intro k hk; simp [Value.ownBlock] at hk; omega)

theorem infoCBuf : (Tryd.prog.info? 39).map (fun i => (i.zero, i.size, i.bytes)) = some (some (.slice none 0 0), 1, 24) := by kernel_rfl

set_option maxRecDepth 1000000 in
set_option maxHeartbeats 2000000 in
theorem cloneCBuf_any (w : World) (v : Value) (n : Nat) (C : List Value) (h : Src w v n 1 C) (hn : n ≤ 1000000) :
    Calls Tryd.prog 36 #[v] w fun e w' => ∃ v', e = .returned v' ∧ w'.ownsRow w.heap.size 39 1 v' n C ∧ Later w w' := by
  obtain ⟨i0, hi0, hz0, hz1, hz2⟩ := info_parts infoCBuf
  have q : ∀ (w : World) (a : Option Addr) (n c n' c' : Nat), (binOp .eql 24 (.slice a n c) (.slice none n' c')).run Tryd.prog w = .ok (.bool a.isNone) w := fun w a n c n' c' => Lib.run_eql_slice_nil w _ _ a n c n' c' Tryd.underlying24
  obtain ⟨p, cap, rfl, hlen, hone, hp, hnews⟩ := h
  cases p with
  | none =>
    obtain rfl := hp rfl
    obtain rfl : C = [] := List.length_eq_zero_iff.1 (by omega)
    go_enter Tryd.func36, Tryd.ntmps36
    go_wp2
    go_ret
    exact ⟨_, rfl, World.ownsRow_nil _ _ _ _, Later.refl w⟩
  | some a =>
    have hA : Aside (∀ j u, C[j]? = some u → w.cell? (a.add j) = some u) := hnews a rfl
    clear hnews hp
    go_enter Tryd.func36, Tryd.ntmps36
    go_wp2_with (at_builtin; refine wpList_append_own _ rfl _ _ 24 rfl w.heap.size 39 i0 (.slice none 0 0) 1 24 Tryd.underlying24 hi0 hz0 hz1 hz2 rfl (by decide) _ _ _ rfl (World.ownsRow_made w #[] 0 (Nat.le_refl _) (Nat.zero_le _) rfl) a n cap C rfl hlen ?qc2 hone (by unfold maxLen; omega) (by omega) (by simp) ?_)
    case qc2 => exact fun j u hj => cell_later (hA.out j u hj) (Later.alloc (Later.refl w) _)
    intro v' w1 hown hgrow hnil
    go_wp2
    go_ret
    refine ⟨v', rfl, by simpa using hown, ?_⟩
    exact ((Below.refl _ w).alloc (Nat.le_refl _) _).grown hgrow (by simp) (by intro k hk; simp [Value.ownBlock] at hk; omega)

end Go.Proofs.YtpnbpjhoilibcaaDoor
