/-
  slices.Backward at entries: what its iterator hands on, for whatever loop. Conditions: as each theorem names them.
-/
import Derived.Test.YtmfifaonbbeebaaRingA
import Derived.RangeFuncNested
import Derived.RangeFuncBound
import Derived.RangeFuncCalls
import Derived.RangeFuncLeaves
import Derived.Shelf.Abstract
import Derived.Shelf.RegionOpen
import Derived.WalkKit
import Derived.OwnWalkIn
import Derived.TacticsInMore
import Derived.LoopNIn
import Derived.LoopIn
namespace Go.Proofs.Ytmfifaonbbeebaa
open Go.RowKit Go.Shelf
attribute [local go_sem] Oper.semAt_some
set_option linter.unusedVariables false
set_option linter.unusedSimpArgs false

/-- What a loop over it is handed: the index, the entry. -/
def backV (x : Int × Int × Int) : Array Value := #[.int .i64 x.1, .agg #[.int .i64 x.2.1, .int .i64 x.2.2]]

/-- The row's entries lie in a block below n0. -/
def EntLow (n0 : Nat) (v : Value) (L : List (Int × Int)) : Prop := ∀ g o n c, v = .slice (some ⟨g, o, none⟩) n c → L ≠ [] → g < n0

theorem EntRow.low {w : World} {v : Value} {L : List (Int × Int)} (h : EntRow w v L) : EntLow w.heap.size v L := by
  intro g o n c hv hL
  subst hv
  obtain ⟨x, L', rfl⟩ := List.exists_cons_of_ne_nil hL
  obtain ⟨g', o', e, h1, -⟩ := h.get (i := 0) rfl
  cases e
  exact block_of_cell h1

theorem EntRow.below {n0 : Nat} {w w' : World} {v : Value} {L : List (Int × Int)} (h : EntRow w v L) (hb : Below n0 w w') (hl : EntLow n0 v L) : EntRow w' v L := by
  obtain ⟨p, cap, rfl, h1, h2, h3⟩ := h
  refine ⟨p, cap, rfl, h1, h2, fun hn => ?_⟩
  obtain ⟨g, o, rfl, h4⟩ := h3 hn
  have hg := hl g o _ _ rfl hn
  refine ⟨g, o, rfl, fun i x hx => ?_⟩
  obtain ⟨cs, h5, h6⟩ := h4 i x hx
  exact ⟨cs, h5, fun j c hj => (hb.cell (p := ⟨g, o + i * 2 + j, none⟩) hg).trans (h6 j c hj)⟩

/-- What a round keeps: all that lay ahead, and the iterator's own variable. -/
def KeepB (n0 Bs : Nat) (A B : World) : Prop := Below n0 A B ∧ ∀ v, A.cell? ⟨Bs, 0, none⟩ = some v → B.cell? ⟨Bs, 0, none⟩ = some v
theorem KeepB.refl (n0 Bs : Nat) (A : World) : KeepB n0 Bs A A := ⟨Below.refl _ _, fun _ h => h⟩
theorem KeepB.trans {n0 Bs : Nat} {A B C : World} (h : KeepB n0 Bs A B) (k : KeepB n0 Bs B C) : KeepB n0 Bs A C := ⟨h.1.trans k.1, fun v hv => k.2 v (h.2 v hv)⟩
theorem KeepB.put {n0 Bs : Nat} (W : World) (l : Nat) {o o' : Obj} (hn : n0 ≤ l) (hB : Bs < l) (hl : W.heap[l]? = some o) (hc : o.isCells = false) (hw : o.isWalk = false) : KeepB n0 Bs W (W.putObj l o') := by
  refine ⟨(Below.refl n0 W).grown (grownBy_putObj' W l o') (by have := (Array.getElem?_eq_some_iff.1 hl).1; omega) (fun k e => by cases e; omega), fun v hv => ?_⟩
  unfold World.cell? at hv ⊢
  rw [World.putObj_heap_other (show Bs ≠ l by omega)]
  exact hv

theorem back_in (F : Fence) (n : Nat) (hF : F.fn 22) (hro : F.round = none) (a : Option Addr) (len cap : Nat) (w : World) :
    CallsIn F n Try.prog 22 #[.slice a len cap] w fun e w' => e = .returned (.func (.func 23) #[] #[.pointer (some ⟨w.heap.size, 0, none⟩)]) ∧ w' = w.alloc (.cells #[.slice a len cap] 26) := by
  refine callsIn_of_wp Try.func22 rfl hF ?_ hro
  simp only [Try.ntmps22, List.size_toArray, List.length_cons, List.length_nil, Nat.reduceAdd, Nat.reduceSub, Array.replicate_succ, Array.replicate_zero, List.push_toArray, List.append_toArray, List.nil_append, List.cons_append]
  gi_wp2
  go_ret
  exact ⟨rfl, rfl⟩

set_option maxRecDepth 100000 in
set_option maxHeartbeats 4000000 in
theorem back1_in (F : Fence) (n : Nat) (hF : F.fn 23) (hro : F.round = none) (hn : 1 ≤ n) (l Bs n0 : Nat) (v : Value) (L : List (Int × Int)) (hL : L.length ≤ 1000000) (hlow : EntLow n0 v L) (J Jx : List (Int × Int × Int) → World → Prop)
    (hY : ∀ pre x W, J pre W → pre.length < L.length → YieldAt F (n - 1) Try.prog l (backV x) W fun e W' =>
      (e = .returned (.bool true) ∧ J (pre ++ [x]) W' ∧ KeepB n0 Bs W W') ∨ (e = .returned (.bool false) ∧ Jx (pre ++ [x]) W'))
    (W : World) (hc : W.cell? ⟨Bs, 0, none⟩ = some v) (hR : EntRow W v L) (h0 : J [] W) :
    CallsIn F n Try.prog 23 #[.func (.yield l) #[] #[], .pointer (some ⟨Bs, 0, none⟩)] W fun e W' => (∃ v, e = .returned v) ∧
      ((∃ ys, ys.map (·.2) = L.reverse ∧ J ys W') ∨ (∃ pre, pre.map (·.2) <+: L.reverse ∧ Jx pre W')) := by
  obtain ⟨p, cap, rfl, hc1, hc2⟩ := hR.slice
  unfold maxLen at hc2
  have HR : Hid (EntRow W (.slice p L.length cap) L) := hR
  clear hR
  refine callsIn_of_wp Try.func23 rfl hF ?_ hro
  simp only [Try.ntmps23, List.size_toArray, List.length_cons, List.length_nil, Nat.reduceAdd, Nat.reduceSub, Array.replicate_succ, Array.replicate_zero, List.push_toArray, List.append_toArray, List.nil_append, List.cons_append]
  gi_wp2
  gi_loopw [3] (fun vi wr => ∃ (z : Int) (pre : List (Int × Int × Int)), vi = .int .i64 z ∧ -1 ≤ z ∧ z < L.length ∧ pre.map (·.2) = (L.drop (z + 1).toNat).reverse ∧ J pre wr ∧ KeepB n0 Bs W wr)
    (fun vi _ => (intOf vi + 1).toNat)
  case atStart => exact ⟨(L.length : Int) - 1, [], rfl, by omega, by omega, by rw [show ((L.length : Int) - 1 + 1).toNat = L.length by omega, List.drop_length]; rfl, h0, KeepB.refl _ _ _⟩
  case round =>
    obtain ⟨z, pre, rfl, hz1, hz2, hpre, hJs, hnx⟩ := hrel
    by_cases h8 : 0 ≤ z
    · obtain ⟨k, rfl⟩ : ∃ k : Nat, z = k := ⟨z.toNat, by omega⟩
      rw [show ((k : Int) + 1).toNat = k + 1 by omega] at hpre
      have hk : k < L.length := by omega
      obtain ⟨x, hx⟩ : ∃ x, L[k]? = some x := ⟨_, List.getElem?_eq_getElem hk⟩
      obtain ⟨g, o, rfl, x0, x1⟩ := (HR.out.below hnx.1 hlow).get hx
      have hcw := hnx.2 _ hc
      have hpl : pre.length < L.length := by
        have := congrArg List.length hpre
        simp at this
        omega
      have hnext : (pre ++ [((k : Int), x)]).map (·.2) = (L.drop k).reverse := by
        rw [List.map_append, hpre]
        have hd : L.drop k = x :: L.drop (k + 1) := by
          rw [List.drop_eq_getElem_cons hk]
          congr 1
          rw [List.getElem?_eq_getElem hk] at hx
          exact Option.some.inj hx
        rw [hd, List.reverse_cons]
        rfl
      have hdrop : L.drop k = L.drop ((k : Int) - 1 + 1).toNat := by rw [show ((k : Int) - 1 + 1).toNat = k by omega]
      obtain ⟨fn, tmps, assign, body, hy, hRd⟩ := hY pre ((k : Int), x) wr hJs hpl
      unfold backV at hy
      dsimp only at hy
      gi_wp2
      refine hRd.mono ?_
      rintro e W3 (⟨rfl, hJ3, hk3⟩ | ⟨rfl, hJx3⟩)
      · gi_wp2
        go_roundw
        case rel => exact ⟨(k : Int) - 1, _, rfl, by omega, by omega, by rw [hnext, hdrop], hJ3, hnx.trans hk3⟩
        case measure => simp [intOf] <;> omega
      · gi_wp2
        refine bodyPost_ret (results_none rfl _ _ _) rfl ?_
        refine ⟨⟨_, rfl⟩, .inr ⟨_, ?_, hJx3⟩⟩
        rw [hnext]
        have := List.take_append_drop k L
        have h2 := congrArg List.reverse this
        rw [List.reverse_append] at h2
        exact ⟨(L.take k).reverse, h2⟩
    · obtain rfl : z = -1 := by omega
      gi_wp2
      go_end0
      exact ⟨⟨_, rfl⟩, .inl ⟨pre, by simpa using hpre, hJs⟩⟩

/-- Its iterator's contract: all entries, the newest first; or some of them, where the loop has left. -/
theorem back_stops (F : Fence) (n : Nat) (hF : F.fn 23) (hro : F.round = none) (hn : 1 ≤ n) (Bs n0 : Nat) (v : Value) (L : List (Int × Int)) (hL : L.length ≤ 1000000) (w : World) (hlow : EntLow n0 v L) (hBs : Bs < w.heap.size) (hn0 : n0 ≤ w.heap.size)
    (hc : w.cell? ⟨Bs, 0, none⟩ = some v) (hR : EntRow w v L) :
    SeqStopsK F n Try.prog 23 #[.pointer (some ⟨Bs, 0, none⟩)] backV (KeepB n0 Bs) (fun ys => ys.map (·.2) = L.reverse) (fun pre => pre.map (·.2) <+: L.reverse) L.length w := fun l J Jx W hW _ _ hY h0 =>
  back1_in F n hF hro hn l Bs n0 v L hL hlow J Jx hY W ((hW.cell (p := ⟨Bs, 0, none⟩) hBs).trans hc) (hR.below (hW.mono hn0) hlow) h0

end Go.Proofs.Ytmfifaonbbeebaa
