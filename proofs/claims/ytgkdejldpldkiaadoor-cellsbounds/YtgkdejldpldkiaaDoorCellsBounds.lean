/-
  For every size, number and register: the statement's function returns true and nothing that was in memory turns. Conditions: the listed variables stand as the program's text lays them.
-/
import Derived.Test.YtgkdejldpldkiaaDoorRows
import Derived.Test.YtgkdejldpldkiaaDoorCards
import Derived.Test.YtgkdejldpldkiaaDoorTie
import Derived.Test.YtgkdejldpldkiaaDoorNamesLaid
import Derived.Test.YtgkdejldpldkiaaDoorJh
import Derived.Test.YtgkdejldpldkiaaDoorCellsTwo
import Derived.Test.YtgkdejldpldkiaaDoorJl
import Derived.Test.YtgkdejldpldkiaaDoorManyPlain
import Derived.WalkKit
import Derived.ProofKit
import Derived.OpenShut
import Derived.SizedLaws
import Derived.ShutString
import Derived.Carry
import Derived.Stop.Joined
import Derived.SevenTiedAt
namespace Go.Proofs.YtgkdejldpldkiaaDoor.cellsBounds
open Go.ChangeShapes Go.WideShapes Go.ChangeAt Go.RowKit
open Go.ChangeMaps (open_string shut_string)
set_option linter.unusedVariables false
set_option linter.unusedSimpArgs false

theorem own : ownKnob Tryd.prog.godebug = none := by kernel_rfl
theorem laidOut : laidOutB Tryd.prog = true := by kernel_rfl

set_option maxRecDepth 1000000 in
set_option maxHeartbeats 8000000 in
theorem walk (w : World) (g : Good w) (x : Int) (hx : I64 x) (n : Int) (hn : I64 n) (y : Int) (hy : I64 y) :
    Calls Tryd.prog 8 #[.int .i64 x, .int .i64 n, .int .i64 y] w fun e w' => e = .returned (.bool true) ∧ Later w w' := by
  have cP := fun w' => pick_any x 64 hx (by omega) w'
  have cQ := fun w' => pick_any y 8 hy (by omega) w'
  obtain ⟨a, ha, ha2⟩ : ∃ a : Nat, pick x 64 = a ∧ a ≤ 63 := ⟨(pick x 64).toNat, by unfold pick; omega, by unfold pick; omega⟩
  obtain ⟨k, hk, hk2⟩ : ∃ k : Nat, pick y 8 = k ∧ k ≤ 7 := ⟨(pick y 8).toNat, by unfold pick; omega, by unfold pick; omega⟩
  rw [ha] at cP
  rw [hk] at cQ
  clear ha hk hx hy
  obtain ⟨h0, h1, h2⟩ := three_new3 w (.cells #[.string ⟨#[97]⟩, .int .i64 2, .slice none 0 0, .string ⟨#[98]⟩, .int .i64 (1 + ↑a), .slice none 0 0] 47) (.cells #[.slice (some ⟨w.heap.size, 0, none⟩) 2 2, .slice none 0 0] 27) (.cells #[.int .i64 0, .int .i64 0, .int .i64 0, .int .i64 0, .int .i64 0, .int .i64 0, .int .i64 0, .int .i64 0] 49)
  have LL := Later.alloc (Later.alloc (Later.alloc (Later.refl w) (.cells #[.string ⟨#[97]⟩, .int .i64 2, .slice none 0 0, .string ⟨#[98]⟩, .int .i64 (1 + ↑a), .slice none 0 0] 47)) (.cells #[.slice (some ⟨w.heap.size, 0, none⟩) 2 2, .slice none 0 0] 27)) (.cells #[.int .i64 0, .int .i64 0, .int .i64 0, .int .i64 0, .int .i64 0, .int .i64 0, .int .i64 0, .int .i64 0] 49)
  have HG : Hid (Good w) := g
  have HN : Hid (I64 n) := hn
  unfold I64 at hn
  clear g
  go_enter Tryd.func8, Tryd.ntmps8
  go_upto_region 4 with (first | (go_at_call 22; apply Calls.mono; (focus (with_reducible (exact cP _))); rintro e w' ⟨rfl, hw1⟩; have hw2 := hw1.symm; subst hw2) | (go_at_call 22; apply Calls.mono; (focus (with_reducible (exact cQ _))); rintro e w' ⟨rfl, hw1⟩; have hw2 := hw1.symm; subst hw2))
  generalize ((w.alloc (.cells #[.string ⟨#[97]⟩, .int .i64 2, .slice none 0 0, .string ⟨#[98]⟩, .int .i64 (1 + ↑a), .slice none 0 0] 47)).alloc (.cells #[.slice (some ⟨w.heap.size, 0, none⟩) 2 2, .slice none 0 0] 27)).alloc (.cells #[.int .i64 0, .int .i64 0, .int .i64 0, .int .i64 0, .int .i64 0, .int .i64 0, .int .i64 0, .int .i64 0] 49) = W at *
  clear cP cQ
  obtain ⟨z0, z1⟩ := zero_at h2 hk2
  have h2b := only_stored h2 hk2 n
  have h1b := set_kept (B := w.heap.size + 1 + 1) (j := k) (u := .int .i64 n) h1 (by omega)
  have h0b := set_kept (B := w.heap.size + 1 + 1) (j := k) (u := .int .i64 n) h0 (by omega)
  have LW : Later w (W.setCell ⟨w.heap.size + 1 + 1, k, none⟩ (.int .i64 n)) := Later.setCell LL (by omega) k (.int .i64 n)
  clear h0 h1 h2
  go_upto_region 5 with (fail)
  clear z0 z1 LL
  generalize W.setCell ⟨w.heap.size + 1 + 1, k, none⟩ (.int .i64 n) = W5 at *
  obtain ⟨c0, c1, c2, c3, c4, c5, c6, c7⟩ := box8_facts h2b
  obtain ⟨a0, a1, -⟩ := box2_facts h1b
  have cA := fun w' hl => addr_any (.slice (some ⟨w.heap.size, 0, none⟩) 2 2) (.slice none 0 0) (twoS (1 + (a : Int))) [] ⟨4, k, 1, 0⟩ (only k n) (by unfold I64; dsimp only; omega) (by unfold I64; dsimp only; omega) (only_i64 HN.out k) w' (NamesGood.later HG.out (LW.trans hl)) (SymRow.kept (twoS_row (by unfold I64; omega) h0b) (Later.kept hl)) (RowIn.nil _ _ _) (twoS_fine _)
  rw [twoS_laid ha2, twoS_addr hk2] at cA
  unfold Opd.val regsV at cA
  dsimp only at cA
  have cL := fun w' hl => cellsAlive_any w' (NamesGood.later HG.out (LW.trans hl))
  clear h0b h1b h2b HG HN
  generalize only k n = r at *
  by_cases hn0 : n < 0
  · rw [if_neg (by omega)] at cA
    unfold tupV at cA
    dsimp only at cA
    have hwn : IntKind.u64.wrap n = n + 18446744073709551616 := by show n % 18446744073709551616 = _; omega
    go_wp2_with (first
      | (go_at_call 25; apply Calls.mono; (focus (with_reducible (exact cA _ (Later.refl _)))); rintro e w1 ⟨rfl, hl1⟩)
      | (go_at_call 20; refine (cL _ hl1).mono ?_; rintro e w2 ⟨rfl, hl2⟩))
    go_ret
    exact ⟨ret_bool (a := !decide (n + 18446744073709551616 < 1 + (a : Int))) (b := true) (by rw [decide_eq_false (by omega)]; rfl), LW.trans (hl1.trans hl2)⟩
  by_cases hn1 : n < 1 + (a : Int)
  · rw [if_pos (by omega)] at cA
    unfold tupV at cA
    dsimp only at cA
    go_wp2_with (first
      | (go_at_call 25; apply Calls.mono; (focus (with_reducible (exact cA _ (Later.refl _)))); rintro e w1 ⟨rfl, hl1⟩)
      | (go_at_call 20; refine (cL _ hl1).mono ?_; rintro e w2 ⟨rfl, hl2⟩))
    go_ret
    exact ⟨rfl, LW.trans (hl1.trans hl2)⟩
  · rw [if_neg (by omega)] at cA
    unfold tupV at cA
    dsimp only at cA
    go_wp2_with (first
      | (go_at_call 25; apply Calls.mono; (focus (with_reducible (exact cA _ (Later.refl _)))); rintro e w1 ⟨rfl, hl1⟩)
      | (go_at_call 20; refine (cL _ hl1).mono ?_; rintro e w2 ⟨rfl, hl2⟩))
    go_ret
    exact ⟨ret_bool (a := !decide (n < 1 + (a : Int))) (b := true) (by rw [decide_eq_false (by omega)]; rfl), LW.trans (hl1.trans hl2)⟩

set_option maxRecDepth 100000 in
theorem lifted (os : Os) (started : os.Started) (H : Type) (enc : TypeId × Value → H) :
    ReturnsInHanded {} Tryd.checked os 8 .any (fun w args => (Rows.cellsBoundsSpec.pre enc Tryd.prog Tryd.f8 [] false w args ∧ laidMetH Tryd.prog theList w) ∧ sizedMet enc Tryd.prog Tryd.f8 (OpenSpec.ofChange Rows.cellsBoundsSpec) false w args)
      (Rows.cellsBoundsSpec.post enc Tryd.prog Tryd.f8 false true false false) := by
  refine returnsInHanded_of_change_and (C := Tryd.checked) (X := fun w _ => laidMetH Tryd.prog theList w) (fun _ _ _ hh h => h.of_heap hh) own started (by kernel_rfl) Tryd.func8
    (ChangeSpec.witness_shaped (enc := enc) (C := Tryd.checked) (os := os) (X := fun w _ => laidMetH Tryd.prog theList w) false (World.laidAll Tryd.prog os theList) #[.int .i64 0, .int .i64 0, .int .i64 0] 8 (World.laidAll_os _ _ _) (World.shaped_of_ZipB (by kernel_rfl) (by kernel_rfl)) (by kernel_rfl) (by kernel_rfl) (by kernel_rfl) (door_met os _)) ?_
  intro W base args ds gs before hval0 hW _ hsz0 hL _
  have hsz : (DataW.weightsEach Tryd.prog (Tryd.f8.params.toList ++ Rows.cellsBoundsSpec.plain.varTypes Tryd.prog) (ds ++ gs)).all (· ≤ reachBytes) = true := hsz0
  clear hsz0
  have hval : ∀ (j : Nat) t v, Tryd.f8.params[j]? = some t → args[j]? = some v → Value.okWide Tryd.prog W .any base t v := hval0
  have hW' := hW
  obtain ⟨p, q, hA0, hV, rfl, hfz, hnd⟩ := hW
  have hA : DataW.TrodAll enc Tryd.prog W 0 (fun _ => true) true Tryd.f8.params.toList args.toList ds p := hA0
  rw [Tryd.params8] at hA hval hsz
  obtain ⟨v0, vs0, d0, ds0, p0, q0, hargs, rfl, rfl, h0, r0⟩ := trodAll_cons hA
  obtain ⟨v1, vs1, d1, ds1, p1, q1, rfl, rfl, rfl, h1, r1⟩ := trodAll_cons r0
  obtain ⟨v2, vs2, d2, ds2, p2, q2, rfl, rfl, rfl, h2, r2⟩ := trodAll_cons r1
  obtain ⟨rfl, rfl, rfl⟩ := trodAll_nil r2
  obtain rfl : args = #[v0, v1, v2] := by cases args; simp_all
  obtain ⟨rfl, rfl⟩ := trodVars_none hV
  simp only [List.append_nil] at hW'
  obtain ⟨a0, rfl, rfl, rfl, w0⟩ := open_int Tryd.underlying3 (hval 0 3 v0 rfl rfl) h0
  obtain ⟨a1, rfl, rfl, rfl, w1⟩ := open_int Tryd.underlying2 (hval 1 2 v1 rfl rfl) h1
  obtain ⟨a2, rfl, rfl, rfl, w2⟩ := open_int Tryd.underlying3 (hval 2 3 v2 rfl rfl) h2
  clear hA0 hval0
  refine (walk W (Good.of_laid hL) a0 (int64_of_wf w0) a1 (int64_of_wf w1) a2 (int64_of_wf w2)).mono fun e W' ⟨he, hnx⟩ => ?_
  subst he
  refine ⟨_, rfl, _, _, _, [], ([] ++ ([] ++ ([] ++ []))), [], hW', ?_, ?_, rfl, Below.frame hnx _, fun h => by cases h⟩
  · exact (trodAll_cons_mk (shut_bool Tryd.underlying4 _) trodAll_mk0)
  · exact (trodAll_cons_mk (shut_int Tryd.underlying3 w0) (trodAll_cons_mk (shut_int Tryd.underlying2 w1) (trodAll_cons_mk (shut_int Tryd.underlying3 w2) trodAll_mk0)))

theorem over : Rows.cellsBoundsRow.holds Tryd.pinned (OpenSpec.ofChange Rows.cellsBoundsSpec) :=
  OpenClaim.holds_of_wide 8 Tryd.f8 rfl rfl rfl rfl rfl rfl rfl ⟨rfl, rfl, rfl, rfl, rfl⟩ rfl rfl rfl rfl rfl (by kernel_rfl) Tryd.func8 (by kernel_rfl)
    (of_decide_eq_true (by kernel_rfl)) (by unfold Func.isWrapper; first | (rw [if_pos (by decide +kernel)]; kernel_rfl) | (rw [if_neg (by decide +kernel)]; exact ⟨rfl, rfl⟩))
    (fun os started H enc _ => lifted os started H enc)

end Go.Proofs.YtgkdejldpldkiaaDoor.cellsBounds

namespace Go.Proofs.YtgkdejldpldkiaaDoor
open Go
/-- The statement: the row, with its listed variables tied to the program's text. -/
theorem cellsBounds_holds : Rows.CellsBoundsCardSaid :=
  Claim7.holds_tied_plain_at .later [] [.data, .data, .data, .data, .pinned] true Rows.cellsBoundsCard.stood.harness true
    cellsBounds.over (fun _ h => by cases h) (by kernel_rfl) (fun _ h => by cases h) cellsBounds_row_tie rfl ⟨rfl, rfl⟩ (by kernel_rfl) rfl
    (fun f fn hf hfn => by
      obtain rfl : f = 8 := Option.some.inj ((show Tryd.prog.funcNamed Rows.cellsBoundsRow.func = some 8 by kernel_rfl).symm.trans hf) |>.symm
      obtain rfl : fn = Tryd.f8 := (Option.some.inj (Tryd.func8.symm.trans hfn)).symm
      exact ⟨by kernel_rfl, fun j t ht => by
        rw [Tryd.params8] at ht
        have hm : t ∈ [3, 2, 3] := by simpa using Array.mem_of_getElem? ht
        have hall : ([3, 2, 3].all fun u => !Tryd.prog.wantsStandIn u) = true := by kernel_rfl
        exact (show Tryd.prog.wantsStandIn t = false by simpa using List.all_eq_true.1 hall t hm)⟩)
    (by kernel_rfl)
#print axioms cellsBounds_holds
end Go.Proofs.YtgkdejldpldkiaaDoor
