/-
  For every program, symbol, cell, operand and registers: the statement's function returns true and nothing that was in memory turns. Conditions: the listed variables stand as the program's text lays them.
-/
import Derived.Test.YtgkdejldpldkiaaDoorRows
import Derived.Test.YtgkdejldpldkiaaDoorCards
import Derived.Test.YtgkdejldpldkiaaDoorTie
import Derived.Test.YtgkdejldpldkiaaDoorNamesLaid
import Derived.Test.YtgkdejldpldkiaaDoorJh
import Derived.Test.YtgkdejldpldkiaaDoorCellsAlive
import Derived.Test.YtgkdejldpldkiaaDoorJl
import Derived.Test.YtgkdejldpldkiaaDoorOpensCells
import Derived.WalkKit
import Derived.ProofKit
import Derived.OpenShut
import Derived.SizedLaws
import Derived.ShutString
import Derived.Carry
import Derived.Stop.Joined
import Derived.SevenTiedAt
namespace Go.Proofs.YtgkdejldpldkiaaDoor.cellsTell
open Go.ChangeShapes Go.WideShapes Go.ChangeAt Go.RowKit
open Go.ChangeMaps (open_string shut_string)
set_option linter.unusedVariables false
set_option linter.unusedSimpArgs false

theorem own : ownKnob Tryd.prog.godebug = none := by kernel_rfl
theorem laidOut : laidOutB Tryd.prog = true := by kernel_rfl

set_option maxRecDepth 1000000 in
set_option maxHeartbeats 4000000 in
theorem walk (w : World) (g : Good w) (u v : Value) (S : Syms) (P : List Thr) (hS : SymRow w u S) (hP : ThrRow w v P) (sym : Int) (hsy : I64 sym) (addr : Int) (had : I64 addr) (o : Opd) (ho : o.Ok) (r : Nat → Int) (hr : ∀ j, I64 (r j)) :
    Calls Tryd.prog 5 #[.agg #[u, v], .int .i64 sym, .int .i64 addr, o.val, regsV r] w fun e w' => e = .returned (.bool true) ∧ Later w w' := by
  have cG := fun w' hl => greatProg_any u v S P w' (hS.kept (Later.kept hl)) (hP.kept (Later.kept hl))
  have cA := fun w' hl => cellsAlive_any w' (NamesGood.later g hl)
  have cT := fun w' hl hf => tells_cells_any u v S P sym addr hsy had o r ho.2.2.2 ho.2.2.1 hr w' (NamesGood.later g hl) (hS.kept (Later.kept hl)) (hP.kept (Later.kept hl)) hf
  have hf := fine_prog (S := S) (P := P)
  obtain ⟨p, cap, rfl, h1, h2⟩ := hS.slice
  obtain ⟨p', cap', rfl, h1', h2'⟩ := hP.slice
  obtain ⟨k, a, s, d⟩ := o
  unfold Opd.val at *
  unfold regsV at *
  dsimp only at *
  have LL := Later.alloc (Later.alloc (Later.alloc (Later.refl w) (.cells #[.slice p S.length cap, .slice p' P.length cap'] 27)) (.cells #[.int .i64 k, .int .i64 a, .int .i64 s, .int .i64 d] 41)) (.cells #[.int .i64 (r 0), .int .i64 (r 1), .int .i64 (r 2), .int .i64 (r 3), .int .i64 (r 4), .int .i64 (r 5), .int .i64 (r 6), .int .i64 (r 7)] 49)
  have e1 : (w.alloc (.cells #[.slice p S.length cap, .slice p' P.length cap'] 27)).heap.size = w.heap.size + 1 := by simp
  obtain ⟨HBB, HC⟩ := two_new2 (w.alloc (.cells #[.slice p S.length cap, .slice p' P.length cap'] 27)) (.cells #[.int .i64 k, .int .i64 a, .int .i64 s, .int .i64 d] 41) (.cells #[.int .i64 (r 0), .int .i64 (r 1), .int .i64 (r 2), .int .i64 (r 3), .int .i64 (r 4), .int .i64 (r 5), .int .i64 (r 6), .int .i64 (r 7)] 49)
  rw [e1] at HBB HC
  obtain ⟨b0, b1, b2, b3, -⟩ := box4_facts HBB
  obtain ⟨c0, c1, c2, c3, c4, c5, c6, c7⟩ := box8_facts HC
  obtain ⟨a0, a1, -⟩ := box2_facts (heap_later (Later.alloc (Later.alloc (Later.refl _) (.cells #[.int .i64 k, .int .i64 a, .int .i64 s, .int .i64 d] 41)) (.cells #[.int .i64 (r 0), .int .i64 (r 1), .int .i64 (r 2), .int .i64 (r 3), .int .i64 (r 4), .int .i64 (r 5), .int .i64 (r 6), .int .i64 (r 7)] 49)) (at_new w (.cells #[.slice p S.length cap, .slice p' P.length cap'] 27)))
  clear hS hP g HBB HC hr ho hsy had e1
  generalize hW : ((w.alloc (.cells #[.slice p S.length cap, .slice p' P.length cap'] 27)).alloc (.cells #[.int .i64 k, .int .i64 a, .int .i64 s, .int .i64 d] 41)).alloc (.cells #[.int .i64 (r 0), .int .i64 (r 1), .int .i64 (r 2), .int .i64 (r 3), .int .i64 (r 4), .int .i64 (r 5), .int .i64 (r 6), .int .i64 (r 7)] 49) = W at *
  cases hgr : greatPF S P with
  | true =>
    rw [hgr] at cG
    clear hf hgr cT
    go_enter Tryd.func5, Tryd.ntmps5
    go_upto_region 1 with (fail)
    clear hW
    go_wp2_with (first
      | (go_at_call 15; refine (cG _ LL).mono ?_; rintro e w1 ⟨rfl, hl1⟩)
      | (go_at_call 20; refine (cA _ (LL.trans hl1)).mono ?_; rintro e w2 ⟨rfl, hl2⟩))
    go_ret
    exact ⟨rfl, LL.trans (hl1.trans hl2)⟩
  | false =>
    rw [hgr] at cG
    have cT' := fun w' hl => cT w' hl (hf hgr)
    clear hf hgr cT
    go_enter Tryd.func5, Tryd.ntmps5
    go_upto_region 1 with (fail)
    clear hW
    go_wp2_with (first
      | (go_at_call 15; refine (cG _ LL).mono ?_; rintro e w1 ⟨rfl, hl1⟩; have p0 := cell_later a0 hl1; have p1 := cell_later a1 hl1; have q0 := cell_later b0 hl1; have q1 := cell_later b1 hl1; have q2 := cell_later b2 hl1; have q3 := cell_later b3 hl1; have r0 := cell_later c0 hl1; have r1 := cell_later c1 hl1; have r2 := cell_later c2 hl1; have r3 := cell_later c3 hl1; have r4 := cell_later c4 hl1; have r5 := cell_later c5 hl1; have r6 := cell_later c6 hl1; have r7 := cell_later c7 hl1)
      | (go_at_call 21; refine (cT' _ (LL.trans hl1)).mono ?_; rintro e w2 ⟨rfl, hl2⟩)
      | (go_at_call 20; refine (cA _ (LL.trans (hl1.trans hl2))).mono ?_; rintro e w3 ⟨rfl, hl3⟩))
    go_ret
    exact ⟨rfl, LL.trans (hl1.trans (hl2.trans hl3))⟩

set_option maxRecDepth 100000 in
theorem lifted (os : Os) (started : os.Started) (H : Type) (enc : TypeId × Value → H) :
    ReturnsInHanded {} Tryd.checked os 5 .any (fun w args => (Rows.cellsTellSpec.pre enc Tryd.prog Tryd.f5 [] false w args ∧ laidMetH Tryd.prog theList w) ∧ sizedMet enc Tryd.prog Tryd.f5 (OpenSpec.ofChange Rows.cellsTellSpec) false w args)
      (Rows.cellsTellSpec.post enc Tryd.prog Tryd.f5 false true false false) := by
  refine returnsInHanded_of_change_and (C := Tryd.checked) (X := fun w _ => laidMetH Tryd.prog theList w) (fun _ _ _ hh h => h.of_heap hh) own started (by kernel_rfl) Tryd.func5
    (ChangeSpec.witness_shaped (enc := enc) (C := Tryd.checked) (os := os) (X := fun w _ => laidMetH Tryd.prog theList w) false (World.laidAll Tryd.prog os theList) #[.agg #[.slice none 0 0, .slice none 0 0], .int .i64 0, .int .i64 0, .agg #[.int .i64 0, .int .i64 0, .int .i64 0, .int .i64 0], .agg #[.int .i64 0, .int .i64 0, .int .i64 0, .int .i64 0, .int .i64 0, .int .i64 0, .int .i64 0, .int .i64 0]] 8 (World.laidAll_os _ _ _) (World.shaped_of_ZipB (by kernel_rfl) (by kernel_rfl)) (by kernel_rfl) (by kernel_rfl) (by kernel_rfl) (door_met os _)) ?_
  intro W base args ds gs before hval0 hW _ hsz0 hL _
  have hsz : (DataW.weightsEach Tryd.prog (Tryd.f5.params.toList ++ Rows.cellsTellSpec.plain.varTypes Tryd.prog) (ds ++ gs)).all (· ≤ reachBytes) = true := hsz0
  clear hsz0
  have hval : ∀ (j : Nat) t v, Tryd.f5.params[j]? = some t → args[j]? = some v → Value.okWide Tryd.prog W .any base t v := hval0
  have hW' := hW
  obtain ⟨p, q, hA0, hV, rfl, hfz, hnd⟩ := hW
  have hA : DataW.TrodAll enc Tryd.prog W 0 (fun _ => true) true Tryd.f5.params.toList args.toList ds p := hA0
  rw [Tryd.params5] at hA hval hsz
  obtain ⟨v0, vs0, d0, ds0, p0, q0, hargs, rfl, rfl, h0, r0⟩ := trodAll_cons hA
  obtain ⟨v1, vs1, d1, ds1, p1, q1, rfl, rfl, rfl, h1, r1⟩ := trodAll_cons r0
  obtain ⟨v2, vs2, d2, ds2, p2, q2, rfl, rfl, rfl, h2, r2⟩ := trodAll_cons r1
  obtain ⟨v3, vs3, d3, ds3, p3, q3, rfl, rfl, rfl, h3, r3⟩ := trodAll_cons r2
  obtain ⟨v4, vs4, d4, ds4, p4, q4, rfl, rfl, rfl, h4, r4⟩ := trodAll_cons r3
  obtain ⟨rfl, rfl, rfl⟩ := trodAll_nil r4
  obtain rfl : args = #[v0, v1, v2, v3, v4] := by cases args; simp_all
  obtain ⟨rfl, rfl⟩ := trodVars_none hV
  simp only [List.append_nil] at hW'
  have h0k := h0
  have hlt0 : ∀ x ∈ p0, x.block < W.heap.size := fun x hx => by simpa using hW'.lt x (by simp [hx])
  obtain ⟨u0, t0, S0, P0, rfl, is0, it0⟩ := open_prog (hval 0 27 v0 rfl rfl) h0
  obtain ⟨a1, rfl, rfl, rfl, w1⟩ := open_int Tryd.underlying3 (hval 1 3 v1 rfl rfl) h1
  obtain ⟨a2, rfl, rfl, rfl, w2⟩ := open_int Tryd.underlying3 (hval 2 3 v2 rfl rfl) h2
  have h3k := h3
  have hlt3 : ∀ x ∈ p3, x.block < W.heap.size := fun x hx => by simpa using hW'.lt x (by simp [hx])
  obtain ⟨x3, rfl, ok3⟩ := open_opd (hval 3 41 v3 rfl rfl) h3
  have h4k := h4
  have hlt4 : ∀ x ∈ p4, x.block < W.heap.size := fun x hx => by simpa using hW'.lt x (by simp [hx])
  obtain ⟨x4, rfl, ok4⟩ := open_regs (hval 4 49 v4 rfl rfl) h4
  clear hA0 hval0
  refine (walk W (Good.of_laid hL) u0 t0 S0 P0 is0 it0 a1 (int64_of_wf w1) a2 (int64_of_wf w2) x3 ok3 x4 ok4).mono fun e W' ⟨he, hnx⟩ => ?_
  subst he
  refine ⟨_, rfl, _, _, _, [], (p0 ++ ([] ++ ([] ++ (p3 ++ (p4 ++ []))))), [], hW', ?_, ?_, rfl, Below.frame hnx _, fun h => by cases h⟩
  · exact (trodAll_cons_mk (shut_bool Tryd.underlying4 _) trodAll_mk0)
  · exact (trodAll_cons_mk (Below.trod laidOut (by kernel_rfl) (of_decide_eq_true (by kernel_rfl)) h0k hnx hlt0) (trodAll_cons_mk (shut_int Tryd.underlying3 w1) (trodAll_cons_mk (shut_int Tryd.underlying3 w2) (trodAll_cons_mk (Below.trod laidOut (by kernel_rfl) (of_decide_eq_true (by kernel_rfl)) h3k hnx hlt3) (trodAll_cons_mk (Below.trod laidOut (by kernel_rfl) (of_decide_eq_true (by kernel_rfl)) h4k hnx hlt4) trodAll_mk0)))))

theorem over : Rows.cellsTellRow.holds Tryd.pinned (OpenSpec.ofChange Rows.cellsTellSpec) :=
  OpenClaim.holds_of_wide 5 Tryd.f5 rfl rfl rfl rfl rfl rfl rfl ⟨rfl, rfl, rfl, rfl, rfl⟩ rfl rfl rfl rfl rfl (by kernel_rfl) Tryd.func5 (by kernel_rfl)
    (of_decide_eq_true (by kernel_rfl)) (by unfold Func.isWrapper; first | (rw [if_pos (by decide +kernel)]; kernel_rfl) | (rw [if_neg (by decide +kernel)]; exact ⟨rfl, rfl⟩))
    (fun os started H enc _ => lifted os started H enc)

end Go.Proofs.YtgkdejldpldkiaaDoor.cellsTell

namespace Go.Proofs.YtgkdejldpldkiaaDoor
open Go
/-- The statement: the row, with its listed variables tied to the program's text. -/
theorem cellsTell_holds : Rows.CellsTellCardSaid :=
  Claim7.holds_tied_plain_at .later [] [.data, .data, .data, .data, .pinned] true Rows.cellsTellCard.stood.harness true
    cellsTell.over (fun _ h => by cases h) (by kernel_rfl) (fun _ h => by cases h) cellsTell_row_tie rfl ⟨rfl, rfl⟩ (by kernel_rfl) rfl
    (fun f fn hf hfn => by
      obtain rfl : f = 5 := Option.some.inj ((show Tryd.prog.funcNamed Rows.cellsTellRow.func = some 5 by kernel_rfl).symm.trans hf) |>.symm
      obtain rfl : fn = Tryd.f5 := (Option.some.inj (Tryd.func5.symm.trans hfn)).symm
      exact ⟨by kernel_rfl, fun j t ht => by
        rw [Tryd.params5] at ht
        have hm : t ∈ [27, 3, 3, 41, 49] := by simpa using Array.mem_of_getElem? ht
        have hall : ([27, 3, 3, 41, 49].all fun u => !Tryd.prog.wantsStandIn u) = true := by kernel_rfl
        exact (show Tryd.prog.wantsStandIn t = false by simpa using List.all_eq_true.1 hall t hm)⟩)
    (by kernel_rfl)
#print axioms cellsTell_holds
end Go.Proofs.YtgkdejldpldkiaaDoor
