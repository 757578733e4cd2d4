/-
  What the statements' own 'tells' returns: package cells and the document answer the same. Nothing that was in memory turns. Conditions: the program lies in memory, its texts are short, the words' tables are as listed.
-/
import Derived.Test.YtgkdejldpldkiaaDoorCellsStart2
import Derived.Test.YtgkdejldpldkiaaDoorCellsSame
import Derived.Deep.RegionHeld3
namespace Go.Proofs.YtgkdejldpldkiaaDoor
open Go.RowKit
set_option linter.unusedVariables false
set_option linter.unusedSimpArgs false

theorem sameCells_yes (u v : Value) (L : List Int) (w : World) (hL : IntsIn w u L) (hM : IntsIn w v L) :
    Calls Tryd.prog 49 #[u, v] w fun e w' => e = .returned (.bool true) ∧ Later w w' := by
  have h := sameCells_any u v L L w hL hM
  rw [decide_eq_true rfl] at h
  exact h

set_option maxRecDepth 1000000 in
set_option maxHeartbeats 8000000 in
theorem tells_cells_any (u v : Value) (S : Syms) (P : List Thr) (sym addr : Int) (hsy : I64 sym) (had : I64 addr) (o : Opd) (r : Nat → Int) (ho : I64 o.n) (hos : I64 o.sym) (hr : ∀ j, I64 (r j)) (w : World) (hG : NamesGood w) (hS : SymRow w u S) (hP : ThrRow w v P) (f : FineP S P) :
    Calls Tryd.prog 21 #[.agg #[u, v], .int .i64 sym, .int .i64 addr, o.val, regsV r] w fun e w' => e = .returned (.bool true) ∧ Later w w' := by
  have cA := fun w' hl => addr_any u v S P o r ho hos hr w' (NamesGood.later hG hl) (hS.kept (Later.kept hl)) (hP.kept (Later.kept hl)) f
  have dA := fun w' hl => refAddr_any u v S P o r ho hos hr w' (hS.kept (Later.kept hl)) (hP.kept (Later.kept hl)) f
  have cS := fun w' hl => size_any u v S P w' (NamesGood.later hG hl) (hS.kept (Later.kept hl)) (hP.kept (Later.kept hl)) f
  have dS := fun w' hl => refSize_any u v S P w' (hS.kept (Later.kept hl)) (hP.kept (Later.kept hl)) f
  have cB := fun w' hl => base_any u v S P sym hsy w' (NamesGood.later hG hl) (hS.kept (Later.kept hl)) (hP.kept (Later.kept hl)) f
  have dB := fun w' hl => refBase_any u v S P sym hsy w' (hS.kept (Later.kept hl)) (hP.kept (Later.kept hl)) f
  have cY := fun w' hl => sym_any u v S P addr had w' (NamesGood.later hG hl) (hS.kept (Later.kept hl)) (hP.kept (Later.kept hl)) f
  have dY := fun w' hl => refSym_any u v S P addr had w' (hS.kept (Later.kept hl)) (hP.kept (Later.kept hl)) f
  have cT := fun w' hl => start_any u v S P w' (NamesGood.later hG hl) (hS.kept (Later.kept hl)) (hP.kept (Later.kept hl)) f
  have dT := fun w' hl => refStart_any u v S P w' (hS.kept (Later.kept hl)) (hP.kept (Later.kept hl)) f
  obtain ⟨p, cap, rfl, h1, h2⟩ := hS.slice
  obtain ⟨p', cap', rfl, h1', h2'⟩ := hP.slice
  obtain ⟨k, a, s, d⟩ := o
  unfold Opd.val at *
  unfold regsV at *
  dsimp only at *
  have LL := Later.alloc (Later.alloc (Later.alloc (Later.refl w) (.cells #[.slice p S.length cap, .slice p' P.length cap'] 27)) (.cells #[.int .i64 k, .int .i64 a, .int .i64 s, .int .i64 d] 41)) (.cells #[.int .i64 (r 0), .int .i64 (r 1), .int .i64 (r 2), .int .i64 (r 3), .int .i64 (r 4), .int .i64 (r 5), .int .i64 (r 6), .int .i64 (r 7)] 49)
  have e1 : (w.alloc (.cells #[.slice p S.length cap, .slice p' P.length cap'] 27)).heap.size = w.heap.size + 1 := by simp
  obtain ⟨HBB, HC⟩ := two_new2 (w.alloc (.cells #[.slice p S.length cap, .slice p' P.length cap'] 27)) (.cells #[.int .i64 k, .int .i64 a, .int .i64 s, .int .i64 d] 41) (.cells #[.int .i64 (r 0), .int .i64 (r 1), .int .i64 (r 2), .int .i64 (r 3), .int .i64 (r 4), .int .i64 (r 5), .int .i64 (r 6), .int .i64 (r 7)] 49)
  rw [e1] at HBB HC
  obtain ⟨b0, b1, b2, b3, -⟩ := box4_facts HBB
  obtain ⟨c0, c1, c2, c3, c4, c5, c6, c7⟩ := box8_facts HC
  obtain ⟨a0, a1, -⟩ := box2_facts (heap_later (Later.alloc (Later.alloc (Later.refl _) (.cells #[.int .i64 k, .int .i64 a, .int .i64 s, .int .i64 d] 41)) (.cells #[.int .i64 (r 0), .int .i64 (r 1), .int .i64 (r 2), .int .i64 (r 3), .int .i64 (r 4), .int .i64 (r 5), .int .i64 (r 6), .int .i64 (r 7)] 49)) (at_new w (.cells #[.slice p S.length cap, .slice p' P.length cap'] 27)))
  clear hS hP hG f HBB HC ho hr hos hsy had e1
  generalize hW : ((w.alloc (.cells #[.slice p S.length cap, .slice p' P.length cap'] 27)).alloc (.cells #[.int .i64 k, .int .i64 a, .int .i64 s, .int .i64 d] 41)).alloc (.cells #[.int .i64 (r 0), .int .i64 (r 1), .int .i64 (r 2), .int .i64 (r 3), .int .i64 (r 4), .int .i64 (r 5), .int .i64 (r 6), .int .i64 (r 7)] 49) = W at *
  generalize addrF (laidF S P) ⟨k, a, s, d⟩ r = A at *
  generalize sumF (laidF S P) = m1 at *
  generalize baseF (laidF S P) sym = m2 at *
  generalize symAt (laidF S P) addr = m3 at *
  generalize startF (laidF S P) = L at *
  have HA : Hid (∃ (n : Int) (b : Bool), tupV A = .tuple #[.int .i64 n, .bool b]) := by
    cases A with
    | none => exact ⟨0, false, rfl⟩
    | some n => exact ⟨n, true, rfl⟩
  obtain ⟨n, b, hA⟩ := HA.out
  rw [hA] at cA dA
  clear HA hA A
  go_enter Tryd.func21, Tryd.ntmps21
  go_upto_region 1 with (fail)
  clear hW
  go_upto_region 3 with (first | (go_at_call 25; refine (cA _ LL).mono ?_; rintro e w1 ⟨rfl, hl1⟩; have p0 := cell_later a0 hl1; have p1 := cell_later a1 hl1; have q0 := cell_later b0 hl1; have q1 := cell_later b1 hl1; have q2 := cell_later b2 hl1; have q3 := cell_later b3 hl1; have r0 := cell_later c0 hl1; have r1 := cell_later c1 hl1; have r2 := cell_later c2 hl1; have r3 := cell_later c3 hl1; have r4 := cell_later c4 hl1; have r5 := cell_later c5 hl1; have r6 := cell_later c6 hl1; have r7 := cell_later c7 hl1) | (go_at_call 50; refine (dA _ (LL.trans hl1)).mono ?_; rintro e w2 ⟨rfl, hl2⟩))
  have y0 := cell_later a0 (Later.trans hl1 hl2)
  have y1 := cell_later a1 (Later.trans hl1 hl2)
  replace LL := LL.trans (hl1.trans hl2)
  clear cA dA a0 a1 b0 b1 b2 b3 c0 c1 c2 c3 c4 c5 c6 c7 p0 p1 q0 q1 q2 q3 r0 r1 r2 r3 r4 r5 r6 r7
  have L2 : Later w2 w2.drew := Later.drew (Later.refl _)
  generalize w.heap.size = B at *
  clear hl1 hl2
  go_region_held3 (fun w' => w'.cell? ⟨B, 0, none⟩ = some (.slice p S.length cap) ∧ w'.cell? ⟨B, 1, none⟩ = some (.slice p' P.length cap'))
    (with_reducible exact ⟨cell_later y0 L2, cell_later y1 L2⟩)
    (first | (go_at_call 27; apply Calls.mono; (focus (with_reducible (exact cS _ (Later.trans LL L2)))); rintro e w1 ⟨rfl, hl⟩; replace L2 := Later.trans L2 hl; clear hl) | (go_at_call 51; apply Calls.mono; (focus (with_reducible (exact dS _ (Later.trans LL L2)))); rintro e w1 ⟨rfl, hl⟩; replace L2 := Later.trans L2 hl; clear hl) | (go_at_call 24; apply Calls.mono; (focus (with_reducible (exact cB _ (Later.trans LL L2)))); rintro e w1 ⟨rfl, hl⟩; replace L2 := Later.trans L2 hl; clear hl) | (go_at_call 52; apply Calls.mono; (focus (with_reducible (exact dB _ (Later.trans LL L2)))); rintro e w1 ⟨rfl, hl⟩; replace L2 := Later.trans L2 hl; clear hl) | (go_at_call 26; apply Calls.mono; (focus (with_reducible (exact cY _ (Later.trans LL L2)))); rintro e w1 ⟨rfl, hl⟩; replace L2 := Later.trans L2 hl; clear hl) | (go_at_call 53; apply Calls.mono; (focus (with_reducible (exact dY _ (Later.trans LL L2)))); rintro e w1 ⟨rfl, hl⟩; replace L2 := Later.trans L2 hl; clear hl) | (go_at_call 28; apply Calls.mono; (focus (with_reducible (exact cT _ (Later.trans LL L2)))); rintro e w1 ⟨xA, rfl, hlA, hiA⟩; replace L2 := Later.trans L2 hlA; obtain ⟨qA, dA, rfl, -, -⟩ := hiA.slice) | (go_at_call 54; apply Calls.mono; (focus (with_reducible (exact dT _ (Later.trans LL L2)))); rintro e w1 ⟨xB, rfl, hlB, hiB⟩; replace L2 := Later.trans L2 hlB; obtain ⟨qB, dB, rfl, -, -⟩ := hiB.slice) | (go_at_call 49; apply Calls.mono; (focus (with_reducible (first | exact sameCells_yes _ _ _ _ (IntsIn.kept hiA (Later.kept hlB)) hiB | exact sameCells_yes _ _ _ _ hiA (IntsIn.kept hiB (Later.kept hlA))))); rintro e w1 ⟨rfl, hl⟩; replace L2 := Later.trans L2 hl; clear hl))
  all_goals go_wp2
  all_goals go_ret
  all_goals exact ⟨rfl, LL.trans L2⟩

end Go.Proofs.YtgkdejldpldkiaaDoor
