/-
  Proved: for every number and all flags WordTurns returns true: of a condition and the turned one just one holds, turned twice it is itself, turned once it is another one; the arguments read as before. Conditions: none.
-/
import Derived.Test.YtdmcgckfdbeblaaAlive
import Derived.Lib.SmallJoins
import Derived.Deep.RegionHeld3
namespace Go.Proofs.Ytdmcgckfdbeblaa.wordTurns
open Go.ChangeShapes Go.WideShapes Go.ChangeAt Go.RowKit Go.Joins

theorem own : ownKnob Try.prog.godebug = none := by kernel_rfl
theorem cells23 : Try.prog.cellsOf 23 = 4 := by kernel_rfl

theorem keepF {W wx : World} {z s k o : Bool} (h : Later (W.alloc (.cells #[.bool z, .bool s, .bool k, .bool o] 23)) wx) :
    Later (W.alloc (.cells #[.bool z, .bool s, .bool k, .bool o] 23)) wx ∧ wx.cell? ⟨W.heap.size, 0, none⟩ = some (.bool z) ∧ wx.cell? ⟨W.heap.size, 1, none⟩ = some (.bool s) ∧ wx.cell? ⟨W.heap.size, 2, none⟩ = some (.bool k) ∧ wx.cell? ⟨W.heap.size, 3, none⟩ = some (.bool o) :=
  ⟨h, h.four.1, h.four.2.1, h.four.2.2.1, h.four.2.2.2.1⟩

theorem ten {r : Int} (h0 : 0 ≤ r) (h1 : r < 10) : r = 0 ∨ r = 1 ∨ r = 2 ∨ r = 3 ∨ r = 4 ∨ r = 5 ∨ r = 6 ∨ r = 7 ∨ r = 8 ∨ r = 9 := by omega
theorem just_one {r : Int} (h0 : 0 ≤ r) (h1 : r < 10) (z s k o : Bool) : (holdsF (1 + r) z s k o == holdsF (turnedF (1 + r)) z s k o) = false := by
  rcases ten h0 h1 with rfl | rfl | rfl | rfl | rfl | rfl | rfl | rfl | rfl | rfl
  all_goals (cases z <;> cases s <;> cases k <;> cases o <;> rfl)
theorem twice {r : Int} (h0 : 0 ≤ r) (h1 : r < 10) : turnedF (turnedF (1 + r)) = 1 + r := by
  rcases ten h0 h1 with rfl | rfl | rfl | rfl | rfl | rfl | rfl | rfl | rfl | rfl <;> rfl
theorem another {r : Int} (h0 : 0 ≤ r) (h1 : r < 10) : (turnedF (1 + r) != 1 + r) = true := by
  rcases ten h0 h1 with rfl | rfl | rfl | rfl | rfl | rfl | rfl | rfl | rfl | rfl <;> rfl

set_option maxHeartbeats 4000000 in
theorem walk (c : Int) (z s k o : Bool) (w : World) :
    Calls Try.prog 6 #[.int .i64 c, .agg #[.bool z, .bool s, .bool k, .bool o]] w fun e w' => e = .returned (.bool true) ∧ Grown w w' := by
  go_enter Try.func6, Try.ntmps6
  go_wp2_with (go_at_call 17; refine (pick_ten _ _).mono ?_; rintro e w' ⟨r, hr0, hr1, rfl, rfl⟩; have t1 := just_one hr0 hr1 z s k o; have t2 := twice hr0 hr1; have t3 := another hr0 hr1)
  go_region_held3 (fun w' => Later (w.alloc (.cells #[.bool z, .bool s, .bool k, .bool o] 23)) w' ∧ w'.cell? ⟨w.heap.size, 0, none⟩ = some (.bool z) ∧ w'.cell? ⟨w.heap.size, 1, none⟩ = some (.bool s) ∧ w'.cell? ⟨w.heap.size, 2, none⟩ = some (.bool k) ∧ w'.cell? ⟨w.heap.size, 3, none⟩ = some (.bool o))
    ((refine keepF ?_; repeat (first | assumption | exact Later.refl _ | apply Later.drew | apply Later.alloc | (apply Later.trans; rotate_left; assumption))))
    (first
      | (go_at_call 13; refine (holds_any _ _ _ _ _ _).mono ?_; rintro e w' ⟨rfl, hl⟩)
      | (go_at_call 15; refine (turned_any _ _).mono ?_; rintro e w' ⟨rfl, rfl⟩)
      | (go_at_call 12; refine (alive_any _).mono ?_; rintro e w' ⟨rfl, hl⟩))
  all_goals
    rename_i hHeld
    obtain ⟨hEnd, -⟩ := hHeld
    go_wp2
    go_ret
    exact ⟨rfl, (((Later.refl w).alloc _ _).trans hEnd).grown⟩

set_option maxRecDepth 100000 in
theorem lifted (os : Os) (started : os.Started) (H : Type) (enc : TypeId × Value → H) :
    ReturnsInHanded {} Try.checked os 6 .any (Rows.wordTurnsSpec.pre6 enc Try.prog Try.f6 Rows.wordTurnsRow.domain false) (Rows.wordTurnsSpec.post enc Try.prog Try.f6 false true false false) := by
  refine returnsInHanded_of_change (C := Try.checked) own started (by kernel_rfl) Try.func6
    (ChangeSpec.witness6 (enc := enc) (C := Try.checked) false ⟨#[], #[.int .i64 0, .agg #[.bool false, .bool false, .bool false, .bool false]], []⟩ 8 (by kernel_rfl) (by kernel_rfl) (by kernel_rfl) (by kernel_rfl)) ?_
  intro W base args ds gs before hval0 hW _ _
  have hval : ∀ (j : Nat) t v, Try.f6.params[j]? = some t → args[j]? = some v → Value.okWide Try.prog W .any base t v := hval0
  have hW' := hW
  obtain ⟨p, q, hA0, hV, rfl, _, _⟩ := hW
  have hA : DataW.TrodAll enc Try.prog W 0 (fun _ => true) true Try.f6.params.toList args.toList ds p := hA0
  rw [Try.params6] at hA hval
  obtain ⟨v0, vs0, d0, ds0, p0, q0, hargs, rfl, rfl, h0, r0⟩ := trodAll_cons hA
  obtain ⟨v1, vs1, d1, ds1, p1, q1, rfl, rfl, rfl, h1, r1⟩ := trodAll_cons r0
  obtain ⟨rfl, rfl, rfl⟩ := trodAll_nil r1
  obtain rfl : args = #[v0, v1] := by cases args; simp_all
  obtain ⟨rfl, rfl⟩ := trodVars_none hV
  obtain ⟨a0, rfl, rfl, rfl, w0⟩ := open_int Try.underlying3 (hval 0 3 v0 rfl rfl) h0
  obtain ⟨c0, c1, c2, c3, y0, y1, y2, y3, m, rfl, rfl, rfl, hy0, hy1, hy2, hy3⟩ := open_agg4 Try.underlying23 (by kernel_rfl) cells23 (hval 1 23 v1 rfl rfl) h1
  obtain ⟨z, e0, rfl⟩ := DataW.trod_bool Try.underlying4 hy0
  obtain ⟨s, e1, rfl⟩ := DataW.trod_bool Try.underlying4 hy1
  obtain ⟨k, e2, rfl⟩ := DataW.trod_bool Try.underlying4 hy2
  obtain ⟨o, e3, rfl⟩ := DataW.trod_bool Try.underlying4 hy3
  simp at e0 e1 e2 e3
  subst e0 e1 e2 e3
  clear hA0 hval0
  simp only [List.append_nil] at hW'
  have structReads : ∀ (W' : World) (sp : Nat → Bool), DataW.Trod enc Try.prog W' 0 sp true 23 (.agg #[.bool z, .bool s, .bool k, .bool o]) (.agg [.lit (.bool z), .lit (.bool s), .lit (.bool k), .lit (.bool o)]) [] := fun W' sp =>
    shut_agg4 (y0 := (.lit (.bool z), [])) (y1 := (.lit (.bool s), [])) (y2 := (.lit (.bool k), [])) (y3 := (.lit (.bool o), [])) Try.underlying23 (by kernel_rfl) cells23 ⟨1, by simp [DataW.trod, Try.underlying4]⟩ ⟨1, by simp [DataW.trod, Try.underlying4]⟩ ⟨1, by simp [DataW.trod, Try.underlying4]⟩ ⟨1, by simp [DataW.trod, Try.underlying4]⟩
  refine (walk a0 z s k o W).mono fun e W' ⟨he, hg⟩ => ?_
  subst he
  exact ⟨_, rfl, post_of_same (pa := []) (pv := []) hW' (fun _ _ _ => (trodAll_cons_mk (shut_bool Try.underlying4 _) trodAll_mk0)) (fun sp _ => (trodAll_cons_mk (shut_int Try.underlying3 w0) (trodAll_cons_mk (structReads _ sp) trodAll_mk0))) (fun _ _ => rfl) rfl
    (hg.frame _) hg.2.1 (ok_one (by kernel_rfl) rfl (okWide_bool_mk Try.underlying4 _))⟩

theorem over : Rows.wordTurnsRow.holds Try.pinned (OpenSpec.ofChange Rows.wordTurnsSpec) :=
  OpenClaim.holds_of_wide 6 Try.f6 rfl rfl rfl rfl rfl rfl rfl ⟨rfl, rfl, rfl, rfl, rfl⟩ rfl rfl rfl rfl rfl (by kernel_rfl) Try.func6 (by kernel_rfl)
    (of_decide_eq_true (by kernel_rfl)) (by unfold Func.isWrapper; first | (rw [if_pos (by decide +kernel)]; kernel_rfl) | (rw [if_neg (by decide +kernel)]; exact ⟨rfl, rfl⟩))
    (fun os started H enc _ => lifted os started H enc)
end Go.Proofs.Ytdmcgckfdbeblaa.wordTurns

namespace Go.Proofs.Ytdmcgckfdbeblaa
/-- The statement. -/
theorem wordTurns_holds : Rows.WordTurnsSaid := wordTurns.over
#print axioms wordTurns_holds
end Go.Proofs.Ytdmcgckfdbeblaa
