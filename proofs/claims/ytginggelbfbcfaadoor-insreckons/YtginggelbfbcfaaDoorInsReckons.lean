/-
  Proved: for every raw act InsReckons returns true: of the instruction that is made of it what reads and writes memory is locked, or takes two steps; a fence is what is locked, and an mfence; nothing is both a jump and memory's; the argument reads as before. The listed package-level variables (names.regs, names.ops, names.jumps, unicode/utf8's first and acceptRanges) start as the program's text lays them; no other condition.
-/
import Derived.Test.YtginggelbfbcfaaDoorRows
import Derived.Test.YtginggelbfbcfaaDoorCards
import Derived.Test.YtginggelbfbcfaaDoorTie
import Derived.Test.YtginggelbfbcfaaDoorNamesLaid
import Derived.Test.YtginggelbfbcfaaDoorOpens
import Derived.Test.YtginggelbfbcfaaDoorReckA
import Derived.Test.YtginggelbfbcfaaDoorReckB
import Derived.Test.YtginggelbfbcfaaDoorReckFacts
import Derived.Test.YtginggelbfbcfaaDoorBookIns
import Derived.Test.YtginggelbfbcfaaDoorOpensAct
import Derived.WalkKit
import Derived.ProofKit
import Derived.OpenShut
import Derived.SizedLaws
import Derived.ShutString
import Derived.Carry
import Derived.Stop.Joined
import Derived.SevenTiedAt
namespace Go.Proofs.YtginggelbfbcfaaDoor.insReckons
open Go.ChangeShapes Go.WideShapes Go.ChangeAt Go.RowKit
open Go.ChangeMaps (open_string shut_string)
set_option linter.unusedVariables false
set_option linter.unusedSimpArgs false

theorem own : ownKnob Tryd.prog.godebug = none := by kernel_rfl
theorem laidOut : laidOutB Tryd.prog = true := by kernel_rfl

set_option maxRecDepth 1000000 in
set_option maxHeartbeats 4000000 in
theorem walk (w : World) (g : Good w) (x : Act5) (ok : x.Ok) :
    Calls Tryd.prog 6 #[x.val] w fun e w' => e = .returned (.bool true) ∧ Later w w' := by
  have cM : ∀ w', Calls Tryd.prog 11 #[x.val, .int .i64 9] w' fun e w'' => e = .returned (insOf x 9).val ∧ Later w' w'' := fun w' => bookIns_any x ok 9 (by omega) w'
  have hI : insF (insOf x 9) = 0 := insOf_right x 9 (by omega)
  have hd : (insOf x 9).dest.size ≤ 1000 := insOf_dest x 9 (by omega)
  have hlb : (insOf x 9).labels = .slice none 0 0 := insOf_labels x 9
  have hk := nine (insOf x 9) hI
  have cR := fun w' h => insReads_any (insOf x 9) hd w' h
  have cW := fun w' h => insWrites_any (insOf x 9) hd w' h
  have cE := fun w' h => insLeads_any (insOf x 9) hd w' h
  have cP := fun w' h => insParts_any (insOf x 9) hd w' h
  have cL := fun w' h => insLocked_any (insOf x 9) hd w' h
  have cF := fun w' h => insFence_any (insOf x 9) hd w' h
  clear hI hd
  generalize insOf x 9 = y at *
  obtain ⟨ak', aa', ab', ac', an'⟩ := x
  unfold Act5.val at *
  dsimp only at *
  clear ok
  rcases hk with hk | hk | hk | hk | hk | hk | hk | hk | hk
  · obtain ⟨e1, e2, e3, e4, e5, e6, e7⟩ := hk
    rw [e3] at cL
    rw [e4] at cF
    rw [e5] at cP
    rw [e6] at cE
    rw [e1] at cR
    rw [e2] at cW
    clear e1 e2 e3 e4 e5 e6
    generalize (readsF y).1 = ro at *
    generalize (writesF y).1 = wo at *
    obtain ⟨op, lock, cond, ⟨ak, ar, ay, an⟩, ⟨bk, br, bs, bn⟩, dest, lb⟩ := y
    obtain ⟨uk, ur, us, un⟩ := ro
    obtain ⟨vk, vr, vs, vn⟩ := wo
    unfold Ins.val Ins.cells Opd.val at *
    dsimp only at *
    subst hlb
    obtain ⟨h10, h12, h14⟩ := e7
    exact core_1 w g ak' aa' ab' ac' an' op cond ak ar ay an bk br bs bn uk ur us un vk vr vs vn lock dest h10 h12 h14 cM cR cW cE cP cL cF
  · obtain ⟨e1, e2, e3, e4, e5, e6, e7⟩ := hk
    rw [e3] at cL
    rw [e4] at cF
    rw [e5] at cP
    rw [e6] at cE
    rw [e1] at cR
    rw [e2] at cW
    clear e1 e2 e3 e4 e5 e6
    generalize (readsF y).1 = ro at *
    generalize (writesF y).1 = wo at *
    obtain ⟨op, lock, cond, ⟨ak, ar, ay, an⟩, ⟨bk, br, bs, bn⟩, dest, lb⟩ := y
    obtain ⟨uk, ur, us, un⟩ := ro
    obtain ⟨vk, vr, vs, vn⟩ := wo
    unfold Ins.val Ins.cells Opd.val at *
    dsimp only at *
    subst hlb
    obtain ⟨h10, h12, h14⟩ := e7
    exact core_2 w g ak' aa' ab' ac' an' op cond ak ar ay an bk br bs bn uk ur us un vk vr vs vn lock dest h10 h12 h14 cM cR cW cE cP cL cF
  · obtain ⟨e1, e2, e3, e4, e5, e6, e7⟩ := hk
    rw [e3] at cL
    rw [e4] at cF
    rw [e5] at cP
    rw [e6] at cE
    rw [e1] at cR
    rw [e2] at cW
    clear e1 e2 e3 e4 e5 e6
    generalize (readsF y).1 = ro at *
    generalize (writesF y).1 = wo at *
    obtain ⟨op, lock, cond, ⟨ak, ar, ay, an⟩, ⟨bk, br, bs, bn⟩, dest, lb⟩ := y
    obtain ⟨uk, ur, us, un⟩ := ro
    obtain ⟨vk, vr, vs, vn⟩ := wo
    unfold Ins.val Ins.cells Opd.val at *
    dsimp only at *
    subst hlb
    obtain ⟨h10, h12, h14⟩ := e7
    exact core_3 w g ak' aa' ab' ac' an' op cond ak ar ay an bk br bs bn uk ur us un vk vr vs vn lock dest h10 h12 h14 cM cR cW cE cP cL cF
  · obtain ⟨e1, e2, e3, e4, e5, e6, e7⟩ := hk
    rw [e3] at cL
    rw [e4] at cF
    rw [e5] at cP
    rw [e6] at cE
    rw [e1] at cR
    rw [e2] at cW
    clear e1 e2 e3 e4 e5 e6
    generalize (readsF y).1 = ro at *
    generalize (writesF y).1 = wo at *
    obtain ⟨op, lock, cond, ⟨ak, ar, ay, an⟩, ⟨bk, br, bs, bn⟩, dest, lb⟩ := y
    obtain ⟨uk, ur, us, un⟩ := ro
    obtain ⟨vk, vr, vs, vn⟩ := wo
    unfold Ins.val Ins.cells Opd.val at *
    dsimp only at *
    subst hlb
    obtain ⟨h10, h12, h14⟩ := e7
    exact core_4 w g ak' aa' ab' ac' an' op cond ak ar ay an bk br bs bn uk ur us un vk vr vs vn lock dest h10 h12 h14 cM cR cW cE cP cL cF
  · obtain ⟨e1, e2, e3, e4, e5, e6, e7⟩ := hk
    rw [e3] at cL
    rw [e4] at cF
    rw [e5] at cP
    rw [e6] at cE
    rw [e1] at cR
    rw [e2] at cW
    clear e1 e2 e3 e4 e5 e6
    generalize (readsF y).1 = ro at *
    generalize (writesF y).1 = wo at *
    obtain ⟨op, lock, cond, ⟨ak, ar, ay, an⟩, ⟨bk, br, bs, bn⟩, dest, lb⟩ := y
    obtain ⟨uk, ur, us, un⟩ := ro
    obtain ⟨vk, vr, vs, vn⟩ := wo
    unfold Ins.val Ins.cells Opd.val at *
    dsimp only at *
    subst hlb
    obtain ⟨h10, h12, h14⟩ := e7
    exact core_5 w g ak' aa' ab' ac' an' op cond ak ar ay an bk br bs bn uk ur us un vk vr vs vn lock dest h10 h12 h14 cM cR cW cE cP cL cF
  · obtain ⟨e1, e2, e3, e4, e5, e6, e7⟩ := hk
    rw [e3] at cL
    rw [e4] at cF
    rw [e5] at cP
    rw [e6] at cE
    rw [e1] at cR
    rw [e2] at cW
    clear e1 e2 e3 e4 e5 e6
    generalize (readsF y).1 = ro at *
    generalize (writesF y).1 = wo at *
    obtain ⟨op, lock, cond, ⟨ak, ar, ay, an⟩, ⟨bk, br, bs, bn⟩, dest, lb⟩ := y
    obtain ⟨uk, ur, us, un⟩ := ro
    obtain ⟨vk, vr, vs, vn⟩ := wo
    unfold Ins.val Ins.cells Opd.val at *
    dsimp only at *
    subst hlb
    subst e7
    exact core_6 w g ak' aa' ab' ac' an' cond ak ar ay an bk br bs bn uk ur us un vk vr vs vn lock dest cM cR cW cE cP cL cF
  · obtain ⟨e1, e2, e3, e4, e5, e6, e7⟩ := hk
    rw [e3] at cL
    rw [e4] at cF
    rw [e5] at cP
    rw [e6] at cE
    rw [e1] at cR
    rw [e2] at cW
    clear e1 e2 e3 e4 e5 e6
    generalize (readsF y).1 = ro at *
    generalize (writesF y).1 = wo at *
    obtain ⟨op, lock, cond, ⟨ak, ar, ay, an⟩, ⟨bk, br, bs, bn⟩, dest, lb⟩ := y
    obtain ⟨uk, ur, us, un⟩ := ro
    obtain ⟨vk, vr, vs, vn⟩ := wo
    unfold Ins.val Ins.cells Opd.val at *
    dsimp only at *
    subst hlb
    subst e7
    exact core_7 w g ak' aa' ab' ac' an' cond ak ar ay an bk br bs bn uk ur us un vk vr vs vn lock dest cM cR cW cE cP cL cF
  · obtain ⟨e1, e2, e3, e4, e5, e6, e7⟩ := hk
    rw [e3] at cL
    rw [e4] at cF
    rw [e5] at cP
    rw [e6] at cE
    rw [e1] at cR
    rw [e2] at cW
    clear e1 e2 e3 e4 e5 e6
    generalize (readsF y).1 = ro at *
    generalize (writesF y).1 = wo at *
    obtain ⟨op, lock, cond, ⟨ak, ar, ay, an⟩, ⟨bk, br, bs, bn⟩, dest, lb⟩ := y
    obtain ⟨uk, ur, us, un⟩ := ro
    obtain ⟨vk, vr, vs, vn⟩ := wo
    unfold Ins.val Ins.cells Opd.val at *
    dsimp only at *
    subst hlb
    subst e7
    exact core_8 w g ak' aa' ab' ac' an' cond ak ar ay an bk br bs bn uk ur us un vk vr vs vn lock dest cM cR cW cE cP cL cF
  · obtain ⟨e1, e2, e3, e4, e5, e6, e7⟩ := hk
    rw [e3] at cL
    rw [e4] at cF
    rw [e5] at cP
    rw [e6] at cE
    rw [e1] at cR
    rw [e2] at cW
    clear e1 e2 e3 e4 e5 e6
    generalize (readsF y).1 = ro at *
    generalize (writesF y).1 = wo at *
    obtain ⟨op, lock, cond, ⟨ak, ar, ay, an⟩, ⟨bk, br, bs, bn⟩, dest, lb⟩ := y
    obtain ⟨uk, ur, us, un⟩ := ro
    obtain ⟨vk, vr, vs, vn⟩ := wo
    unfold Ins.val Ins.cells Opd.val at *
    dsimp only at *
    subst hlb
    subst e7
    exact core_9 w g ak' aa' ab' ac' an' cond ak ar ay an bk br bs bn uk ur us un vk vr vs vn lock dest cM cR cW cE cP cL cF

set_option maxRecDepth 100000 in
theorem lifted (os : Os) (started : os.Started) (H : Type) (enc : TypeId × Value → H) :
    ReturnsInHanded {} Tryd.checked os 6 .any (fun w args => (Rows.insReckonsSpec.pre enc Tryd.prog Tryd.f6 [] false w args ∧ laidMetH Tryd.prog theList w) ∧ sizedMet enc Tryd.prog Tryd.f6 (OpenSpec.ofChange Rows.insReckonsSpec) false w args)
      (Rows.insReckonsSpec.post enc Tryd.prog Tryd.f6 false true false false) := by
  refine returnsInHanded_of_change_and (C := Tryd.checked) (X := fun w _ => laidMetH Tryd.prog theList w) (fun _ _ _ hh h => h.of_heap hh) own started (by kernel_rfl) Tryd.func6
    (ChangeSpec.witness_shaped (enc := enc) (C := Tryd.checked) (os := os) (X := fun w _ => laidMetH Tryd.prog theList w) false (World.laidAll Tryd.prog os theList) #[.agg #[.int .i64 0, .int .i64 0, .int .i64 0, .int .i64 0, .int .i64 0]] 8 (World.laidAll_os _ _ _) (World.shaped_of_ZipB (by kernel_rfl) (by kernel_rfl)) (by kernel_rfl) (by kernel_rfl) (by kernel_rfl) (door_met os _)) ?_
  intro W base args ds gs before hval0 hW _ hsz0 hL _
  have hsz : (DataW.weightsEach Tryd.prog (Tryd.f6.params.toList ++ Rows.insReckonsSpec.plain.varTypes Tryd.prog) (ds ++ gs)).all (· ≤ reachBytes) = true := hsz0
  clear hsz0
  have hval : ∀ (j : Nat) t v, Tryd.f6.params[j]? = some t → args[j]? = some v → Value.okWide Tryd.prog W .any base t v := hval0
  have hW' := hW
  obtain ⟨p, q, hA0, hV, rfl, hfz, hnd⟩ := hW
  have hA : DataW.TrodAll enc Tryd.prog W 0 (fun _ => true) true Tryd.f6.params.toList args.toList ds p := hA0
  rw [Tryd.params6] at hA hval hsz
  obtain ⟨v0, vs0, d0, ds0, p0, q0, hargs, rfl, rfl, h0, r0⟩ := trodAll_cons hA
  obtain ⟨rfl, rfl, rfl⟩ := trodAll_nil r0
  obtain rfl : args = #[v0] := by cases args; simp_all
  obtain ⟨rfl, rfl⟩ := trodVars_none hV
  simp only [List.append_nil] at hW'
  have h0k := h0
  have hlt0 : ∀ x ∈ p0, x.block < W.heap.size := fun x hx => by simpa using hW'.lt x (by simp [hx])
  obtain ⟨x0, rfl, ok0⟩ := open_act (hval 0 30 v0 rfl rfl) h0
  clear hA0 hval0
  refine (walk W (Good.of_laid hL) x0 ok0).mono fun e W' ⟨he, hnx⟩ => ?_
  subst he
  refine ⟨_, rfl, _, _, _, [], (p0 ++ []), [], hW', ?_, ?_, rfl, Below.frame hnx _, fun h => by cases h⟩
  · exact (trodAll_cons_mk (shut_bool Tryd.underlying4 _) trodAll_mk0)
  · exact (trodAll_cons_mk (Below.trod laidOut (by kernel_rfl) (of_decide_eq_true (by kernel_rfl)) h0k hnx hlt0) trodAll_mk0)

theorem over : Rows.insReckonsRow.holds Tryd.pinned (OpenSpec.ofChange Rows.insReckonsSpec) :=
  OpenClaim.holds_of_wide 6 Tryd.f6 rfl rfl rfl rfl rfl rfl rfl ⟨rfl, rfl, rfl, rfl, rfl⟩ rfl rfl rfl rfl rfl (by kernel_rfl) Tryd.func6 (by kernel_rfl)
    (of_decide_eq_true (by kernel_rfl)) (by unfold Func.isWrapper; first | (rw [if_pos (by decide +kernel)]; kernel_rfl) | (rw [if_neg (by decide +kernel)]; exact ⟨rfl, rfl⟩))
    (fun os started H enc _ => lifted os started H enc)

end Go.Proofs.YtginggelbfbcfaaDoor.insReckons

namespace Go.Proofs.YtginggelbfbcfaaDoor
open Go
/-- The statement: the row, with its listed variables tied to the program's text. -/
theorem insReckons_holds : Rows.InsReckonsCardSaid :=
  Claim7.holds_tied_plain_at .later [] [.data, .data, .data, .data, .pinned] true Rows.insReckonsCard.stood.harness true
    insReckons.over (fun _ h => by cases h) (by kernel_rfl) (fun _ h => by cases h) insReckons_row_tie rfl ⟨rfl, rfl⟩ (by kernel_rfl) rfl
    (fun f fn hf hfn => by
      obtain rfl : f = 6 := Option.some.inj ((show Tryd.prog.funcNamed Rows.insReckonsRow.func = some 6 by kernel_rfl).symm.trans hf) |>.symm
      obtain rfl : fn = Tryd.f6 := (Option.some.inj (Tryd.func6.symm.trans hfn)).symm
      exact ⟨by kernel_rfl, fun j t ht => by
        rw [Tryd.params6] at ht
        have hm : t ∈ [30] := by simpa using Array.mem_of_getElem? ht
        have hall : ([30].all fun u => !Tryd.prog.wantsStandIn u) = true := by kernel_rfl
        exact (show Tryd.prog.wantsStandIn t = false by simpa using List.all_eq_true.1 hall t hm)⟩)
    (by kernel_rfl)
#print axioms insReckons_holds
end Go.Proofs.YtginggelbfbcfaaDoor
