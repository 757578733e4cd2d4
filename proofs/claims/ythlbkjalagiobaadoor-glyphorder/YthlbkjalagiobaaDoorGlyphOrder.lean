/-
  Proved: for every text GlyphOrder returns true: each rune stands behind the one ahead of it, in its line one column on or at the next line's first, and the End is behind the last one; the argument reads as before. The listed package variables stand as the program's text lays them (tied). Conditions: none besides.
-/
import Derived.Test.YthlbkjalagiobaaDoorRows
import Derived.Test.YthlbkjalagiobaaDoorCards
import Derived.Test.YthlbkjalagiobaaDoorTie
import Derived.Test.YthlbkjalagiobaaDoorLaid
import Derived.Test.YthlbkjalagiobaaDoorAlive
import Derived.WalkKit
import Derived.ProofKit
import Derived.OpenShut
import Derived.SizedLaws
import Derived.ShutString
import Derived.Stop.Joined
import Derived.SevenTiedAt
namespace Go.Proofs.YthlbkjalagiobaaDoor.glyphOrder
open Go.ChangeShapes Go.WideShapes Go.ChangeAt Go.RowKit
open Go.ChangeMaps (open_string shut_string)
set_option linter.unusedVariables false

theorem own : ownKnob Tryd.prog.godebug = none := by kernel_rfl

set_option maxRecDepth 1000000 in
set_option maxHeartbeats 4000000 in
theorem walk (a0 : ByteArray) (z0 : a0.size ≤ 140737488355328) (w : World) (g : Good w) :
    Calls Tryd.prog 7 #[.string a0] w fun e w' => e = .returned (.bool true) ∧ Later w w' := by
  have go : ∀ {w'}, Later w w' → Good w' := fun h => g.later h
  have l0 : Later w w := Later.refl w
  have c8 := fun w' => short600_any a0 z0 w'
  have hS := short_size 600 a0
  generalize short 600 a0 = S at *
  have hn := (place_all S).2.2
  go_enter Tryd.func7, Tryd.ntmps7
  go_wp2_with (first | (go_at_call 8; refine (c8 _).mono ?_; rintro e w1 ⟨rfl, hl1⟩) | (go_at_call 12; refine (spots_any S (by omega) _ (go hl1)).mono ?_; rintro e w2 ⟨⟨a, cap, rfl, hrow⟩, hl2⟩))
  have hw2 : Later w w2 := Later.trans hl1 hl2
  go_loopw [4, 5, 6] (fun vl vc vi wr => ∃ (k ln cl : Nat), wr = w2 ∧ vi = .int .i64 (k : Nat) ∧ vl = .int .i64 (ln : Nat) ∧ vc = .int .i64 (cl : Nat) ∧ k ≤ (spots S).length ∧ Hid ((placeOf ((spots S).take k)).2 = (ln, cl))) (fun _ _ vi _ => (spots S).length - (intOf vi).toNat)
  case atStart => exact ⟨0, 1, 1, rfl, rfl, rfl, rfl, by omega, rfl⟩
  case round =>
    obtain ⟨k, ln, cl, rfl, rfl, rfl, rfl, hk, HP⟩ := hrel
    have hbd := place_bound S k
    rw [HP.out] at hbd
    replace hbd : ln ≤ 601 ∧ cl ≤ 601 := by have := hbd.2; exact ⟨by simp only at this; omega, by simp only at this; omega⟩
    by_cases hlt : k < (spots S).length
    · obtain ⟨x, hx⟩ : ∃ x, (spots S)[k]? = some x := ⟨_, List.getElem?_eq_getElem hlt⟩
      obtain ⟨gg, rfl, p0, -, -, p3, p4, -⟩ := hrow.get hx
      obtain ⟨-, e2, e3, -, -⟩ := spots_at S k x hx
      have HN : Hid ((placeOf ((spots S).take (k + 1))).2 = (nl ln x.rune, nc cl x.rune)) := by
        show _ = _
        rw [place_succ S k x hx]
        show (nl _ _, nc _ _) = _
        rw [HP.out]
      rw [HP.out] at e2 e3
      have hle := spot_le S k x hx
      rw [e2] at p3
      rw [e3] at p4
      generalize x.rune = r at *
      clear e2 e3 hx
      by_cases hr : r = 10
      · subst hr
        go_wp2
        go_roundw
        case rel => exact ⟨k + 1, ln + 1, 1, trivial, by go_num, by go_num, by go_num, by omega, HN⟩
        case measure => simp [intOf]; omega
      · have hr' : ((r : Int) == 10) = false := by simp; omega
        go_wp2
        go_roundw
        case rel => exact ⟨k + 1, ln, cl + 1, trivial, by go_num, by go_num, by go_num, by omega, (by show _ = _; rw [HN.out]; simp [nl, nc, hr])⟩
        case measure => simp [intOf]; omega
    · have hkl : k = (spots S).length := by omega
      have hE : ∀ w', Calls Tryd.prog 9 #[.string S] w' fun e w'' => e = .returned (.tuple #[.int .i64 (ln : Nat), .int .i64 (cl : Nat)]) ∧ Later w' w'' := by
        intro w'
        have h1 := end_any S (by omega) w'
        have h2 := HP.out
        rw [hkl, List.take_length] at h2
        rw [h2] at h1
        exact h1
      clear hkl
      go_wp2_with (first | (go_at_call 9; refine (hE _).mono ?_; rintro e w3 ⟨rfl, hl3⟩; have L3 := Later.trans hw2 hl3) | (go_at_call 14; refine (alive_any _ (go ‹_›)).mono ?_; rintro e w4 ⟨rfl, hl4⟩; have L4 := Later.trans L3 hl4))
      go_ret
      exact ⟨rfl, L4⟩

set_option maxRecDepth 100000 in
theorem lifted (os : Os) (started : os.Started) (H : Type) (enc : TypeId × Value → H) :
    ReturnsInHanded {} Tryd.checked os 7 .any (fun w args => (Rows.glyphOrderSpec.pre enc Tryd.prog Tryd.f7 [] false w args ∧ laidMetH Tryd.prog theList w) ∧ sizedMet enc Tryd.prog Tryd.f7 (OpenSpec.ofChange Rows.glyphOrderSpec) false w args)
      (Rows.glyphOrderSpec.post enc Tryd.prog Tryd.f7 false true false false) := by
  refine returnsInHanded_of_change_and (C := Tryd.checked) (X := fun w _ => laidMetH Tryd.prog theList w) (fun _ _ _ hh h => h.of_heap hh) own started (by kernel_rfl) Tryd.func7
    (ChangeSpec.witness_shaped (enc := enc) (C := Tryd.checked) (os := os) (X := fun w _ => laidMetH Tryd.prog theList w) false (World.laidAll Tryd.prog os theList) #[.string ⟨#[]⟩] 8 (World.laidAll_os _ _ _) (World.shaped_of_ZipB (by kernel_rfl) (by kernel_rfl)) (by kernel_rfl) (by kernel_rfl) (by kernel_rfl) (door_met os _)) ?_
  intro W base args ds gs before hval0 hW _ hsz0 hL _
  have hsz : (DataW.weightsEach Tryd.prog (Tryd.f7.params.toList ++ Rows.glyphOrderSpec.plain.varTypes Tryd.prog) (ds ++ gs)).all (· ≤ reachBytes) = true := hsz0
  clear hsz0
  have hval : ∀ (j : Nat) t v, Tryd.f7.params[j]? = some t → args[j]? = some v → Value.okWide Tryd.prog W .any base t v := hval0
  have hW' := hW
  obtain ⟨p, q, hA0, hV, rfl, hfz, hnd⟩ := hW
  have hA : DataW.TrodAll enc Tryd.prog W 0 (fun _ => true) true Tryd.f7.params.toList args.toList ds p := hA0
  rw [Tryd.params7] at hA hval hsz
  obtain ⟨v0, vs0, d0, ds0, p0, q0, hargs, rfl, rfl, h0, r0⟩ := trodAll_cons hA
  obtain ⟨rfl, rfl, rfl⟩ := trodAll_nil r0
  obtain rfl : args = #[v0] := by cases args; simp_all
  obtain ⟨rfl, rfl⟩ := trodVars_none hV
  obtain ⟨a0, rfl, rfl, rfl, w0⟩ := open_string Tryd.underlying9 (hval 0 9 v0 rfl rfl) h0
  have z0 : a0.size ≤ 140737488355328 := by
    have h1 := sized_string hsz (j := 0) (t := 9) rfl rfl
    have h2 := reachBytes_lt
    have e1 : a0.size = a0.data.size := rfl
    have e2 : a0.data.toList.length = a0.data.size := Array.length_toList
    have e3 : (2 : Nat) ^ 47 = 140737488355328 := by decide
    omega
  clear hA0 hval0
  simp only [List.append_nil] at hW'
  refine (walk a0 z0 W (Good.of_laid hL)).mono fun e W' ⟨he, hnx⟩ => ?_
  subst he
  refine ⟨_, rfl, _, _, _, [], [], [], hW', ?_, ?_, rfl, Below.frame hnx _, fun h => by cases h⟩
  · exact (trodAll_cons_mk (shut_bool Tryd.underlying4 _) trodAll_mk0)
  · exact (trodAll_cons_mk (shut_string Tryd.underlying9 w0) trodAll_mk0)

theorem over : Rows.glyphOrderRow.holds Tryd.pinned (OpenSpec.ofChange Rows.glyphOrderSpec) :=
  OpenClaim.holds_of_wide 7 Tryd.f7 rfl rfl rfl rfl rfl rfl rfl ⟨rfl, rfl, rfl, rfl, rfl⟩ rfl rfl rfl rfl rfl (by kernel_rfl) Tryd.func7 (by kernel_rfl)
    (of_decide_eq_true (by kernel_rfl)) (by unfold Func.isWrapper; first | (rw [if_pos (by decide +kernel)]; kernel_rfl) | (rw [if_neg (by decide +kernel)]; exact ⟨rfl, rfl⟩))
    (fun os started H enc _ => lifted os started H enc)

end Go.Proofs.YthlbkjalagiobaaDoor.glyphOrder

namespace Go.Proofs.YthlbkjalagiobaaDoor
open Go
/-- The statement: the row, with its listed variables tied to the program's text. -/
theorem glyphOrder_holds : Rows.GlyphOrderCardSaid :=
  Claim7.holds_tied_plain_at .later [] [.data, .pinned] true Rows.glyphOrderCard.stood.harness false
    glyphOrder.over (fun _ h => by cases h) (by kernel_rfl) (fun _ h => by cases h) glyphOrder_row_tie rfl ⟨rfl, rfl⟩ (by kernel_rfl) rfl
    (fun f fn hf hfn => by
      obtain rfl : f = 7 := Option.some.inj ((show Tryd.prog.funcNamed Rows.glyphOrderRow.func = some 7 by kernel_rfl).symm.trans hf) |>.symm
      obtain rfl : fn = Tryd.f7 := (Option.some.inj (Tryd.func7.symm.trans hfn)).symm
      exact ⟨by kernel_rfl, fun j t ht => by
        rw [Tryd.params7] at ht
        have hm : t ∈ [9] := by simpa using Array.mem_of_getElem? ht
        have hall : ([9].all fun u => !Tryd.prog.wantsStandIn u) = true := by kernel_rfl
        exact (show Tryd.prog.wantsStandIn t = false by simpa using List.all_eq_true.1 hall t hm)⟩)
    (by kernel_rfl)
#print axioms glyphOrder_holds
end Go.Proofs.YthlbkjalagiobaaDoor
