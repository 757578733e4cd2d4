/-
  Proved: for all numbers NamesLong returns true: a row of one letter is a name, if it has one to so many, counted in runes; the arguments read as before. The listed package variables stand as the program's text lays them (tied). Conditions: none besides.
-/
import Derived.Test.YtcfflgdklalcpaaDoorRows
import Derived.Test.YtcfflgdklalcpaaDoorCards
import Derived.Test.YtcfflgdklalcpaaDoorTie
import Derived.Test.YtcfflgdklalcpaaDoorLaid
import Derived.Test.YtcfflgdklalcpaaDoorAlive
import Derived.Test.YtcfflgdklalcpaaDoorIdx
import Derived.WalkKit
import Derived.ProofKit
import Derived.OpenShut
import Derived.SizedLaws
import Derived.ShutString
import Derived.Stop.Joined
import Derived.SevenTiedAt
namespace Go.Proofs.YtcfflgdklalcpaaDoor.namesLong
open Go.ChangeShapes Go.WideShapes Go.ChangeAt Go.RowKit
open Go.ChangeMaps (open_string shut_string)
set_option linter.unusedVariables false

theorem own : ownKnob Tryd.prog.godebug = none := by kernel_rfl

/-- The letters. -/
def oneT : List ByteArray := [⟨#[113]⟩, ⟨#[90]⟩, ⟨#[195, 169]⟩, ⟨#[240, 159, 152, 128]⟩]

/-- A row of one text. -/
def rep (o : ByteArray) : Nat → ByteArray
  | 0 => ⟨#[]⟩
  | n + 1 => rep o n ++ o

theorem rep_size (o : ByteArray) : ∀ n, (rep o n).size = n * o.size
  | 0 => by rw [Nat.zero_mul]; rfl
  | n + 1 => by rw [rep, ByteArray.size_append, rep_size o n, Nat.succ_mul]

theorem one_ok : ∀ k : Fin 4, (textAt oneT (k.val : Int)).size ≤ 4 ∧ oneT[k.val]? = some (textAt oneT (k.val : Int)) := by decide +kernel

theorem long_ok : ∀ (k : Fin 4) (n : Fin 24), rightF (rep (textAt oneT (k.val : Int)) n.val) = (decide ((1 : Int) ≤ (n.val : Int)) && decide ((n.val : Int) ≤ 16)) := by decide +kernel

theorem to_fin (a : Int) (m : Nat) (hm : 0 < m) : ∃ n : Fin m, pick a (m : Int) = (n.val : Int) := by
  have b1 := Int.emod_nonneg a (show (m : Int) ≠ 0 by omega)
  have b2 := Int.emod_lt_of_pos a (show (0 : Int) < (m : Int) by omega)
  exact ⟨⟨(pick a m).toNat, by unfold pick; omega⟩, by unfold pick; simp; omega⟩

set_option maxRecDepth 1000000 in
set_option maxHeartbeats 1000000 in
theorem walk (a0 : Int) (w0 : (Lit.int .i64 a0).wf = true) (a1 : Int) (w1 : (Lit.int .i64 a1).wf = true) (w : World) (g : Good w) :
    Calls Tryd.prog 7 #[.int .i64 a0, .int .i64 a1] w fun e w' => e = .returned (.bool true) ∧ Later w w' := by
  have go : ∀ {w'}, Later w w' → Good w' := fun h => g.later h
  have d0 := bounds_i64 w0
  have d1 := bounds_i64 w1
  have p1 := fun w' => pick_any a0 24 (by omega) (by omega) w'
  have p2 := fun w' => pick_any a1 4 (by omega) (by omega) w'
  obtain ⟨n, hn⟩ := to_fin a0 24 (by omega)
  obtain ⟨k, hk⟩ := to_fin a1 4 (by omega)
  rw [show pick a0 24 = pick a0 ((24 : Nat) : Int) from rfl, hn] at p1
  rw [show pick a1 4 = pick a1 ((4 : Nat) : Int) from rfl, hk] at p2
  have hL := long_ok k n
  obtain ⟨m4, m5⟩ := one_ok k
  have hk4 := k.isLt
  have hn24 := n.isLt
  generalize k.val = k at *
  generalize n.val = n at *
  generalize textAt oneT (k : Int) = M at *
  have c15 := fun w' (g' : Good w') => right_any (rep M n) (by rw [rep_size]; exact Nat.le_trans (Nat.mul_le_mul (show n ≤ 24 by omega) m4) (by omega)) w' g'
  rw [hL] at c15
  have HM : Hid (oneT[k]? = some M) := m5
  clear hn hk hL m5 w0 w1 d0 d1
  have hk' : (k : Int) < 4 := by omega
  go_enter Tryd.func7, Tryd.ntmps7
  go_wp2_with (first
    | (go_at_call 22; apply Calls.mono; (focus (with_reducible (exact p1 _))); rintro e w2 ⟨rfl, hl2⟩)
    | (go_at_call 22; apply Calls.mono; (focus (with_reducible (exact p2 _))); rintro e w4 ⟨rfl, hl4⟩; have hc := Tab.later (tab_new _ oneT _) hl4 k M HM.out; have L4 := Later.trans (Later.alloc hl2 _) hl4))
  go_loopw [6, 7] (fun vs vi wr => ∃ (i : Nat) (s : ByteArray), vs = .string s ∧ vi = .int .i64 (i : Nat) ∧ i ≤ n ∧ Later w wr ∧ s.size ≤ i * 4 ∧ Hid (s = rep M i)) (fun _ vi _ => n - (intOf vi).toNat)
  case atStart => exact ⟨0, _, rfl, rfl, by omega, L4, Nat.le_refl _, rfl⟩
  case round =>
    clear hc L4 hl2 hl4 p1 p2
    obtain ⟨i, s, rfl, rfl, hi, hlw, hsz, HS⟩ := hrel
    by_cases hlt : i < n
    · have hlt' : (i : Int) < (n : Int) := by omega
      clear c15
      go_wp2
      go_roundw
      case rel => exact ⟨i + 1, s ++ M, rfl, by go_num, by omega, hlw, by rw [ByteArray.size_append]; omega, (by show _ = _; rw [HS.out]; rfl)⟩
      case measure => simp [intOf]; omega
    · obtain rfl : i = n := by omega
      have hs : s = rep M i := HS.out
      rw [← hs] at c15
      clear HS hs
      by_cases h1 : (1 : Int) ≤ (i : Int)
      · rw [decide_eq_true h1, Bool.true_and] at c15
        go_wp2_with (first
          | (go_at_call 15; refine (c15 _ (go hlw)).mono ?_; rintro e w5 ⟨rfl, hl5⟩; have L5 := Later.trans hlw hl5)
          | (go_at_call 17; refine (alive_any _ (go L5)).mono ?_; rintro e w6 ⟨rfl, hl6⟩; have L6 := Later.trans L5 hl6))
        go_ret
        exact ⟨rfl, L6⟩
      · rw [decide_eq_false h1, Bool.false_and] at c15
        go_wp2_with (first
          | (go_at_call 15; refine (c15 _ (go hlw)).mono ?_; rintro e w5 ⟨rfl, hl5⟩; have L5 := Later.trans hlw hl5)
          | (go_at_call 17; refine (alive_any _ (go L5)).mono ?_; rintro e w6 ⟨rfl, hl6⟩; have L6 := Later.trans L5 hl6))
        go_ret
        exact ⟨rfl, L6⟩

set_option maxRecDepth 100000 in
theorem lifted (os : Os) (started : os.Started) (H : Type) (enc : TypeId × Value → H) :
    ReturnsInHanded {} Tryd.checked os 7 .any (fun w args => (Rows.namesLongSpec.pre enc Tryd.prog Tryd.f7 [] false w args ∧ laidMetH Tryd.prog theList w) ∧ sizedMet enc Tryd.prog Tryd.f7 (OpenSpec.ofChange Rows.namesLongSpec) false w args)
      (Rows.namesLongSpec.post enc Tryd.prog Tryd.f7 false true false false) := by
  refine returnsInHanded_of_change_and (C := Tryd.checked) (X := fun w _ => laidMetH Tryd.prog theList w) (fun _ _ _ hh h => h.of_heap hh) own started (by kernel_rfl) Tryd.func7
    (ChangeSpec.witness_shaped (enc := enc) (C := Tryd.checked) (os := os) (X := fun w _ => laidMetH Tryd.prog theList w) false (World.laidAll Tryd.prog os theList) #[.int .i64 0, .int .i64 0] 8 (World.laidAll_os _ _ _) (World.shaped_of_ZipB (by kernel_rfl) (by kernel_rfl)) (by kernel_rfl) (by kernel_rfl) (by kernel_rfl) (door_met os _)) ?_
  intro W base args ds gs before hval0 hW _ hsz0 hL _
  have hsz : (DataW.weightsEach Tryd.prog (Tryd.f7.params.toList ++ Rows.namesLongSpec.plain.varTypes Tryd.prog) (ds ++ gs)).all (· ≤ reachBytes) = true := hsz0
  clear hsz0
  have hval : ∀ (j : Nat) t v, Tryd.f7.params[j]? = some t → args[j]? = some v → Value.okWide Tryd.prog W .any base t v := hval0
  have hW' := hW
  obtain ⟨p, q, hA0, hV, rfl, hfz, hnd⟩ := hW
  have hA : DataW.TrodAll enc Tryd.prog W 0 (fun _ => true) true Tryd.f7.params.toList args.toList ds p := hA0
  rw [Tryd.params7] at hA hval hsz
  obtain ⟨v0, vs0, d0, ds0, p0, q0, hargs, rfl, rfl, h0, r0⟩ := trodAll_cons hA
  obtain ⟨v1, vs1, d1, ds1, p1, q1, rfl, rfl, rfl, h1, r1⟩ := trodAll_cons r0
  obtain ⟨rfl, rfl, rfl⟩ := trodAll_nil r1
  obtain rfl : args = #[v0, v1] := by cases args; simp_all
  obtain ⟨rfl, rfl⟩ := trodVars_none hV
  obtain ⟨a0, rfl, rfl, rfl, w0⟩ := open_int Tryd.underlying3 (hval 0 3 v0 rfl rfl) h0
  obtain ⟨a1, rfl, rfl, rfl, w1⟩ := open_int Tryd.underlying3 (hval 1 3 v1 rfl rfl) h1
  clear hA0 hval0
  simp only [List.append_nil] at hW'
  refine (walk a0 w0 a1 w1 W (Good.of_laid hL)).mono fun e W' ⟨he, hnx⟩ => ?_
  subst he
  refine ⟨_, rfl, _, _, _, [], [], [], hW', ?_, ?_, rfl, Below.frame hnx _, fun h => by cases h⟩
  · exact (trodAll_cons_mk (shut_bool Tryd.underlying4 _) trodAll_mk0)
  · exact (trodAll_cons_mk (shut_int Tryd.underlying3 w0) (trodAll_cons_mk (shut_int Tryd.underlying3 w1) trodAll_mk0))

theorem over : Rows.namesLongRow.holds Tryd.pinned (OpenSpec.ofChange Rows.namesLongSpec) :=
  OpenClaim.holds_of_wide 7 Tryd.f7 rfl rfl rfl rfl rfl rfl rfl ⟨rfl, rfl, rfl, rfl, rfl⟩ rfl rfl rfl rfl rfl (by kernel_rfl) Tryd.func7 (by kernel_rfl)
    (of_decide_eq_true (by kernel_rfl)) (by unfold Func.isWrapper; first | (rw [if_pos (by decide +kernel)]; kernel_rfl) | (rw [if_neg (by decide +kernel)]; exact ⟨rfl, rfl⟩))
    (fun os started H enc _ => lifted os started H enc)

end Go.Proofs.YtcfflgdklalcpaaDoor.namesLong

namespace Go.Proofs.YtcfflgdklalcpaaDoor
open Go
/-- The statement: the row, with its listed variables tied to the program's text. -/
theorem namesLong_holds : Rows.NamesLongCardSaid :=
  Claim7.holds_tied_plain_at .later [] [.data, .data, .data, .data, .pinned] true Rows.namesLongCard.stood.harness false
    namesLong.over (fun _ h => by cases h) (by kernel_rfl) (fun _ h => by cases h) namesLong_row_tie rfl ⟨rfl, rfl⟩ (by kernel_rfl) rfl
    (fun f fn hf hfn => by
      obtain rfl : f = 7 := Option.some.inj ((show Tryd.prog.funcNamed Rows.namesLongRow.func = some 7 by kernel_rfl).symm.trans hf) |>.symm
      obtain rfl : fn = Tryd.f7 := (Option.some.inj (Tryd.func7.symm.trans hfn)).symm
      exact ⟨by kernel_rfl, fun j t ht => by
        rw [Tryd.params7] at ht
        have hm : t ∈ [3, 3] := by simpa using Array.mem_of_getElem? ht
        have hall : ([3, 3].all fun u => !Tryd.prog.wantsStandIn u) = true := by kernel_rfl
        exact (show Tryd.prog.wantsStandIn t = false by simpa using List.all_eq_true.1 hall t hm)⟩)
    (by kernel_rfl)
#print axioms namesLong_holds
end Go.Proofs.YtcfflgdklalcpaaDoor
