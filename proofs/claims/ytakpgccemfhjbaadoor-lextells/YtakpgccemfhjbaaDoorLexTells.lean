/-
  Proved: for every text LexTells returns true: what its first 600 bytes are taken apart to, or where they are wrong, is what the document says; the argument reads as before. The listed package variables stand as the program's text lays them (tied). Conditions: none besides.
-/
import Derived.Test.YtakpgccemfhjbaaDoorRows
import Derived.Test.YtakpgccemfhjbaaDoorCards
import Derived.Test.YtakpgccemfhjbaaDoorTie
import Derived.Test.YtakpgccemfhjbaaDoorLaid
import Derived.Test.YtakpgccemfhjbaaDoorLexAlive
import Derived.Test.YtakpgccemfhjbaaDoorLexFacts
import Derived.Test.YtakpgccemfhjbaaDoorRefTokens
import Derived.RegionTactic
import Derived.Deep.CutRange
import Derived.WalkKit
import Derived.ProofKit
import Derived.OpenShut
import Derived.SizedLaws
import Derived.ShutString
import Derived.Stop.Joined
import Derived.SevenTiedAt
namespace Go.Proofs.YtakpgccemfhjbaaDoor.lexTells
open Go.ChangeShapes Go.WideShapes Go.ChangeAt Go.RowKit
open Go.ChangeMaps (open_string shut_string)
set_option linter.unusedVariables false

theorem own : ownKnob Tryd.prog.godebug = none := by kernel_rfl

set_option maxRecDepth 1000000 in
set_option maxHeartbeats 1000000 in
theorem walk (a0 : ByteArray) (z0 : a0.size ≤ 140737488355328) (w : World) (g : Good w) :
    Calls Tryd.prog 3 #[.string a0] w fun e w' => e = .returned (.bool true) ∧ Later w w' := by
  have go : ∀ {w'}, Later w w' → Good w' := fun h => g.later h
  have c8 := fun w' => short600_any a0 z0 w'
  have hS := short_size 600 a0
  generalize short 600 a0 = S at *
  have cT : ∀ w', Good w' → _ := fun w' (g' : Good w') => tokens_any S (by omega) w' g'
  have cR := fun w' => refTokens_any S (by omega) w'
  have hst := tokens_stand S
  have hlen := spots_len S
  have hlenS : (spots S).length ≤ 1000 := by rw [hlen]; have := bytes_le S (marks S.data.toList) [] (by simp); omega
  generalize tokens S = o at *
  cases o with
  | ok T =>
    have hT : T.length ≤ 1000001 := by
      have := (hst T rfl).len
      rw [← hlen] at this
      simp at this
      omega
    clear hst hlen
    go_enter Tryd.func3, Tryd.ntmps3
    go_upto_region 4 with (first
      | (go_at_call 8; refine (c8 _).mono ?_; rintro e w1 ⟨rfl, hl1⟩)
      | (go_at_call 9; apply Calls.mono; (focus (with_reducible (exact cT _ (go hl1)))); rintro e w2 ⟨⟨a, cap, rfl, hra⟩, hl2⟩)
      | (go_at_call 10; apply Calls.mono; (focus (with_reducible (exact cR _))); rintro e w4 ⟨⟨b, capb, rfl, hrb⟩, hl4⟩))
    have L5 := Later.alloc (Later.trans (Later.alloc (Later.trans hl1 hl2) (.cells #[.int .i64 0, .int .i64 0, .int .i64 0] 26)) hl4) (.cells #[.int .i64 0, .int .i64 0, .int .i64 0] 26)
    have lx := Later.alloc (Later.refl w4) (.cells #[.int .i64 0, .int .i64 0, .int .i64 0] 26)
    have hra5 := ((hra.later (Later.alloc (Later.refl w2) (.cells #[.int .i64 0, .int .i64 0, .int .i64 0] 26))).later hl4).later lx
    have hrb5 := hrb.later lx
    clear hra hrb
    have hbx := (lx.block _ (by have := hl4.size; simp at this; omega)).trans ((hl4.block _ (by simp)).trans (at_new w2 _))
    obtain ⟨c0, c1, c2, -, -, -⟩ := box3_facts hbx
    obtain ⟨f0, f1, f2, -, -, -⟩ := box3_facts (at_new w4 (.cells #[.int .i64 0, .int .i64 0, .int .i64 0] 26))
    clear hbx lx
    generalize w4.alloc (.cells #[.int .i64 0, .int .i64 0, .int .i64 0] 26) = W5 at *
    go_wp2_with (first
      | (go_at_call 11; refine (same_any _ T _ _ _ _ hT hra5 hrb5).mono ?_; rintro e w6 ⟨rfl, hl6⟩; have d0 := cell_later c0 hl6; have d1 := cell_later c1 hl6; have d2 := cell_later c2 hl6; have e0 := cell_later f0 hl6; have e1 := cell_later f1 hl6; have e2 := cell_later f2 hl6; have L6 := Later.trans L5 hl6)
      | (go_at_call 12; refine (alive_any _ (go L6)).mono ?_; rintro e w8 ⟨rfl, hl8⟩))
    go_ret
    exact ⟨by simp, Later.trans L6 hl8⟩
  | error p =>
    obtain ⟨k, l, c⟩ := p
    have cN : ∀ w', Calls Tryd.prog 11 #[.slice none 0 0, .slice none 0 0] w' fun e w'' => e = .returned (.bool true) ∧ Later w' w'' := fun w' => same_any w' [] none none 0 0 (by simp) (CRow.nil _ _) (CRow.nil _ _)
    clear hst hlen
    go_enter Tryd.func3, Tryd.ntmps3
    go_upto_region 4 with (first
      | (go_at_call 8; refine (c8 _).mono ?_; rintro e w1 ⟨rfl, hl1⟩)
      | (go_at_call 9; apply Calls.mono; (focus (with_reducible (exact cT _ (go hl1)))); rintro e w2 ⟨hres, hl2⟩; obtain rfl : e = _ := hres)
      | (go_at_call 10; apply Calls.mono; (focus (with_reducible (exact cR _))); rintro e w4 ⟨hres, hl4⟩; obtain rfl : e = _ := hres))
    have L5 := Later.alloc (Later.trans (Later.alloc (Later.trans hl1 hl2) (.cells #[.int .i64 (k : Nat), .int .i64 (l : Nat), .int .i64 (c : Nat)] 26)) hl4) (.cells #[.int .i64 (k : Nat), .int .i64 (l : Nat), .int .i64 (c : Nat)] 26)
    have lx := Later.alloc (Later.refl w4) (.cells #[.int .i64 (k : Nat), .int .i64 (l : Nat), .int .i64 (c : Nat)] 26)
    have hbx := (lx.block _ (by have := hl4.size; simp at this; omega)).trans ((hl4.block _ (by simp)).trans (at_new w2 _))
    obtain ⟨c0, c1, c2, -, -, -⟩ := box3_facts hbx
    obtain ⟨f0, f1, f2, -, -, -⟩ := box3_facts (at_new w4 (.cells #[.int .i64 (k : Nat), .int .i64 (l : Nat), .int .i64 (c : Nat)] 26))
    clear hbx lx
    generalize w4.alloc (.cells #[.int .i64 (k : Nat), .int .i64 (l : Nat), .int .i64 (c : Nat)] 26) = W5 at *
    go_wp2_with (first
      | (go_at_call 11; apply Calls.mono; (focus (with_reducible (exact cN _))); rintro e w6 ⟨rfl, hl6⟩; have d0 := cell_later c0 hl6; have d1 := cell_later c1 hl6; have d2 := cell_later c2 hl6; have e0 := cell_later f0 hl6; have e1 := cell_later f1 hl6; have e2 := cell_later f2 hl6; have L6 := Later.trans L5 hl6)
      | (go_at_call 12; refine (alive_any _ (go L6)).mono ?_; rintro e w8 ⟨rfl, hl8⟩))
    go_ret
    exact ⟨by simp, Later.trans L6 hl8⟩

set_option maxRecDepth 100000 in
theorem lifted (os : Os) (started : os.Started) (H : Type) (enc : TypeId × Value → H) :
    ReturnsInHanded {} Tryd.checked os 3 .any (fun w args => (Rows.lexTellsSpec.pre enc Tryd.prog Tryd.f3 [] false w args ∧ laidMetH Tryd.prog theList w) ∧ sizedMet enc Tryd.prog Tryd.f3 (OpenSpec.ofChange Rows.lexTellsSpec) false w args)
      (Rows.lexTellsSpec.post enc Tryd.prog Tryd.f3 false true false false) := by
  refine returnsInHanded_of_change_and (C := Tryd.checked) (X := fun w _ => laidMetH Tryd.prog theList w) (fun _ _ _ hh h => h.of_heap hh) own started (by kernel_rfl) Tryd.func3
    (ChangeSpec.witness_shaped (enc := enc) (C := Tryd.checked) (os := os) (X := fun w _ => laidMetH Tryd.prog theList w) false (World.laidAll Tryd.prog os theList) #[.string ⟨#[]⟩] 8 (World.laidAll_os _ _ _) (World.shaped_of_ZipB (by kernel_rfl) (by kernel_rfl)) (by kernel_rfl) (by kernel_rfl) (by kernel_rfl) (door_met os _)) ?_
  intro W base args ds gs before hval0 hW _ hsz0 hL _
  have hsz : (DataW.weightsEach Tryd.prog (Tryd.f3.params.toList ++ Rows.lexTellsSpec.plain.varTypes Tryd.prog) (ds ++ gs)).all (· ≤ reachBytes) = true := hsz0
  clear hsz0
  have hval : ∀ (j : Nat) t v, Tryd.f3.params[j]? = some t → args[j]? = some v → Value.okWide Tryd.prog W .any base t v := hval0
  have hW' := hW
  obtain ⟨p, q, hA0, hV, rfl, hfz, hnd⟩ := hW
  have hA : DataW.TrodAll enc Tryd.prog W 0 (fun _ => true) true Tryd.f3.params.toList args.toList ds p := hA0
  rw [Tryd.params3] at hA hval hsz
  obtain ⟨v0, vs0, d0, ds0, p0, q0, hargs, rfl, rfl, h0, r0⟩ := trodAll_cons hA
  obtain ⟨rfl, rfl, rfl⟩ := trodAll_nil r0
  obtain rfl : args = #[v0] := by cases args; simp_all
  obtain ⟨rfl, rfl⟩ := trodVars_none hV
  obtain ⟨a0, rfl, rfl, rfl, w0⟩ := open_string Tryd.underlying9 (hval 0 9 v0 rfl rfl) h0
  have z0 : a0.size ≤ 140737488355328 := by
    have h1 := sized_string hsz (j := 0) (t := 9) rfl rfl
    have h2 := reachBytes_lt
    have e1 : a0.size = a0.data.size := rfl
    have e2 : a0.data.toList.length = a0.data.size := Array.length_toList
    have e3 : (2 : Nat) ^ 47 = 140737488355328 := by decide
    omega
  clear hA0 hval0
  simp only [List.append_nil] at hW'
  refine (walk a0 z0 W (Good.of_laid hL)).mono fun e W' ⟨he, hnx⟩ => ?_
  subst he
  refine ⟨_, rfl, _, _, _, [], [], [], hW', ?_, ?_, rfl, Below.frame hnx _, fun h => by cases h⟩
  · exact (trodAll_cons_mk (shut_bool Tryd.underlying4 _) trodAll_mk0)
  · exact (trodAll_cons_mk (shut_string Tryd.underlying9 w0) trodAll_mk0)

theorem over : Rows.lexTellsRow.holds Tryd.pinned (OpenSpec.ofChange Rows.lexTellsSpec) :=
  OpenClaim.holds_of_wide 3 Tryd.f3 rfl rfl rfl rfl rfl rfl rfl ⟨rfl, rfl, rfl, rfl, rfl⟩ rfl rfl rfl rfl rfl (by kernel_rfl) Tryd.func3 (by kernel_rfl)
    (of_decide_eq_true (by kernel_rfl)) (by unfold Func.isWrapper; first | (rw [if_pos (by decide +kernel)]; kernel_rfl) | (rw [if_neg (by decide +kernel)]; exact ⟨rfl, rfl⟩))
    (fun os started H enc _ => lifted os started H enc)

end Go.Proofs.YtakpgccemfhjbaaDoor.lexTells

namespace Go.Proofs.YtakpgccemfhjbaaDoor
open Go
/-- The statement: the row, with its listed variables tied to the program's text. -/
theorem lexTells_holds : Rows.LexTellsCardSaid :=
  Claim7.holds_tied_plain_at .later [] [.data, .data, .data, .data, .sentinel, .sentinel, .pinned] true Rows.lexTellsCard.stood.harness true
    lexTells.over (fun _ h => by cases h) (by kernel_rfl) (fun _ h => by cases h) lexTells_row_tie rfl ⟨rfl, rfl⟩ (by kernel_rfl) rfl
    (fun f fn hf hfn => by
      obtain rfl : f = 3 := Option.some.inj ((show Tryd.prog.funcNamed Rows.lexTellsRow.func = some 3 by kernel_rfl).symm.trans hf) |>.symm
      obtain rfl : fn = Tryd.f3 := (Option.some.inj (Tryd.func3.symm.trans hfn)).symm
      exact ⟨by kernel_rfl, fun j t ht => by
        rw [Tryd.params3] at ht
        have hm : t ∈ [9] := by simpa using Array.mem_of_getElem? ht
        have hall : ([9].all fun u => !Tryd.prog.wantsStandIn u) = true := by kernel_rfl
        exact (show Tryd.prog.wantsStandIn t = false by simpa using List.all_eq_true.1 hall t hm)⟩)
    (by kernel_rfl)
#print axioms lexTells_holds
end Go.Proofs.YtakpgccemfhjbaaDoor
