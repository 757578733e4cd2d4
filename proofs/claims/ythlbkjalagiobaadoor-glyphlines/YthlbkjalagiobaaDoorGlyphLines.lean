/-
  Proved: for every two texts GlyphLines returns true: behind a text and a line's end another text has the places that it has alone, so many lines, and bytes, on; both arguments read as before. The listed package variables stand as the program's text lays them (tied). Conditions: none besides.
-/
import Derived.Test.YthlbkjalagiobaaDoorRows
import Derived.Test.YthlbkjalagiobaaDoorCards
import Derived.Test.YthlbkjalagiobaaDoorTie
import Derived.Test.YthlbkjalagiobaaDoorLaid
import Derived.Test.YthlbkjalagiobaaDoorAlive
import Derived.Test.YthlbkjalagiobaaDoorLines
import Derived.WalkKit
import Derived.ProofKit
import Derived.OpenShut
import Derived.SizedLaws
import Derived.ShutString
import Derived.Stop.Joined
import Derived.SevenTiedAt
namespace Go.Proofs.YthlbkjalagiobaaDoor.glyphLines
open Go.ChangeShapes Go.WideShapes Go.ChangeAt Go.RowKit
open Go.ChangeMaps (open_string shut_string)
set_option linter.unusedVariables false

theorem own : ownKnob Tryd.prog.godebug = none := by kernel_rfl

theorem six_new (w : World) (a b c d e f : Value) : (w.alloc (.cells #[a, b, c, d, e, f] 34)).cell? ⟨w.heap.size, 0, none⟩ = some a ∧ (w.alloc (.cells #[a, b, c, d, e, f] 34)).cell? ⟨w.heap.size, 1, none⟩ = some b ∧ (w.alloc (.cells #[a, b, c, d, e, f] 34)).cell? ⟨w.heap.size, 2, none⟩ = some c ∧ (w.alloc (.cells #[a, b, c, d, e, f] 34)).cell? ⟨w.heap.size, 3, none⟩ = some d ∧ (w.alloc (.cells #[a, b, c, d, e, f] 34)).cell? ⟨w.heap.size, 4, none⟩ = some e ∧ (w.alloc (.cells #[a, b, c, d, e, f] 34)).cell? ⟨w.heap.size, 5, none⟩ = some f := by
  refine ⟨?_, ?_, ?_, ?_, ?_, ?_⟩ <;> simp

set_option maxRecDepth 1000000 in
set_option maxHeartbeats 800000 in
theorem core (a0 a1 S T : ByteArray) (hS : S.size ≤ 300) (hT : T.size ≤ 300) (A B C : List Sp) (lin co : Nat) (hA : A.length ≤ 300) (hB : B.length ≤ 300) (hlin : lin ≤ 301)
    (hBd : ∀ (i : Nat) (x : Sp), B[i]? = some x → x.at_ ≤ 300 ∧ x.line ≤ 300) (hlen : C.length = A.length + 1 + B.length)
    (C1 : ∀ (k : Nat) (x : Sp), A[k]? = some x → C[k]? = some x) (C2 : ∀ (k : Nat) (x : Sp), B[k]? = some x → C[A.length + 1 + k]? = some (x.on (S.size + 1) lin)) (C3 : C[A.length]? = some ⟨10, S.size, 1, lin, co, false⟩)
    (c80 : ∀ w', Calls Tryd.prog 8 #[.string a0, .int .i64 300] w' fun e w'' => e = .returned (.string S) ∧ Later w' w'')
    (c81 : ∀ w', Calls Tryd.prog 8 #[.string a1, .int .i64 300] w' fun e w'' => e = .returned (.string T) ∧ Later w' w'')
    (hcA : ∀ w', Good w' → Calls Tryd.prog 12 #[.string S] w' fun e w'' => (∃ a cap, e = .returned (.slice a A.length cap) ∧ Row w'' a A) ∧ Later w' w'')
    (hcB : ∀ w', Good w' → Calls Tryd.prog 12 #[.string T] w' fun e w'' => (∃ a cap, e = .returned (.slice a B.length cap) ∧ Row w'' a B) ∧ Later w' w'')
    (hcC : ∀ w', Good w' → Calls Tryd.prog 12 #[.string (S ++ ⟨#[10]⟩ ++ T)] w' fun e w'' => (∃ a cap, e = .returned (.slice a C.length cap) ∧ Row w'' a C) ∧ Later w' w'')
    (hcE : ∀ w', Calls Tryd.prog 9 #[.string (S ++ ⟨#[10]⟩)] w' fun e w'' => e = .returned (.tuple #[.int .i64 ((lin + 1 : Nat) : Int), .int .i64 ((1 : Nat) : Int)]) ∧ Later w' w'')
    (w : World) (g : Good w) :
    Calls Tryd.prog 6 #[.string a0, .string a1] w fun e w' => e = .returned (.bool true) ∧ Later w w' := by
  have go : ∀ {w'}, Later w w' → Good w' := fun h => g.later h
  have hlen' : ((C.length : Nat) : Int) = (A.length : Int) + 1 + (B.length : Int) := by omega
  have HL : Hid (C.length = A.length + 1 + B.length) := hlen
  have HBd : Hid (∀ (i : Nat) (x : Sp), B[i]? = some x → x.at_ ≤ 300 ∧ x.line ≤ 300) := hBd
  have HC1 : Hid (∀ (k : Nat) (x : Sp), A[k]? = some x → C[k]? = some x) := C1
  have HC2 : Hid (∀ (k : Nat) (x : Sp), B[k]? = some x → C[A.length + 1 + k]? = some (x.on (S.size + 1) lin)) := C2
  have HC3 : Hid (C[A.length]? = some ⟨10, S.size, 1, lin, co, false⟩) := C3
  clear hlen hBd C1 C2 C3
  go_enter Tryd.func6, Tryd.ntmps6
  go_wp2_with (first
    | (go_at_call 8; apply Calls.mono; (focus (with_reducible (exact c80 _))); rintro e w1 ⟨rfl, hl1⟩)
    | (go_at_call 8; apply Calls.mono; (focus (with_reducible (exact c81 _))); rintro e w2 ⟨rfl, hl2⟩; have L2 := Later.trans hl1 hl2)
    | (go_at_call 12; apply Calls.mono; (focus (with_reducible (exact hcA _ (go L2)))); rintro e w3 ⟨⟨pa, capa, rfl, ra⟩, hl3⟩; have L3 := Later.trans L2 hl3)
    | (go_at_call 12; apply Calls.mono; (focus (with_reducible (exact hcB _ (go L3)))); rintro e w4 ⟨⟨pb, capb, rfl, rb⟩, hl4⟩; have L4 := Later.trans L3 hl4)
    | (go_at_call 12; apply Calls.mono; (focus (with_reducible (exact hcC _ (go L4)))); rintro e w5 ⟨⟨pc, capc, rfl, rc⟩, hl5⟩; have L5 := Later.trans L4 hl5)
    | (go_at_call 9; apply Calls.mono; (focus (with_reducible (exact hcE _))); rintro e w6 ⟨rfl, hl6⟩; have L6 := Later.trans L5 hl6))
  have RA := ra.later (Later.trans (Later.trans hl4 hl5) hl6)
  have RB := rb.later (Later.trans hl5 hl6)
  have RC := rc.later hl6
  clear ra rb rc hl1 hl2 hl3 hl4 hl5 hl6 L2 L3 L4 L5 c80 c81 hcA hcB hcC hcE
  go_loopw [10] (fun vi wr => ∃ (k : Nat), vi = .int .i64 (k : Nat) ∧ k ≤ A.length ∧ Later w wr ∧ Row wr pa A ∧ Row wr pb B ∧ Row wr pc C) (fun vi _ => A.length - (intOf vi).toNat)
  case atStart => exact ⟨0, rfl, by omega, L6, RA, RB, RC⟩
  case round =>
    clear RA RB RC L6
    obtain ⟨k, rfl, hk, hlw, RA, RB, RC⟩ := hrel
    by_cases hlt : k < A.length
    · obtain ⟨x, hx⟩ : ∃ x, A[k]? = some x := ⟨_, List.getElem?_eq_getElem hlt⟩
      have HRA : Hid (Row wr pa A) := RA
      have HRB : Hid (Row wr pb B) := RB
      have HRC : Hid (Row wr pc C) := RC
      obtain ⟨ga, rfl, p0, p1, p2, p3, p4, p5⟩ := RA.get hx
      obtain ⟨gc, rfl, q0, q1, q2, q3, q4, q5⟩ := RC.get (HC1.out k x hx)
      generalize x.rune = r at *
      generalize x.at_ = at1 at *
      generalize x.size = sz at *
      generalize x.line = ln at *
      generalize x.col = cl at *
      generalize x.bad = bd at *
      have hkc : (k : Int) < (A.length : Int) + 1 + (B.length : Int) := by omega
      have hkc2 : (k : Int) < (C.length : Int) := by have := HL.out; omega
      clear hx RA RB RC
      go_wp2
      go_quiet (fail)
      go_wp2
      go_roundw
      case rel => exact ⟨k + 1, by go_num, by omega, Later.drewN hlw _, Row.later HRA.out (Later.drewN (Later.refl _) _), Row.later HRB.out (Later.drewN (Later.refl _) _), Row.later HRC.out (Later.drewN (Later.refl _) _)⟩
      case measure => simp [intOf]; omega
    · go_wp2
      have hlw0 := hlw
      clear hlt hk
      go_loopw [11] (fun vi wr => ∃ (k : Nat), vi = .int .i64 (k : Nat) ∧ k ≤ B.length ∧ Later w wr ∧ Row wr pb B ∧ Row wr pc C) (fun vi _ => B.length - (intOf vi).toNat)
      case atStart => exact ⟨0, rfl, by omega, hlw, RB, RC⟩
      case round =>
        clear RA RB RC hlw hlw0
        obtain ⟨m, rfl, hk, hlw, RB, RC⟩ := hrel
        by_cases hlt : m < B.length
        · obtain ⟨x, hx⟩ : ∃ x, B[m]? = some x := ⟨_, List.getElem?_eq_getElem hlt⟩
          have HRB : Hid (Row wr pb B) := RB
          have HRC : Hid (Row wr pc C) := RC
          obtain ⟨gb, rfl, p0, p1, p2, p3, p4, p5⟩ := RB.get hx
          obtain ⟨gc, rfl, q0, q1, q2, q3, q4, q5⟩ := RC.get (HC2.out m x hx)
          have hbd := HBd.out m x hx
          have v1 : (((x.on (S.size + 1) lin).at_ : Nat) : Int) = (x.at_ : Int) + (S.size : Int) + 1 := by simp only [Sp.on]; omega
          have v3 : (((x.on (S.size + 1) lin).line : Nat) : Int) = (x.line : Int) + ((lin : Int) + 1) - 1 := by simp only [Sp.on]; omega
          rw [v1] at q1
          rw [v3] at q3
          replace q0 : wr.cell? ⟨gc, (A.length + 1 + m) * 6, none⟩ = some (.int .i32 (x.rune : Nat)) := q0
          replace q2 : wr.cell? ⟨gc, (A.length + 1 + m) * 6 + 2, none⟩ = some (.int .i64 (x.size : Nat)) := q2
          replace q4 : wr.cell? ⟨gc, (A.length + 1 + m) * 6 + 4, none⟩ = some (.int .i64 (x.col : Nat)) := q4
          replace q5 : wr.cell? ⟨gc, (A.length + 1 + m) * 6 + 5, none⟩ = some (.bool x.bad) := q5
          clear hx RB RC v1 v3
          generalize x.rune = r at *
          generalize x.at_ = at1 at *
          generalize x.size = sz at *
          generalize x.line = ln at *
          generalize x.col = cl at *
          generalize x.bad = bd at *
          obtain ⟨b0, b1, b2, b3, b4, b5⟩ := six_new wr (.int .i32 (r : Nat)) (.int .i64 ((at1 : Int) + (S.size : Int) + 1)) (.int .i64 (sz : Nat)) (.int .i64 ((ln : Int) + ((lin : Int) + 1) - 1)) (.int .i64 (cl : Nat)) (.bool bd)
          have HLa : Hid (Later wr (wr.alloc (.cells #[.int .i32 (r : Nat), .int .i64 ((at1 : Int) + (S.size : Int) + 1), .int .i64 (sz : Nat), .int .i64 ((ln : Int) + ((lin : Int) + 1) - 1), .int .i64 (cl : Nat), .bool bd] 34))) := Later.alloc (Later.refl _) _
          go_wp2
          replace q0 := cell_later q0 HLa.out
          replace q1 := cell_later q1 HLa.out
          replace q2 := cell_later q2 HLa.out
          replace q3 := cell_later q3 HLa.out
          replace q4 := cell_later q4 HLa.out
          replace q5 := cell_later q5 HLa.out
          generalize wr.alloc (.cells #[.int .i32 (r : Nat), .int .i64 ((at1 : Int) + (S.size : Int) + 1), .int .i64 (sz : Nat), .int .i64 ((ln : Int) + ((lin : Int) + 1) - 1), .int .i64 (cl : Nat), .bool bd] 34) = W2 at b0 b1 b2 b3 b4 b5 q0 q1 q2 q3 q4 q5 HLa ⊢
          generalize ((at1 : Int) + (S.size : Int) + 1) = at2 at *
          generalize ((ln : Int) + ((lin : Int) + 1) - 1) = ln2 at *
          have hi0 : ((A.length : Int) + 1 + (m : Int)).toNat = A.length + 1 + m := by omega
          have hi1 : (A.length : Int) + 1 + (m : Int) < (A.length : Int) + 1 + (B.length : Int) := by omega
          have hi2 : (A.length : Int) + 1 + (m : Int) < (C.length : Int) := by have := HL.out; omega
          have hi3 : (0 : Int) ≤ (A.length : Int) + 1 + (m : Int) := by omega
          clear p0 p1 p2 p3 p4 p5
          go_quiet (fail)
          go_wp2
          go_roundw
          case rel => exact ⟨m + 1, by go_num, by omega, Later.drewN (Later.trans hlw HLa.out) _, Row.later HRB.out (Later.drewN HLa.out _), Row.later HRC.out (Later.drewN HLa.out _)⟩
          case measure => simp [intOf]; omega
        · have hcl : A.length < C.length := by have := HL.out; omega
          obtain ⟨gc, rfl, q0, -, -, -, -, -⟩ := RC.get HC3.out
          have hi1 : (A.length : Int) < (A.length : Int) + 1 + (B.length : Int) := by omega
          have hi2 : (A.length : Int) < (C.length : Int) := by omega
          go_wp2_with (go_at_call 14; refine (alive_any _ (go hlw)).mono ?_; rintro e w7 ⟨rfl, hl7⟩)
          go_ret
          exact ⟨rfl, Later.trans hlw hl7⟩

theorem walk (a0 : ByteArray) (z0 : a0.size ≤ 140737488355328) (a1 : ByteArray) (z1 : a1.size ≤ 140737488355328) (w : World) (g : Good w) :
    Calls Tryd.prog 6 #[.string a0, .string a1] w fun e w' => e = .returned (.bool true) ∧ Later w w' := by
  have hS := short_size 300 a0
  have hT := short_size 300 a1
  have c80 := fun w' => short300_any a0 z0 w'
  have c81 := fun w' => short300_any a1 z1 w'
  generalize short 300 a0 = S at *
  generalize short 300 a1 = T at *
  have hA := place_all S
  have hB := place_all T
  have hjs : (join S T).size ≤ 601 := by rw [join_size]; omega
  have hje : (join S ⟨#[]⟩).size ≤ 301 := by rw [join_size]; show S.size + 1 + 0 ≤ 301; omega
  refine core a0 a1 S T hS hT (spots S) (spots T) (spots (join S T)) (placeOf (spots S)).2.1 (placeOf (spots S)).2.2 (by omega) (by omega) (by omega) ?_ ?_ ?_ ?_ ?_ c80 c81 (fun w' g' => spots_any S (by omega) w' g') (fun w' g' => spots_any T (by omega) w' g') (fun w' g' => spots_any (join S T) (by omega) w' g') ?_ w g
  · intro i x h
    have := spot_le T i x h
    omega
  · rw [spots_join]; simp; omega
  · intro k x h
    rw [spots_join, List.getElem?_append_left (List.getElem?_eq_some_iff.1 h).1]; exact h
  · intro k x h
    rw [spots_join, List.getElem?_append_right (by omega), show (spots S).length + 1 + k - (spots S).length = k + 1 by omega, List.getElem?_cons_succ, List.getElem?_map, h]; rfl
  · rw [spots_join, List.getElem?_append_right (by omega), Nat.sub_self]; rfl
  · intro w'
    have h := end_any (join S ⟨#[]⟩) (by omega) w'
    rw [end_join, join_empty] at h
    exact h

set_option maxRecDepth 100000 in
theorem lifted (os : Os) (started : os.Started) (H : Type) (enc : TypeId × Value → H) :
    ReturnsInHanded {} Tryd.checked os 6 .any (fun w args => (Rows.glyphLinesSpec.pre enc Tryd.prog Tryd.f6 [] false w args ∧ laidMetH Tryd.prog theList w) ∧ sizedMet enc Tryd.prog Tryd.f6 (OpenSpec.ofChange Rows.glyphLinesSpec) false w args)
      (Rows.glyphLinesSpec.post enc Tryd.prog Tryd.f6 false true false false) := by
  refine returnsInHanded_of_change_and (C := Tryd.checked) (X := fun w _ => laidMetH Tryd.prog theList w) (fun _ _ _ hh h => h.of_heap hh) own started (by kernel_rfl) Tryd.func6
    (ChangeSpec.witness_shaped (enc := enc) (C := Tryd.checked) (os := os) (X := fun w _ => laidMetH Tryd.prog theList w) false (World.laidAll Tryd.prog os theList) #[.string ⟨#[]⟩, .string ⟨#[]⟩] 8 (World.laidAll_os _ _ _) (World.shaped_of_ZipB (by kernel_rfl) (by kernel_rfl)) (by kernel_rfl) (by kernel_rfl) (by kernel_rfl) (door_met os _)) ?_
  intro W base args ds gs before hval0 hW _ hsz0 hL _
  have hsz : (DataW.weightsEach Tryd.prog (Tryd.f6.params.toList ++ Rows.glyphLinesSpec.plain.varTypes Tryd.prog) (ds ++ gs)).all (· ≤ reachBytes) = true := hsz0
  clear hsz0
  have hval : ∀ (j : Nat) t v, Tryd.f6.params[j]? = some t → args[j]? = some v → Value.okWide Tryd.prog W .any base t v := hval0
  have hW' := hW
  obtain ⟨p, q, hA0, hV, rfl, hfz, hnd⟩ := hW
  have hA : DataW.TrodAll enc Tryd.prog W 0 (fun _ => true) true Tryd.f6.params.toList args.toList ds p := hA0
  rw [Tryd.params6] at hA hval hsz
  obtain ⟨v0, vs0, d0, ds0, p0, q0, hargs, rfl, rfl, h0, r0⟩ := trodAll_cons hA
  obtain ⟨v1, vs1, d1, ds1, p1, q1, rfl, rfl, rfl, h1, r1⟩ := trodAll_cons r0
  obtain ⟨rfl, rfl, rfl⟩ := trodAll_nil r1
  obtain rfl : args = #[v0, v1] := by cases args; simp_all
  obtain ⟨rfl, rfl⟩ := trodVars_none hV
  obtain ⟨a0, rfl, rfl, rfl, w0⟩ := open_string Tryd.underlying9 (hval 0 9 v0 rfl rfl) h0
  have z0 : a0.size ≤ 140737488355328 := by
    have h1 := sized_string hsz (j := 0) (t := 9) rfl rfl
    have h2 := reachBytes_lt
    have e1 : a0.size = a0.data.size := rfl
    have e2 : a0.data.toList.length = a0.data.size := Array.length_toList
    have e3 : (2 : Nat) ^ 47 = 140737488355328 := by decide
    omega
  obtain ⟨a1, rfl, rfl, rfl, w1⟩ := open_string Tryd.underlying9 (hval 1 9 v1 rfl rfl) h1
  have z1 : a1.size ≤ 140737488355328 := by
    have h1 := sized_string hsz (j := 1) (t := 9) rfl rfl
    have h2 := reachBytes_lt
    have e1 : a1.size = a1.data.size := rfl
    have e2 : a1.data.toList.length = a1.data.size := Array.length_toList
    have e3 : (2 : Nat) ^ 47 = 140737488355328 := by decide
    omega
  clear hA0 hval0
  simp only [List.append_nil] at hW'
  refine (walk a0 z0 a1 z1 W (Good.of_laid hL)).mono fun e W' ⟨he, hnx⟩ => ?_
  subst he
  refine ⟨_, rfl, _, _, _, [], [], [], hW', ?_, ?_, rfl, Below.frame hnx _, fun h => by cases h⟩
  · exact (trodAll_cons_mk (shut_bool Tryd.underlying4 _) trodAll_mk0)
  · exact (trodAll_cons_mk (shut_string Tryd.underlying9 w0) (trodAll_cons_mk (shut_string Tryd.underlying9 w1) trodAll_mk0))

theorem over : Rows.glyphLinesRow.holds Tryd.pinned (OpenSpec.ofChange Rows.glyphLinesSpec) :=
  OpenClaim.holds_of_wide 6 Tryd.f6 rfl rfl rfl rfl rfl rfl rfl ⟨rfl, rfl, rfl, rfl, rfl⟩ rfl rfl rfl rfl rfl (by kernel_rfl) Tryd.func6 (by kernel_rfl)
    (of_decide_eq_true (by kernel_rfl)) (by unfold Func.isWrapper; first | (rw [if_pos (by decide +kernel)]; kernel_rfl) | (rw [if_neg (by decide +kernel)]; exact ⟨rfl, rfl⟩))
    (fun os started H enc _ => lifted os started H enc)

end Go.Proofs.YthlbkjalagiobaaDoor.glyphLines

namespace Go.Proofs.YthlbkjalagiobaaDoor
open Go
/-- The statement: the row, with its listed variables tied to the program's text. -/
theorem glyphLines_holds : Rows.GlyphLinesCardSaid :=
  Claim7.holds_tied_plain_at .later [] [.data, .pinned] true Rows.glyphLinesCard.stood.harness false
    glyphLines.over (fun _ h => by cases h) (by kernel_rfl) (fun _ h => by cases h) glyphLines_row_tie rfl ⟨rfl, rfl⟩ (by kernel_rfl) rfl
    (fun f fn hf hfn => by
      obtain rfl : f = 6 := Option.some.inj ((show Tryd.prog.funcNamed Rows.glyphLinesRow.func = some 6 by kernel_rfl).symm.trans hf) |>.symm
      obtain rfl : fn = Tryd.f6 := (Option.some.inj (Tryd.func6.symm.trans hfn)).symm
      exact ⟨by kernel_rfl, fun j t ht => by
        rw [Tryd.params6] at ht
        have hm : t ∈ [9, 9] := by simpa using Array.mem_of_getElem? ht
        have hall : ([9, 9].all fun u => !Tryd.prog.wantsStandIn u) = true := by kernel_rfl
        exact (show Tryd.prog.wantsStandIn t = false by simpa using List.all_eq_true.1 hall t hm)⟩)
    (by kernel_rfl)
#print axioms glyphLines_holds
end Go.Proofs.YthlbkjalagiobaaDoor
