/-
  Proved: for every text GlyphCovers returns true: the runes of a text cover it, byte by byte; one that is not bad is its own bytes, a bad one is one byte from 128 on; the argument reads as before. The listed package variables stand as the program's text lays them (tied). Conditions: none besides.
-/
import Derived.Test.YthlbkjalagiobaaDoorRows
import Derived.Test.YthlbkjalagiobaaDoorCards
import Derived.Test.YthlbkjalagiobaaDoorTie
import Derived.Test.YthlbkjalagiobaaDoorLaid
import Derived.Test.YthlbkjalagiobaaDoorAlive
import Derived.Test.YthlbkjalagiobaaDoorBytes
import Derived.WalkKit
import Derived.ProofKit
import Derived.OpenShut
import Derived.SizedLaws
import Derived.ShutString
import Derived.Stop.Joined
import Derived.SevenTiedAt
namespace Go.Proofs.YthlbkjalagiobaaDoor.glyphCovers
open Go.ChangeShapes Go.WideShapes Go.ChangeAt Go.RowKit
open Go.ChangeMaps (open_string shut_string)
set_option linter.unusedVariables false

theorem own : ownKnob Tryd.prog.godebug = none := by kernel_rfl

theorem six_new (w : World) (a b c d e f : Value) : (w.alloc (.cells #[a, b, c, d, e, f] 34)).cell? ⟨w.heap.size, 0, none⟩ = some a ∧ (w.alloc (.cells #[a, b, c, d, e, f] 34)).cell? ⟨w.heap.size, 1, none⟩ = some b ∧ (w.alloc (.cells #[a, b, c, d, e, f] 34)).cell? ⟨w.heap.size, 2, none⟩ = some c ∧ (w.alloc (.cells #[a, b, c, d, e, f] 34)).cell? ⟨w.heap.size, 3, none⟩ = some d ∧ (w.alloc (.cells #[a, b, c, d, e, f] 34)).cell? ⟨w.heap.size, 4, none⟩ = some e ∧ (w.alloc (.cells #[a, b, c, d, e, f] 34)).cell? ⟨w.heap.size, 5, none⟩ = some f := by
  refine ⟨?_, ?_, ?_, ?_, ?_, ?_⟩ <;> simp

set_option maxRecDepth 1000000 in
set_option maxHeartbeats 2000000 in
theorem walk (a0 : ByteArray) (z0 : a0.size ≤ 140737488355328) (w : World) (g : Good w) :
    Calls Tryd.prog 5 #[.string a0] w fun e w' => e = .returned (.bool true) ∧ Later w w' := by
  have go : ∀ {w'}, Later w w' → Good w' := fun h => g.later h
  have l0 : Later w w := Later.refl w
  have c8 := fun w' => short600_any a0 z0 w'
  have hS := short_size 600 a0
  generalize short 600 a0 = S at *
  have hn := (place_all S).2.2
  go_enter Tryd.func5, Tryd.ntmps5
  go_wp2_with (first | (go_at_call 8; refine (c8 _).mono ?_; rintro e w1 ⟨rfl, hl1⟩) | (go_at_call 12; refine (spots_any S (by omega) _ (go hl1)).mono ?_; rintro e w2 ⟨⟨a, cap, rfl, hrow⟩, hl2⟩))
  have hw2 : Later w w2 := Later.trans hl1 hl2
  go_loopw [4, 5] (fun va vi wr => ∃ (k pos : Nat), Later w wr ∧ Row wr a (spots S) ∧ vi = .int .i64 (k : Nat) ∧ va = .int .i64 (pos : Nat) ∧ k ≤ (spots S).length ∧ Hid ((placeOf ((spots S).take k)).1 = pos)) (fun _ vi _ => (spots S).length - (intOf vi).toNat)
  case atStart => exact ⟨0, 0, hw2, hrow, rfl, rfl, by omega, rfl⟩
  case round =>
    clear hrow hl1 hl2 hw2
    obtain ⟨k, pos, hlw, hrow, rfl, rfl, hk, HP⟩ := hrel
    have hbd := (place_bound S k).1
    rw [HP.out] at hbd
    by_cases hlt : k < (spots S).length
    · obtain ⟨x, hx⟩ : ∃ x, (spots S)[k]? = some x := ⟨_, List.getElem?_eq_getElem hlt⟩
      have HR : Hid (Row wr a (spots S)) := hrow
      obtain ⟨gg, rfl, p0, p1, p2, p3, p4, p5⟩ := hrow.get hx
      obtain ⟨e1, e2, e3, e4, e5⟩ := spots_at S k x hx
      have HN : Hid ((placeOf ((spots S).take (k + 1))).1 = pos + x.size) := by
        show _ = _
        rw [place_succ S k x hx]
        show _ + _ = _
        rw [HP.out]
      rw [HP.out] at e1
      have hle := spot_le S k x hx
      have er : x.rune = (Utf8.decode S x.at_).1 := by rw [e5]; rfl
      have ek : x.size = (Utf8.decode S x.at_).2 := by rw [e5]; rfl
      have eb : x.bad = badOf (Utf8.decode S x.at_).1 (Utf8.decode S x.at_).2 := by rw [e5]; rfl
      rw [e1] at er ek eb e4 p1 hle
      rw [← er, ← ek] at eb
      have HBad : x.bad = true → x.rune = 65533 ∧ x.size = 1 ∧ 128 ≤ (S[pos]'e4).toNat := fun hb => by
        have h1 := badOf_true (eb.symm.trans hb)
        exact ⟨h1.1, h1.2, bad_byte S pos e4 (by rw [← er]; exact h1.1) (by rw [← ek]; exact h1.2)⟩
      have HGood : x.bad = false → Utf8.encode ((x.rune : Nat) : Int) = S.extract pos (pos + x.size) := fun hb => by
        have h1 := badOf_false (eb.symm.trans hb)
        rw [er, ek] at h1 ⊢
        exact enc_ok S pos e4 h1
      generalize x.rune = r at *
      generalize x.size = sz at *
      generalize x.line = ln at *
      generalize x.col = cl at *
      generalize x.bad = bd at *
      clear e1 e2 e3 e5 er ek eb hx hrow
      cases bd with
      | true =>
        obtain ⟨rfl, rfl, hbyte⟩ := HBad rfl
        have hbyte' : decide (((S[pos]'e4).toNat : Int) < 128) = false := by simp; omega
        clear HBad HGood
        obtain ⟨b0, b1, b2, b3, b4, b5⟩ := six_new wr (.int .i32 65533) (.int .i64 (pos : Nat)) (.int .i64 1) (.int .i64 (ln : Nat)) (.int .i64 (cl : Nat)) (.bool true)
        have HL : Hid (Later wr (wr.alloc (.cells #[.int .i32 65533, .int .i64 (pos : Nat), .int .i64 1, .int .i64 (ln : Nat), .int .i64 (cl : Nat), .bool true] 34))) := Later.alloc (Later.refl _) _
        go_wp2
        generalize wr.alloc (.cells #[.int .i32 65533, .int .i64 (pos : Nat), .int .i64 1, .int .i64 (ln : Nat), .int .i64 (cl : Nat), .bool true] 34) = W2 at b0 b1 b2 b3 b4 b5 HL ⊢
        have hp1 : (pos : Int) < (S.size : Int) := by omega
        clear p0 p1 p2 p3 p4 p5
        go_quiet (fail)
        go_wp2
        go_roundw
        case rel => exact ⟨k + 1, pos + 1, Later.drewN (Later.trans hlw HL.out) _, Row.later HR.out (Later.drewN HL.out _), by go_num, by go_num, by omega, HN⟩
        case measure => simp [intOf]; omega
      | false =>
        have hE := HGood rfl
        clear HBad HGood
        obtain ⟨E, hE2⟩ : ∃ E, S.extract pos (pos + sz) = E := ⟨_, rfl⟩
        rw [hE2] at hE
        obtain ⟨b0, b1, b2, b3, b4, b5⟩ := six_new wr (.int .i32 (r : Nat)) (.int .i64 (pos : Nat)) (.int .i64 (sz : Nat)) (.int .i64 (ln : Nat)) (.int .i64 (cl : Nat)) (.bool false)
        have HL : Hid (Later wr (wr.alloc (.cells #[.int .i32 (r : Nat), .int .i64 (pos : Nat), .int .i64 (sz : Nat), .int .i64 (ln : Nat), .int .i64 (cl : Nat), .bool false] 34))) := Later.alloc (Later.refl _) _
        have q1 : decide ((sz : Int) < 1) = false := by simp; omega
        have q2 : decide ((sz : Int) > 4) = false := by simp; omega
        have q3 : (pos : Int) + (sz : Int) ≤ (S.size : Int) := by omega
        have q4 : ((pos : Int) + (sz : Int)).toNat = pos + sz := by omega
        go_wp2
        generalize wr.alloc (.cells #[.int .i32 (r : Nat), .int .i64 (pos : Nat), .int .i64 (sz : Nat), .int .i64 (ln : Nat), .int .i64 (cl : Nat), .bool false] 34) = W2 at b0 b1 b2 b3 b4 b5 HL ⊢
        have hp1 : (pos : Int) < (S.size : Int) := by omega
        clear p0 p1 p2 p3 p4 p5
        go_quiet (fail)
        go_wp2
        go_roundw
        case rel => exact ⟨k + 1, pos + sz, Later.drewN (Later.trans hlw HL.out) _, Row.later HR.out (Later.drewN HL.out _), by go_num, by go_num, by omega, HN⟩
        case measure => simp [intOf]; omega
    · have hkl : k = (spots S).length := by omega
      have hps : pos = S.size := by
        have h2 := HP.out
        rw [hkl, List.take_length, placeOf_spots] at h2
        exact h2.symm
      subst hps
      clear hkl hrow
      go_wp2_with (go_at_call 14; refine (alive_any _ (go hlw)).mono ?_; rintro e w4 ⟨rfl, hl4⟩)
      go_ret
      exact ⟨rfl, Later.trans hlw hl4⟩

set_option maxRecDepth 100000 in
theorem lifted (os : Os) (started : os.Started) (H : Type) (enc : TypeId × Value → H) :
    ReturnsInHanded {} Tryd.checked os 5 .any (fun w args => (Rows.glyphCoversSpec.pre enc Tryd.prog Tryd.f5 [] false w args ∧ laidMetH Tryd.prog theList w) ∧ sizedMet enc Tryd.prog Tryd.f5 (OpenSpec.ofChange Rows.glyphCoversSpec) false w args)
      (Rows.glyphCoversSpec.post enc Tryd.prog Tryd.f5 false true false false) := by
  refine returnsInHanded_of_change_and (C := Tryd.checked) (X := fun w _ => laidMetH Tryd.prog theList w) (fun _ _ _ hh h => h.of_heap hh) own started (by kernel_rfl) Tryd.func5
    (ChangeSpec.witness_shaped (enc := enc) (C := Tryd.checked) (os := os) (X := fun w _ => laidMetH Tryd.prog theList w) false (World.laidAll Tryd.prog os theList) #[.string ⟨#[]⟩] 8 (World.laidAll_os _ _ _) (World.shaped_of_ZipB (by kernel_rfl) (by kernel_rfl)) (by kernel_rfl) (by kernel_rfl) (by kernel_rfl) (door_met os _)) ?_
  intro W base args ds gs before hval0 hW _ hsz0 hL _
  have hsz : (DataW.weightsEach Tryd.prog (Tryd.f5.params.toList ++ Rows.glyphCoversSpec.plain.varTypes Tryd.prog) (ds ++ gs)).all (· ≤ reachBytes) = true := hsz0
  clear hsz0
  have hval : ∀ (j : Nat) t v, Tryd.f5.params[j]? = some t → args[j]? = some v → Value.okWide Tryd.prog W .any base t v := hval0
  have hW' := hW
  obtain ⟨p, q, hA0, hV, rfl, hfz, hnd⟩ := hW
  have hA : DataW.TrodAll enc Tryd.prog W 0 (fun _ => true) true Tryd.f5.params.toList args.toList ds p := hA0
  rw [Tryd.params5] at hA hval hsz
  obtain ⟨v0, vs0, d0, ds0, p0, q0, hargs, rfl, rfl, h0, r0⟩ := trodAll_cons hA
  obtain ⟨rfl, rfl, rfl⟩ := trodAll_nil r0
  obtain rfl : args = #[v0] := by cases args; simp_all
  obtain ⟨rfl, rfl⟩ := trodVars_none hV
  obtain ⟨a0, rfl, rfl, rfl, w0⟩ := open_string Tryd.underlying9 (hval 0 9 v0 rfl rfl) h0
  have z0 : a0.size ≤ 140737488355328 := by
    have h1 := sized_string hsz (j := 0) (t := 9) rfl rfl
    have h2 := reachBytes_lt
    have e1 : a0.size = a0.data.size := rfl
    have e2 : a0.data.toList.length = a0.data.size := Array.length_toList
    have e3 : (2 : Nat) ^ 47 = 140737488355328 := by decide
    omega
  clear hA0 hval0
  simp only [List.append_nil] at hW'
  refine (walk a0 z0 W (Good.of_laid hL)).mono fun e W' ⟨he, hnx⟩ => ?_
  subst he
  refine ⟨_, rfl, _, _, _, [], [], [], hW', ?_, ?_, rfl, Below.frame hnx _, fun h => by cases h⟩
  · exact (trodAll_cons_mk (shut_bool Tryd.underlying4 _) trodAll_mk0)
  · exact (trodAll_cons_mk (shut_string Tryd.underlying9 w0) trodAll_mk0)

theorem over : Rows.glyphCoversRow.holds Tryd.pinned (OpenSpec.ofChange Rows.glyphCoversSpec) :=
  OpenClaim.holds_of_wide 5 Tryd.f5 rfl rfl rfl rfl rfl rfl rfl ⟨rfl, rfl, rfl, rfl, rfl⟩ rfl rfl rfl rfl rfl (by kernel_rfl) Tryd.func5 (by kernel_rfl)
    (of_decide_eq_true (by kernel_rfl)) (by unfold Func.isWrapper; first | (rw [if_pos (by decide +kernel)]; kernel_rfl) | (rw [if_neg (by decide +kernel)]; exact ⟨rfl, rfl⟩))
    (fun os started H enc _ => lifted os started H enc)

end Go.Proofs.YthlbkjalagiobaaDoor.glyphCovers

namespace Go.Proofs.YthlbkjalagiobaaDoor
open Go
/-- The statement: the row, with its listed variables tied to the program's text. -/
theorem glyphCovers_holds : Rows.GlyphCoversCardSaid :=
  Claim7.holds_tied_plain_at .later [] [.data, .pinned] true Rows.glyphCoversCard.stood.harness false
    glyphCovers.over (fun _ h => by cases h) (by kernel_rfl) (fun _ h => by cases h) glyphCovers_row_tie rfl ⟨rfl, rfl⟩ (by kernel_rfl) rfl
    (fun f fn hf hfn => by
      obtain rfl : f = 5 := Option.some.inj ((show Tryd.prog.funcNamed Rows.glyphCoversRow.func = some 5 by kernel_rfl).symm.trans hf) |>.symm
      obtain rfl : fn = Tryd.f5 := (Option.some.inj (Tryd.func5.symm.trans hfn)).symm
      exact ⟨by kernel_rfl, fun j t ht => by
        rw [Tryd.params5] at ht
        have hm : t ∈ [9] := by simpa using Array.mem_of_getElem? ht
        have hall : ([9].all fun u => !Tryd.prog.wantsStandIn u) = true := by kernel_rfl
        exact (show Tryd.prog.wantsStandIn t = false by simpa using List.all_eq_true.1 hall t hm)⟩)
    (by kernel_rfl)
#print axioms glyphCovers_holds
end Go.Proofs.YthlbkjalagiobaaDoor
