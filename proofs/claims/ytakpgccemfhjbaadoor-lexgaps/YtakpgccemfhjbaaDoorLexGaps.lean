/-
  Proved: for every text and number LexGaps returns true: the tokens of the text's first 300 bytes, set apart by blanks and remarks, are the same tokens; the arguments read as before. The listed package variables stand as the program's text lays them (tied). Conditions: none besides.
-/
import Derived.Test.YtakpgccemfhjbaaDoorRows
import Derived.Test.YtakpgccemfhjbaaDoorCards
import Derived.Test.YtakpgccemfhjbaaDoorTie
import Derived.Test.YtakpgccemfhjbaaDoorLaid
import Derived.Test.YtakpgccemfhjbaaDoorLexAlive
import Derived.Test.YtakpgccemfhjbaaDoorGapFacts
import Derived.Test.YtakpgccemfhjbaaDoorPick
import Derived.RegionTactic
import Derived.Deep.CutRange
import Derived.Deep.RegionWith
import Derived.WalkKit
import Derived.ProofKit
import Derived.OpenShut
import Derived.SizedLaws
import Derived.ShutString
import Derived.Stop.Joined
import Derived.SevenTiedAt
namespace Go.Proofs.YtakpgccemfhjbaaDoor.lexGaps
open Go.ChangeShapes Go.WideShapes Go.ChangeAt Go.RowKit
open Go.ChangeMaps (open_string shut_string)
set_option linter.unusedVariables false

theorem own : ownKnob Tryd.prog.godebug = none := by kernel_rfl

theorem pre_cell (w : World) (j : Nat) (hj : j < 4) (t : TypeId) : (w.alloc (.cells #[.string ⟨#[]⟩, .string ⟨#[32]⟩, .string ⟨#[59, 195, 169, 91, 9]⟩, .string ⟨#[9, 59, 59]⟩] t)).cell? ⟨w.heap.size, j, none⟩ = some (.string (ofL (preL j))) := by
  simp only [World.cell?, at_new]
  obtain rfl | rfl | rfl | rfl : j = 0 ∨ j = 1 ∨ j = 2 ∨ j = 3 := by omega
  all_goals rfl

theorem post_cell (w : World) (j : Nat) (hj : j < 4) (t : TypeId) : (w.alloc (.cells #[.string ⟨#[32]⟩, .string ⟨#[9]⟩, .string ⟨#[32, 32]⟩, .string ⟨#[32, 9]⟩] t)).cell? ⟨w.heap.size, j, none⟩ = some (.string (ofL (postL j))) := by
  simp only [World.cell?, at_new]
  obtain rfl | rfl | rfl | rfl : j = 0 ∨ j = 1 ∨ j = 2 ∨ j = 3 := by omega
  all_goals rfl

theorem tmod4 (k i : Nat) : ((k : Int) + (i : Int)).tmod 4 = (((k + i) % 4 : Nat) : Int) := by
  rw [Int.tmod_eq_emod_of_nonneg (by omega)]
  omega

theorem app_list (a b : ByteArray) : (a ++ b).data.toList = a.data.toList ++ b.data.toList := by
  simp [ByteArray.data_append]

set_option maxRecDepth 1000000 in
set_option maxHeartbeats 4000000 in
theorem walk (a0 : ByteArray) (z0 : a0.size ≤ 140737488355328) (a1 : Int) (w1 : (Lit.int .i64 a1).wf = true) (w : World) (g : Good w) :
    Calls Tryd.prog 5 #[.string a0, .int .i64 a1] w fun e w' => e = .returned (.bool true) ∧ Later w w' := by
  have go : ∀ {w'}, Later w w' → Good w' := fun h => g.later h
  have hr : -9223372036854775808 ≤ a1 ∧ a1 ≤ 9223372036854775807 := by
    simp only [Lit.wf, Bool.and_eq_true, decide_eq_true_eq] at w1
    exact ⟨w1.1, w1.2⟩
  clear w1
  have c8 := fun w' => short300_any a0 z0 w'
  have hS := short_size 300 a0
  generalize short 300 a0 = S at *
  have cT : ∀ w', Good w' → _ := fun w' (g' : Good w') => tokens_any S (by omega) w' g'
  have hah := tokens_ahead S
  have hst := tokens_stand S
  have hgap := tokens_gaps S
  have htxt := tokens_texts S
  have hlen := spots_len S
  have hlenS : (spots S).length ≤ 1000 := by rw [hlen]; have := bytes_le S (marks S.data.toList) [] (by simp); omega
  obtain ⟨ka, hka, hka4⟩ := pick_nat a1 4 (by decide)
  obtain ⟨kb, hkb, hkb3⟩ := pick_nat a1 3 (by decide)
  have cP4 := fun w' => pick_any a1 4 hr (by omega) w'
  have cP3 := fun w' => pick_any a1 3 hr (by omega) w'
  rw [show pick a1 4 = (ka : Int) from hka] at cP4
  rw [show pick a1 3 = (kb : Int) from hkb] at cP3
  clear hka hkb
  generalize tokens S = o at *
  cases o with
  | error p =>
    obtain ⟨k, l, c⟩ := p
    obtain ⟨A, x, B, -, -, hk0, -⟩ := hah k l c rfl
    have hkz : ((k : Int) != 0) = true := by simp only [bne_iff_ne, ne_eq]; omega
    clear hah hst hlen hgap htxt
    go_enter Tryd.func5, Tryd.ntmps5
    go_upto_region 3 with (first
      | (go_at_call 8; refine (c8 _).mono ?_; rintro e w1 ⟨rfl, hl1⟩)
      | (go_at_call 9; apply Calls.mono; (focus (with_reducible (exact cT _ (go hl1)))); rintro e w2 ⟨hres, hl2⟩; obtain rfl : e = _ := hres))
    obtain ⟨c0, c1, c2, -, -, -⟩ := box3_facts (at_new w2 (.cells #[.int .i64 (k : Nat), .int .i64 (l : Nat), .int .i64 (c : Nat)] 26))
    have L3 := Later.alloc (Later.trans hl1 hl2) (.cells #[.int .i64 (k : Nat), .int .i64 (l : Nat), .int .i64 (c : Nat)] 26)
    generalize w2.alloc (.cells #[.int .i64 (k : Nat), .int .i64 (l : Nat), .int .i64 (c : Nat)] 26) = W3 at *
    go_wp2_with (go_at_call 12; refine (alive_any _ (go L3)).mono ?_; rintro e w4 ⟨rfl, hl4⟩)
    go_ret
    exact ⟨by simp, Later.trans L3 hl4⟩
  | ok T =>
    have hst0 := hst T rfl
    have hgap0 := fun t ht => hgap T rfl ka kb t ht
    have htx0 := htxt T rfl
    have hTl := hst0.len
    rw [← hlen] at hTl
    have hT1 : 1 ≤ T.length := by obtain ⟨T0, tl, hTT, -, -⟩ := hst0.last; rw [hTT]; simp
    have hTs : T.length ≤ 1001 := by simp at hTl; omega
    have hgl := gap_len ka kb 300 T 0 (fun t ht => by have := htx0 t ht; omega)
    have hGl : (gapL ka kb 0 T).length ≤ 400000 := by
      have : T.length * 307 ≤ 1001 * 307 := Nat.mul_le_mul_right _ hTs
      omega
    have hTz : ((T.length : Int) == 0) = false := by simp only [beq_eq_false_iff_ne, ne_eq]; omega
    clear hah hst hlen hgap htxt hst0 hTl hgl
    go_enter Tryd.func5, Tryd.ntmps5
    go_upto_region 3 with (first
      | (go_at_call 8; refine (c8 _).mono ?_; rintro e w1 ⟨rfl, hl1⟩)
      | (go_at_call 9; apply Calls.mono; (focus (with_reducible (exact cT _ (go hl1)))); rintro e w2 ⟨⟨a, cap, rfl, hrow0⟩, hl2⟩))
    obtain ⟨c0, c1, c2, -, -, -⟩ := box3_facts (at_new w2 (.cells #[.int .i64 0, .int .i64 0, .int .i64 0] 26))
    have hrowT := hrow0.later (Later.alloc (Later.refl w2) (.cells #[.int .i64 0, .int .i64 0, .int .i64 0] 26))
    have L3 := Later.alloc (Later.trans hl1 hl2) (.cells #[.int .i64 0, .int .i64 0, .int .i64 0] 26)
    clear hrow0
    generalize w2.alloc (.cells #[.int .i64 0, .int .i64 0, .int .i64 0] 26) = W3 at *
    go_wp2
    clear c0 c1 c2
    obtain ⟨gt, rfl⟩ : ∃ gt, a = some ⟨gt, 0, none⟩ := CRow.some Tok.cells_len (by decide) hrowT (List.getElem?_eq_getElem hT1)
    go_loopw [7, 8] (fun vt vi wr => ∃ (i : Nat) (U : ByteArray), vt = .string U ∧ vi = .int .i64 (i : Nat) ∧ Later W3 wr ∧ i + 1 ≤ T.length ∧ Hid (U.data.toList ++ gapL ka kb i (T.drop i) = gapL ka kb 0 T)) (fun _ vi _ => T.length - (intOf vi).toNat)
    case atStart => exact ⟨0, ⟨#[]⟩, rfl, rfl, Later.refl _, hT1, by show _ = _; simp⟩
    case round =>
      obtain ⟨i, U, rfl, rfl, hlw, hi, HU⟩ := hrel
      have hUs : U.size ≤ 400000 := by
        have := congrArg List.length HU.out
        rw [List.length_append, size_len] at this
        omega
      by_cases hlt : i + 1 < T.length
      · obtain ⟨t, ht⟩ : ∃ t, T[i]? = some t := ⟨_, List.getElem?_eq_getElem (by omega)⟩
        obtain ⟨u, hu⟩ : ∃ u, T[i + 1]? = some u := ⟨_, List.getElem?_eq_getElem hlt⟩
        have hd : T.drop i = t :: u :: T.drop (i + 2) := by
          obtain ⟨h1, h2⟩ := List.getElem?_eq_some_iff.1 ht
          obtain ⟨h3, h4⟩ := List.getElem?_eq_some_iff.1 hu
          rw [List.drop_eq_getElem_cons h1, h2, List.drop_eq_getElem_cons h3, h4]
        have hd2 : T.drop (i + 1) = u :: T.drop (i + 2) := by
          obtain ⟨h3, h4⟩ := List.getElem?_eq_some_iff.1 hu
          rw [List.drop_eq_getElem_cons h3, h4]
        have hts : t.text.size ≤ 300 := by have := htx0 t (List.mem_of_getElem? ht); omega
        have hU2 := HU.out
        rw [hd] at hU2
        have hU3 : U.data.toList ++ ((if t.kind = 4 then preL ((ka + i) % 4) else []) ++ (t.text.data.toList ++ postL ((kb + i) % 4))) ++ gapL ka kb (i + 1) (T.drop (i + 1)) = gapL ka kb 0 T := by
          rw [hd2, ← hU2]
          show _ = U.data.toList ++ (segL ka kb i t ++ gapL ka kb (i + 1) (u :: T.drop (i + 2)))
          unfold segL
          simp only [List.append_assoc]
        obtain ⟨g2, hg2, u0, -, -, u3⟩ := tok_get (hrowT.later hlw) ht
        cases hg2
        have hi1 : (i : Int) + 1 < (T.length : Int) := by omega
        have hi2 : (i : Int) < (T.length : Int) := by omega
        have m4 := tmod4 ka i
        have m3 := tmod4 kb i
        have mw : IntKind.i64.wrap ((kb : Int) + (i : Int)) = (kb : Int) + (i : Int) := by
          have e : ∀ n : Int, IntKind.i64.wrap n = if (true && decide (n % 18446744073709551616 ≥ 9223372036854775808)) = true then n % 18446744073709551616 - 18446744073709551616 else n % 18446744073709551616 := fun n => rfl
          rw [e, if_neg (by simp; omega)]
          omega
        have hj4 : (ka + i) % 4 < 4 := Nat.mod_lt _ (by decide)
        have hj3 : (kb + i) % 4 < 4 := Nat.mod_lt _ (by decide)
        generalize (ka + i) % 4 = j4 at *
        generalize (kb + i) % 4 = j3 at *
        have hj4' : (j4 : Int) < 4 := by omega
        have hj3' : (j3 : Int) < 4 := by omega
        have pl := pre_len j4
        have ql := post_len j3
        have pc := pre_cell wr j4 hj4 9
        clear hd hd2 hu hU2 HU
        have hPs : (ofL (preL j4)).size ≤ 5 := by rw [ofL_size]; exact pl
        have hQs : (ofL (postL j3)).size ≤ 2 := by rw [ofL_size]; exact ql
        have hPl := ofL_list (preL j4)
        have hQl := ofL_list (postL j3)
        generalize hPP : ofL (preL j4) = PP at *
        generalize hQQ : ofL (postL j3) = QQ at *
        generalize t.text = tx at *
        by_cases hk : t.kind = 4
        · rw [hk] at u0
          rw [if_pos hk] at hU3
          have HN : Hid ((U ++ PP ++ (tx ++ QQ)).data.toList ++ gapL ka kb (i + 1) (T.drop (i + 1)) = gapL ka kb 0 T) := by
            show _ = _
            rw [app_list, app_list, app_list, hPl, hQl, ← hU3]
            simp only [List.append_assoc]
          clear hU3 hPl hQl
          go_upto_region 11 with (first | (go_at_call 15; refine (cP4 _).mono ?_; rintro e w' ⟨rfl, h⟩; obtain rfl := h.symm))
          have u5 := cell_later u3 (Later.alloc (Later.refl wr) (.cells #[.string ⟨#[]⟩, .string ⟨#[32]⟩, .string ⟨#[59, 195, 169, 91, 9]⟩, .string ⟨#[9, 59, 59]⟩] 9))
          have L5 : Later W3 (wr.alloc (.cells #[.string ⟨#[]⟩, .string ⟨#[32]⟩, .string ⟨#[59, 195, 169, 91, 9]⟩, .string ⟨#[9, 59, 59]⟩] 9)) := Later.alloc hlw _
          clear pc u0 u3
          generalize wr.alloc (.cells #[.string ⟨#[]⟩, .string ⟨#[32]⟩, .string ⟨#[59, 195, 169, 91, 9]⟩, .string ⟨#[9, 59, 59]⟩] 9) = W5 at *
          have qc := post_cell W5 j3 hj3 9
          rw [hQQ] at qc
          have u6 := cell_later u5 (Later.alloc (Later.refl W5) (.cells #[.string ⟨#[32]⟩, .string ⟨#[9]⟩, .string ⟨#[32, 32]⟩, .string ⟨#[32, 9]⟩] 9))
          go_region_with (go_at_call 15; refine (cP3 _).mono ?_; rintro e w' ⟨rfl, h⟩; obtain rfl := h.symm)
          all_goals go_wp2
          all_goals refine ⟨⟨i + 1, _, rfl, by go_num, ?_, by omega, HN⟩, by simp [intOf]; omega⟩
          all_goals first | exact Later.drew (Later.alloc L5 _) | exact Later.alloc (Later.drew L5) _
        · have hk' : ((t.kind : Int) == 4) = false := by simp only [beq_eq_false_iff_ne, ne_eq]; omega
          rw [if_neg hk] at hU3
          have HN : Hid ((U ++ (tx ++ QQ)).data.toList ++ gapL ka kb (i + 1) (T.drop (i + 1)) = gapL ka kb 0 T) := by
            show _ = _
            rw [app_list, app_list, hQl, ← hU3]
            simp only [List.append_assoc, List.nil_append]
          clear hU3 hPl hQl pc
          go_upto_region 11 with (fail)
          have qc := post_cell wr j3 hj3 9
          rw [hQQ] at qc
          have u6 := cell_later u3 (Later.alloc (Later.refl wr) (.cells #[.string ⟨#[32]⟩, .string ⟨#[9]⟩, .string ⟨#[32, 32]⟩, .string ⟨#[32, 9]⟩] 9))
          go_region_with (go_at_call 15; refine (cP3 _).mono ?_; rintro e w' ⟨rfl, h⟩; obtain rfl := h.symm)
          all_goals go_wp2
          all_goals refine ⟨⟨i + 1, _, rfl, by go_num, ?_, by omega, HN⟩, by simp [intOf]; omega⟩
          all_goals first | exact Later.drew (Later.alloc hlw _) | exact Later.alloc (Later.drew hlw) _
      · have hie : i + 1 = T.length := by omega
        obtain ⟨t, ht⟩ : ∃ t, T[i]? = some t := ⟨_, List.getElem?_eq_getElem (by omega)⟩
        have hd : T.drop i = [t] := by
          obtain ⟨h1, h2⟩ := List.getElem?_eq_some_iff.1 ht
          rw [List.drop_eq_getElem_cons h1, h2, List.drop_of_length_le (by omega)]
        have hU2 := HU.out
        rw [hd] at hU2
        have hU3 : U.data.toList = gapL ka kb 0 T := by
          rw [← hU2]
          show _ = _ ++ []
          simp
        obtain ⟨T2, hT2, hsame⟩ := hgap0 (U ++ ⟨#[59]⟩) (by rw [app_list, hU3])
        have hl2 : T2.length = T.length := by
          have := congrArg List.length hsame
          simpa using this
        have cG : ∀ w', Good w' → Calls Tryd.prog 9 #[.string (U ++ ⟨#[59]⟩)] w' fun e w'' => (∃ a cap, e = .returned (.tuple #[.slice a T.length cap, .agg #[.int .i64 0, .int .i64 0, .int .i64 0]]) ∧ CRow w'' a (flatC Tok.cells T2)) ∧ Later w' w'' := fun w' g' => by
          have h := tokens_any (U ++ ⟨#[59]⟩) (by rw [ByteArray.size_append]; show U.size + 1 ≤ 1000000; omega) w' g'
          rw [hT2] at h
          rw [← hl2]
          exact h
        have hi3 : ¬ (i : Int) + 1 < (T.length : Int) := by omega
        have L8 : Later w wr := Later.trans L3 hlw
        have HS : Hid (Same T2 T) := hsame
        have HL : Hid (T2.length = T.length) := hl2
        clear hgap0 htx0 hT2 hsame hU3 hU2 hd ht HU hl2 hie
        go_upto_region 13 with (go_at_call 9; apply Calls.mono; (focus (with_reducible (exact cG _ (go L8)))); rintro e w6 ⟨⟨b, capb, rfl, hrowB⟩, hl6⟩)
        obtain ⟨c0, c1, c2, -, -, -⟩ := box3_facts (at_new w6 (.cells #[.int .i64 0, .int .i64 0, .int .i64 0] 26))
        have lx := Later.alloc (Later.refl w6) (.cells #[.int .i64 0, .int .i64 0, .int .i64 0] 26)
        have hrB := hrowB.later lx
        have hrA := (hrowT.later (Later.trans hlw hl6)).later lx
        have L9 := Later.trans (Later.trans L8 hl6) lx
        clear hrowB hrowT lx
        generalize w6.alloc (.cells #[.int .i64 0, .int .i64 0, .int .i64 0] 26) = W7 at *
        have hne : ((T.length : Int) != (T.length : Int)) = false := by simp
        go_wp2
        clear c0 c1 c2
        go_loopw [11] (fun vi wr' => ∃ (k : Nat), vi = .int .i64 (k : Nat) ∧ k ≤ T.length ∧ Later W7 wr') (fun vi _ => T.length - (intOf vi).toNat)
        case atStart => exact ⟨0, rfl, by omega, Later.refl _⟩
        case round =>
          obtain ⟨k, rfl, hk, hlk⟩ := hrel
          by_cases hkl : k < T.length
          · obtain ⟨x, hx⟩ : ∃ x, T[k]? = some x := ⟨_, List.getElem?_eq_getElem hkl⟩
            obtain ⟨y, hy⟩ : ∃ y, T2[k]? = some y := ⟨_, List.getElem?_eq_getElem (by rw [HL.out]; exact hkl)⟩
            have hxy : y.kind = x.kind ∧ y.text = x.text := by
              have := congrArg (·[k]?) HS.out
              simp only [List.getElem?_map, hx, hy, Option.map_some, Option.some.injEq, Prod.mk.injEq] at this
              exact this
            obtain ⟨ga, hga, p0, -, -, p3⟩ := tok_get (hrA.later hlk) hx
            cases hga
            obtain ⟨gb, rfl, q0, -, -, q3⟩ := tok_get (hrB.later hlk) hy
            rw [hxy.1] at q0
            rw [hxy.2] at q3
            clear hrA hrB hx hy hxy
            generalize x.kind = xk at *
            generalize x.text = xt at *
            have n1 : ((xk : Int) != (xk : Int)) = false := by simp
            have n2 : (xt.toList != xt.toList) = false := by simp
            have hk1 : (k : Int) < (T.length : Int) := by omega
            go_wp2
            go_quiet (fail)
            go_wp2
            go_roundw
            case rel => exact ⟨k + 1, by go_num, by omega, Later.drewN hlk _⟩
            case measure => simp [intOf]; omega
          · have hk1 : ¬ (k : Int) < (T.length : Int) := by omega
            go_wp2_with (go_at_call 12; refine (alive_any _ (go (Later.trans L9 hlk))).mono ?_; rintro e w8 ⟨rfl, hl8⟩)
            go_ret
            exact ⟨rfl, Later.trans (Later.trans L9 hlk) hl8⟩

set_option maxRecDepth 100000 in
theorem lifted (os : Os) (started : os.Started) (H : Type) (enc : TypeId × Value → H) :
    ReturnsInHanded {} Tryd.checked os 5 .any (fun w args => (Rows.lexGapsSpec.pre enc Tryd.prog Tryd.f5 [] false w args ∧ laidMetH Tryd.prog theList w) ∧ sizedMet enc Tryd.prog Tryd.f5 (OpenSpec.ofChange Rows.lexGapsSpec) false w args)
      (Rows.lexGapsSpec.post enc Tryd.prog Tryd.f5 false true false false) := by
  refine returnsInHanded_of_change_and (C := Tryd.checked) (X := fun w _ => laidMetH Tryd.prog theList w) (fun _ _ _ hh h => h.of_heap hh) own started (by kernel_rfl) Tryd.func5
    (ChangeSpec.witness_shaped (enc := enc) (C := Tryd.checked) (os := os) (X := fun w _ => laidMetH Tryd.prog theList w) false (World.laidAll Tryd.prog os theList) #[.string ⟨#[]⟩, .int .i64 0] 8 (World.laidAll_os _ _ _) (World.shaped_of_ZipB (by kernel_rfl) (by kernel_rfl)) (by kernel_rfl) (by kernel_rfl) (by kernel_rfl) (door_met os _)) ?_
  intro W base args ds gs before hval0 hW _ hsz0 hL _
  have hsz : (DataW.weightsEach Tryd.prog (Tryd.f5.params.toList ++ Rows.lexGapsSpec.plain.varTypes Tryd.prog) (ds ++ gs)).all (· ≤ reachBytes) = true := hsz0
  clear hsz0
  have hval : ∀ (j : Nat) t v, Tryd.f5.params[j]? = some t → args[j]? = some v → Value.okWide Tryd.prog W .any base t v := hval0
  have hW' := hW
  obtain ⟨p, q, hA0, hV, rfl, hfz, hnd⟩ := hW
  have hA : DataW.TrodAll enc Tryd.prog W 0 (fun _ => true) true Tryd.f5.params.toList args.toList ds p := hA0
  rw [Tryd.params5] at hA hval hsz
  obtain ⟨v0, vs0, d0, ds0, p0, q0, hargs, rfl, rfl, h0, r0⟩ := trodAll_cons hA
  obtain ⟨v1, vs1, d1, ds1, p1, q1, rfl, rfl, rfl, h1, r1⟩ := trodAll_cons r0
  obtain ⟨rfl, rfl, rfl⟩ := trodAll_nil r1
  obtain rfl : args = #[v0, v1] := by cases args; simp_all
  obtain ⟨rfl, rfl⟩ := trodVars_none hV
  obtain ⟨a0, rfl, rfl, rfl, w0⟩ := open_string Tryd.underlying9 (hval 0 9 v0 rfl rfl) h0
  have z0 : a0.size ≤ 140737488355328 := by
    have h1 := sized_string hsz (j := 0) (t := 9) rfl rfl
    have h2 := reachBytes_lt
    have e1 : a0.size = a0.data.size := rfl
    have e2 : a0.data.toList.length = a0.data.size := Array.length_toList
    have e3 : (2 : Nat) ^ 47 = 140737488355328 := by decide
    omega
  obtain ⟨a1, rfl, rfl, rfl, w1⟩ := open_int Tryd.underlying3 (hval 1 3 v1 rfl rfl) h1
  clear hA0 hval0
  simp only [List.append_nil] at hW'
  refine (walk a0 z0 a1 w1 W (Good.of_laid hL)).mono fun e W' ⟨he, hnx⟩ => ?_
  subst he
  refine ⟨_, rfl, _, _, _, [], [], [], hW', ?_, ?_, rfl, Below.frame hnx _, fun h => by cases h⟩
  · exact (trodAll_cons_mk (shut_bool Tryd.underlying4 _) trodAll_mk0)
  · exact (trodAll_cons_mk (shut_string Tryd.underlying9 w0) (trodAll_cons_mk (shut_int Tryd.underlying3 w1) trodAll_mk0))

theorem over : Rows.lexGapsRow.holds Tryd.pinned (OpenSpec.ofChange Rows.lexGapsSpec) :=
  OpenClaim.holds_of_wide 5 Tryd.f5 rfl rfl rfl rfl rfl rfl rfl ⟨rfl, rfl, rfl, rfl, rfl⟩ rfl rfl rfl rfl rfl (by kernel_rfl) Tryd.func5 (by kernel_rfl)
    (of_decide_eq_true (by kernel_rfl)) (by unfold Func.isWrapper; first | (rw [if_pos (by decide +kernel)]; kernel_rfl) | (rw [if_neg (by decide +kernel)]; exact ⟨rfl, rfl⟩))
    (fun os started H enc _ => lifted os started H enc)

end Go.Proofs.YtakpgccemfhjbaaDoor.lexGaps

namespace Go.Proofs.YtakpgccemfhjbaaDoor
open Go
/-- The statement: the row, with its listed variables tied to the program's text. -/
theorem lexGaps_holds : Rows.LexGapsCardSaid :=
  Claim7.holds_tied_plain_at .later [] [.data, .data, .data, .data, .sentinel, .sentinel, .pinned] true Rows.lexGapsCard.stood.harness true
    lexGaps.over (fun _ h => by cases h) (by kernel_rfl) (fun _ h => by cases h) lexGaps_row_tie rfl ⟨rfl, rfl⟩ (by kernel_rfl) rfl
    (fun f fn hf hfn => by
      obtain rfl : f = 5 := Option.some.inj ((show Tryd.prog.funcNamed Rows.lexGapsRow.func = some 5 by kernel_rfl).symm.trans hf) |>.symm
      obtain rfl : fn = Tryd.f5 := (Option.some.inj (Tryd.func5.symm.trans hfn)).symm
      exact ⟨by kernel_rfl, fun j t ht => by
        rw [Tryd.params5] at ht
        have hm : t ∈ [9, 3] := by simpa using Array.mem_of_getElem? ht
        have hall : ([9, 3].all fun u => !Tryd.prog.wantsStandIn u) = true := by kernel_rfl
        exact (show Tryd.prog.wantsStandIn t = false by simpa using List.all_eq_true.1 hall t hm)⟩)
    (by kernel_rfl)
#print axioms lexGaps_holds
end Go.Proofs.YtakpgccemfhjbaaDoor
