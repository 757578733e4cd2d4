/-
  Proved: for every text LexStand returns true: each token's text stands in the text's first 400 bytes at its line and column, one behind the other; the argument reads as before. The listed package variables stand as the program's text lays them (tied). Conditions: none besides.
-/
import Derived.Test.YtakpgccemfhjbaaDoorRows
import Derived.Test.YtakpgccemfhjbaaDoorCards
import Derived.Test.YtakpgccemfhjbaaDoorTie
import Derived.Test.YtakpgccemfhjbaaDoorLaid
import Derived.Test.YtakpgccemfhjbaaDoorLexAlive
import Derived.Test.YtakpgccemfhjbaaDoorLexFacts
import Derived.Test.YtakpgccemfhjbaaDoorRefEnd
import Derived.RegionTactic
import Derived.Deep.CutRange
import Derived.WalkKit
import Derived.ProofKit
import Derived.OpenShut
import Derived.SizedLaws
import Derived.ShutString
import Derived.Stop.Joined
import Derived.SevenTiedAt
namespace Go.Proofs.YtakpgccemfhjbaaDoor.lexStand
open Go.ChangeShapes Go.WideShapes Go.ChangeAt Go.RowKit
open Go.ChangeMaps (open_string shut_string)
set_option linter.unusedVariables false

theorem own : ownKnob Tryd.prog.godebug = none := by kernel_rfl

set_option maxRecDepth 1000000 in
set_option maxHeartbeats 4000000 in
theorem walk (a0 : ByteArray) (z0 : a0.size ≤ 140737488355328) (w : World) (g : Good w) :
    Calls Tryd.prog 7 #[.string a0] w fun e w' => e = .returned (.bool true) ∧ Later w w' := by
  have go : ∀ {w'}, Later w w' → Good w' := fun h => g.later h
  have c8 := fun w' => short400_any a0 z0 w'
  have hS := short_size 400 a0
  generalize short 400 a0 = S at *
  have cT : ∀ w', Good w' → _ := fun w' (g' : Good w') => tokens_any S (by omega) w' g'
  have cS := fun w' => refSpots_any S (by omega) w'
  have hah := tokens_ahead S
  have hst := tokens_stand S
  have hfound := @Stands.found S
  have hlen := spots_len S
  have hlenS : (spots S).length ≤ 1000 := by rw [hlen]; have := bytes_le S (marks S.data.toList) [] (by simp); omega
  generalize tokens S = o at *
  cases o with
  | error p =>
    obtain ⟨k, l, c⟩ := p
    obtain ⟨A, x, B, -, -, hk0, -⟩ := hah k l c rfl
    have hkz : ((k : Int) != 0) = true := by simp only [bne_iff_ne, ne_eq]; omega
    clear hah cS hst hlen hfound
    go_enter Tryd.func7, Tryd.ntmps7
    go_upto_region 3 with (first
      | (go_at_call 8; refine (c8 _).mono ?_; rintro e w1 ⟨rfl, hl1⟩)
      | (go_at_call 9; apply Calls.mono; (focus (with_reducible (exact cT _ (go hl1)))); rintro e w2 ⟨hres, hl2⟩; obtain rfl : e = _ := hres))
    obtain ⟨c0, c1, c2, -, -, -⟩ := box3_facts (at_new w2 (.cells #[.int .i64 (k : Nat), .int .i64 (l : Nat), .int .i64 (c : Nat)] 26))
    have L3 := Later.alloc (Later.trans hl1 hl2) (.cells #[.int .i64 (k : Nat), .int .i64 (l : Nat), .int .i64 (c : Nat)] 26)
    generalize w2.alloc (.cells #[.int .i64 (k : Nat), .int .i64 (l : Nat), .int .i64 (c : Nat)] 26) = W3 at *
    go_wp2_with (go_at_call 12; refine (alive_any _ (go L3)).mono ?_; rintro e w4 ⟨rfl, hl4⟩)
    go_ret
    exact ⟨rfl, Later.trans L3 hl4⟩
  | ok T =>
    have hst0 := hst T rfl
    obtain ⟨T0, tl, hTT, htk, htt⟩ := hst0.last
    have hTl : T.length = T0.length + 1 := by rw [hTT]; simp
    have htl : T[T0.length]? = some tl := by rw [hTT]; simp
    have hn0 : T0.length ≤ 1000000 := by
      have := hst0.len
      rw [← hlen] at this
      simp at this
      omega
    have cT2 : ∀ w', Good w' → Calls Tryd.prog 9 #[.string S] w' fun e w'' => (∃ a cap, e = .returned (.tuple #[.slice a (T0.length + 1 : Nat) cap, .agg #[.int .i64 0, .int .i64 0, .int .i64 0]]) ∧ CRow w'' a (flatC Tok.cells T)) ∧ Later w' w'' := fun w' g' => by
      rw [← hTl]; exact cT w' g'
    generalize marks S.data.toList = MM at *
    have HTl : Hid (T.length = T0.length + 1) := hTl
    clear hah hst cT hTT hTl hlen
    generalize T0.length = n0 at *
    go_enter Tryd.func7, Tryd.ntmps7
    go_upto_region 3 with (first
      | (go_at_call 8; refine (c8 _).mono ?_; rintro e w1 ⟨rfl, hl1⟩)
      | (go_at_call 9; apply Calls.mono; (focus (with_reducible (exact cT2 _ (go hl1)))); rintro e w2 ⟨⟨a, cap, rfl, hrow0⟩, hl2⟩))
    obtain ⟨c0, c1, c2, -, -, -⟩ := box3_facts (at_new w2 (.cells #[.int .i64 0, .int .i64 0, .int .i64 0] 26))
    have hrowx := hrow0.later (Later.alloc (Later.refl w2) (.cells #[.int .i64 0, .int .i64 0, .int .i64 0] 26))
    have L3 := Later.alloc (Later.trans hl1 hl2) (.cells #[.int .i64 0, .int .i64 0, .int .i64 0] 26)
    clear hrow0
    generalize w2.alloc (.cells #[.int .i64 0, .int .i64 0, .int .i64 0] 26) = W3 at *
    go_wp2_with (go_at_call 16; refine (cS _).mono ?_; rintro e w4 ⟨⟨b, capb, rfl, hrowS⟩, hl4⟩; have hrowT := hrowx.later hl4; have L4 := Later.trans L3 hl4)
    clear hrowx c0 c1 c2
    obtain ⟨gt, rfl, -⟩ := tok_get hrowT htl
    go_loopw [6, 7, 8] (fun va vk vi wr => ∃ (i k p : Nat), va = .int .i64 (p : Nat) ∧ vk = .int .i64 (k : Nat) ∧ vi = .int .i64 (i : Nat) ∧ Later w4 wr ∧ i ≤ n0 + 1 ∧ k ≤ (spots S).length ∧ p ≤ S.size ∧ Hid ((i < n0 + 1 ∧ ∃ A, Stands MM A (T.drop i) ∧ p = (bytes A).length ∧ k ≤ A.length) ∨ (i = n0 + 1 ∧ p = S.size))) (fun _ _ vi _ => n0 + 1 - (intOf vi).toNat)
    case atStart => exact ⟨0, 0, 0, rfl, rfl, rfl, Later.refl _, by omega, by omega, by omega, Or.inl ⟨by omega, [], by simpa using hst0, rfl, by simp⟩⟩
    case round =>
      clear hst0
      obtain ⟨i, k, p, rfl, rfl, rfl, hlw, hi, hkL, hpS, HI⟩ := hrel
      by_cases hin : i < n0 + 1
      · obtain ⟨A, hsA, rfl, hkA⟩ : ∃ A, Stands MM A (T.drop i) ∧ p = (bytes A).length ∧ k ≤ A.length := by
          rcases HI.out with h | h
          · exact h.2
          · omega
        obtain ⟨t, ht⟩ : ∃ t, T[i]? = some t := ⟨_, List.getElem?_eq_getElem (by rw [HTl.out]; exact hin)⟩
        have hd : T.drop i = t :: T.drop (i + 1) := by
          obtain ⟨h1, h2⟩ := List.getElem?_eq_some_iff.1 ht
          rw [List.drop_eq_getElem_cons h1, h2]
        rw [hd] at hsA
        obtain ⟨m, here, hF, hnext⟩ := hfound hsA
        have hI2 : Hid ((i + 1 < n0 + 1 ∧ ∃ A1, Stands MM A1 (T.drop (i + 1)) ∧ here + t.text.size = (bytes A1).length ∧ m ≤ A1.length) ∨ (i + 1 = n0 + 1 ∧ here + t.text.size = S.size)) := by
          rcases hnext with ⟨h1, h2, -, -⟩ | ⟨h1, A1, h2, h3, h4⟩
          · right
            have := congrArg List.length h1
            rw [List.length_drop, HTl.out] at this
            simp at this
            exact ⟨by omega, h2⟩
          · left
            refine ⟨?_, A1, h4, h2, h3⟩
            have : T.drop (i + 1) ≠ [] := h1
            have := List.length_pos_iff.2 this
            rw [List.length_drop, HTl.out] at this
            omega
        obtain ⟨fl, fh, fo, fa, fe, fle, ff, ft⟩ := hF
        have q1 : (i : Int) < (n0 : Int) + 1 := by omega
        generalize (bytes A).length = pa at *
        clear hsA hnext hd HI hfound
        generalize spots S = L at *
        generalize htx : t.text = tx at *
        go_wp2
        go_loopw [7] (fun vk wr' => ∃ (kk : Nat), vk = .int .i64 (kk : Nat) ∧ Later w4 wr' ∧ kk ≤ m) (fun vk _ => L.length + 1 - (intOf vk).toNat)
        case atStart => exact ⟨k, rfl, hlw, by omega⟩
        case round =>
          obtain ⟨kk, rfl, hlk, hkm⟩ := hrel
          obtain ⟨g2, hg2, -, u1, u2, u3⟩ := tok_get (hrowT.later hlk) ht
          cases hg2
          rw [htx] at u3
          by_cases hkk : kk < m
          · obtain ⟨y, hy, hne⟩ := fo kk hkk
            obtain ⟨gg, rfl, -, -, -, p3, p4, -⟩ := (hrowS.later hlk).get hy
            have hkk2 : (kk : Int) < (L.length : Int) := by omega
            clear hy fo fa fe hrowS hrowT hI2
            generalize y.line = yl at *
            generalize y.col = yc at *
            generalize t.line = tl1 at *
            generalize t.col = tc1 at *
            by_cases hyl : yl = tl1
            · subst hyl
              have hyl' : ((yl : Int) != (yl : Int)) = false := by simp
              have hyc : ((yc : Int) != (tc1 : Int)) = true := by simp only [bne_iff_ne, ne_eq]; omega
              go_wp2
              go_quiet (fail)
              go_wp2
              go_roundw
              case rel => exact ⟨kk + 1, by go_num, Later.drewN hlk _, by omega⟩
              case measure => simp [intOf]; omega
            · have hyl' : ((yl : Int) != (tl1 : Int)) = true := by simp only [bne_iff_ne, ne_eq]; omega
              go_wp2
              go_quiet (fail)
              go_wp2
              go_roundw
              case rel => exact ⟨kk + 1, by go_num, Later.drewN hlk _, by omega⟩
              case measure => simp [intOf]; omega
          · obtain rfl : kk = m := by omega
            have s1 : decide ((here : Int) < (pa : Int)) = false := by simp; omega
            have s1n : decide (here < pa) = false := by simp; omega
            have s2 : decide ((S.size : Int) - (here : Int) < (tx.size : Int)) = false := by simp; omega
            have s2' : decide ((tx.size : Int) > (S.size : Int) - (here : Int)) = false := by simp; omega
            have s3 : (here : Int) + (tx.size : Int) ≤ (S.size : Int) := by omega
            have s4 : ((here : Int) + (tx.size : Int)).toNat = here + tx.size := by omega
            have s5 : (here : Int) ≤ (here : Int) + (tx.size : Int) := by omega
            have s6 : (tx.toList != tx.toList) = false := by simp
            by_cases hml : kk < L.length
            · obtain ⟨y, hy, e1, e2, e3⟩ := fa hml
              obtain ⟨gg, rfl, -, p1, -, p3, p4, -⟩ := (hrowS.later hlk).get hy
              rw [e1] at p3
              rw [e2] at p4
              rw [e3] at p1
              have hml2 : (kk : Int) < (L.length : Int) := by omega
              clear hy fo fa fe hrowS hrowT
              generalize t.line = tl1 at *
              generalize t.col = tc1 at *
              have z1 : ((tl1 : Int) != (tl1 : Int)) = false := by simp
              have z2 : ((tc1 : Int) != (tc1 : Int)) = false := by simp
              go_wp2
              go_quiet (fail)
              have L9 : Later w4 (wr.drewN nq) := Later.drewN hlk nq
              have v3 : (wr.drewN nq).cell? ⟨gt, i * 4 + 3, none⟩ = _ := u3
              have v1 : (wr.drewN nq).cell? ⟨gg, kk * 6 + 1, none⟩ = _ := p1
              generalize wr.drewN nq = W9 at *
              go_wp2
              go_quiet (fail)
              have L10 : Later w4 (W9.drewN nq) := Later.drewN L9 nq
              have v4 : (W9.drewN nq).cell? ⟨gt, i * 4 + 3, none⟩ = _ := v3
              generalize W9.drewN nq = W10 at *
              go_wp2
              go_roundw
              case rel => exact ⟨i + 1, kk, here + tx.size, by go_num, by go_num, by go_num, L10, by omega, by omega, by omega, hI2⟩
              case measure => simp [intOf]; omega
            · have hme : kk = L.length := by omega
              have hhere := fe hme
              have hml2 : decide ((kk : Int) < (L.length : Int)) = false := by simp; omega
              have hml3 : ¬ (kk : Int) < (L.length : Int) := by omega
              clear fo fa fe hrowS hrowT hme
              subst hhere
              have s7 : decide ((0 : Int) < (tx.size : Int)) = false := decide_eq_false (by omega)
              have s7n : decide (0 < tx.size) = false := decide_eq_false (by omega)
              go_wp2
              go_quiet (fail)
              have L9 : Later w4 (wr.drewN nq) := Later.drewN hlk nq
              have v3 : (wr.drewN nq).cell? ⟨gt, i * 4 + 3, none⟩ = _ := u3
              generalize wr.drewN nq = W9 at *
              go_wp2
              go_quiet (fail)
              have L10 : Later w4 (W9.drewN nq) := Later.drewN L9 nq
              have v4 : (W9.drewN nq).cell? ⟨gt, i * 4 + 3, none⟩ = _ := v3
              generalize W9.drewN nq = W10 at *
              go_wp2
              go_roundw
              case rel => exact ⟨i + 1, kk, S.size + tx.size, by go_num, by go_num, by go_num, L10, by omega, by omega, by omega, hI2⟩
              case measure => simp [intOf]; omega
      · obtain rfl : i = n0 + 1 := by omega
        have hpe : p = S.size := by
          rcases HI.out with h | h
          · omega
          · exact h.2
        subst hpe
        obtain ⟨g2, hg2, t0, -, -, t3⟩ := tok_get (hrowT.later hlw) htl
        cases hg2
        rw [htk] at t0
        rw [htt, show ofL [] = ⟨#[]⟩ from rfl] at t3
        clear HI hfound hrowS hrowT
        have y1 : (n0 : Int) < (n0 : Int) + 1 := by omega
        have y2 : (0 : Int) < (n0 : Int) + 1 := by omega
        have y3 : ¬ ((n0 : Int) + 1 < (n0 : Int) + 1) := by omega
        go_wp2_with (go_at_call 12; refine (alive_any _ (go (Later.trans L4 hlw))).mono ?_; rintro e w8 ⟨rfl, hl8⟩)
        go_ret
        exact ⟨by simp, Later.trans (Later.trans L4 hlw) hl8⟩

set_option maxRecDepth 100000 in
theorem lifted (os : Os) (started : os.Started) (H : Type) (enc : TypeId × Value → H) :
    ReturnsInHanded {} Tryd.checked os 7 .any (fun w args => (Rows.lexStandSpec.pre enc Tryd.prog Tryd.f7 [] false w args ∧ laidMetH Tryd.prog theList w) ∧ sizedMet enc Tryd.prog Tryd.f7 (OpenSpec.ofChange Rows.lexStandSpec) false w args)
      (Rows.lexStandSpec.post enc Tryd.prog Tryd.f7 false true false false) := by
  refine returnsInHanded_of_change_and (C := Tryd.checked) (X := fun w _ => laidMetH Tryd.prog theList w) (fun _ _ _ hh h => h.of_heap hh) own started (by kernel_rfl) Tryd.func7
    (ChangeSpec.witness_shaped (enc := enc) (C := Tryd.checked) (os := os) (X := fun w _ => laidMetH Tryd.prog theList w) false (World.laidAll Tryd.prog os theList) #[.string ⟨#[]⟩] 8 (World.laidAll_os _ _ _) (World.shaped_of_ZipB (by kernel_rfl) (by kernel_rfl)) (by kernel_rfl) (by kernel_rfl) (by kernel_rfl) (door_met os _)) ?_
  intro W base args ds gs before hval0 hW _ hsz0 hL _
  have hsz : (DataW.weightsEach Tryd.prog (Tryd.f7.params.toList ++ Rows.lexStandSpec.plain.varTypes Tryd.prog) (ds ++ gs)).all (· ≤ reachBytes) = true := hsz0
  clear hsz0
  have hval : ∀ (j : Nat) t v, Tryd.f7.params[j]? = some t → args[j]? = some v → Value.okWide Tryd.prog W .any base t v := hval0
  have hW' := hW
  obtain ⟨p, q, hA0, hV, rfl, hfz, hnd⟩ := hW
  have hA : DataW.TrodAll enc Tryd.prog W 0 (fun _ => true) true Tryd.f7.params.toList args.toList ds p := hA0
  rw [Tryd.params7] at hA hval hsz
  obtain ⟨v0, vs0, d0, ds0, p0, q0, hargs, rfl, rfl, h0, r0⟩ := trodAll_cons hA
  obtain ⟨rfl, rfl, rfl⟩ := trodAll_nil r0
  obtain rfl : args = #[v0] := by cases args; simp_all
  obtain ⟨rfl, rfl⟩ := trodVars_none hV
  obtain ⟨a0, rfl, rfl, rfl, w0⟩ := open_string Tryd.underlying9 (hval 0 9 v0 rfl rfl) h0
  have z0 : a0.size ≤ 140737488355328 := by
    have h1 := sized_string hsz (j := 0) (t := 9) rfl rfl
    have h2 := reachBytes_lt
    have e1 : a0.size = a0.data.size := rfl
    have e2 : a0.data.toList.length = a0.data.size := Array.length_toList
    have e3 : (2 : Nat) ^ 47 = 140737488355328 := by decide
    omega
  clear hA0 hval0
  simp only [List.append_nil] at hW'
  refine (walk a0 z0 W (Good.of_laid hL)).mono fun e W' ⟨he, hnx⟩ => ?_
  subst he
  refine ⟨_, rfl, _, _, _, [], [], [], hW', ?_, ?_, rfl, Below.frame hnx _, fun h => by cases h⟩
  · exact (trodAll_cons_mk (shut_bool Tryd.underlying4 _) trodAll_mk0)
  · exact (trodAll_cons_mk (shut_string Tryd.underlying9 w0) trodAll_mk0)

theorem over : Rows.lexStandRow.holds Tryd.pinned (OpenSpec.ofChange Rows.lexStandSpec) :=
  OpenClaim.holds_of_wide 7 Tryd.f7 rfl rfl rfl rfl rfl rfl rfl ⟨rfl, rfl, rfl, rfl, rfl⟩ rfl rfl rfl rfl rfl (by kernel_rfl) Tryd.func7 (by kernel_rfl)
    (of_decide_eq_true (by kernel_rfl)) (by unfold Func.isWrapper; first | (rw [if_pos (by decide +kernel)]; kernel_rfl) | (rw [if_neg (by decide +kernel)]; exact ⟨rfl, rfl⟩))
    (fun os started H enc _ => lifted os started H enc)

end Go.Proofs.YtakpgccemfhjbaaDoor.lexStand

namespace Go.Proofs.YtakpgccemfhjbaaDoor
open Go
/-- The statement: the row, with its listed variables tied to the program's text. -/
theorem lexStand_holds : Rows.LexStandCardSaid :=
  Claim7.holds_tied_plain_at .later [] [.data, .data, .data, .data, .sentinel, .sentinel, .pinned] true Rows.lexStandCard.stood.harness true
    lexStand.over (fun _ h => by cases h) (by kernel_rfl) (fun _ h => by cases h) lexStand_row_tie rfl ⟨rfl, rfl⟩ (by kernel_rfl) rfl
    (fun f fn hf hfn => by
      obtain rfl : f = 7 := Option.some.inj ((show Tryd.prog.funcNamed Rows.lexStandRow.func = some 7 by kernel_rfl).symm.trans hf) |>.symm
      obtain rfl : fn = Tryd.f7 := (Option.some.inj (Tryd.func7.symm.trans hfn)).symm
      exact ⟨by kernel_rfl, fun j t ht => by
        rw [Tryd.params7] at ht
        have hm : t ∈ [9] := by simpa using Array.mem_of_getElem? ht
        have hall : ([9].all fun u => !Tryd.prog.wantsStandIn u) = true := by kernel_rfl
        exact (show Tryd.prog.wantsStandIn t = false by simpa using List.all_eq_true.1 hall t hm)⟩)
    (by kernel_rfl)
#print axioms lexStand_holds
end Go.Proofs.YtakpgccemfhjbaaDoor
