/-
  What the document's own Tokens returns: the same tokens of a text, or what is wrong with it and where. Nothing that was in memory turns. Conditions: the text has at most 1000000 bytes.
-/
import Derived.Test.YtfgnogdlkhagdaaDoorRefPlain
import Derived.Test.YtfgnogdlkhagdaaDoorRefEnd
import Derived.Test.YtfgnogdlkhagdaaDoorRefRead
import Derived.RegionTactic
import Derived.Deep.CutRange
namespace Go.Proofs.YtfgnogdlkhagdaaDoor
open Go.RowKit
open Go.Lib (decodeL)
set_option linter.unusedVariables false

theorem ten_cast (n : Nat) : ((n : Int) != 10) = (n != 10) := by
  rw [Bool.eq_iff_iff]
  simp only [bne_iff_ne, ne_eq]
  omega

/-- A fault is stored, behind a draw. -/
theorem set3_all {w W : World} {B : Nat} {a b c : Value} {t : TypeId} (hb : W.heap[B]? = some (.cells #[a, b, c] t)) (h : Later w W) (hB : w.heap.size ≤ B) (x y z : Value) :
    ∃ W9, W9 = (((W.setCell ⟨B, 0, none⟩ x).setCell ⟨B, 1, none⟩ y).setCell ⟨B, 2, none⟩ z).drew ∧ W9.cell? ⟨B, 0, none⟩ = some x ∧ W9.cell? ⟨B, 1, none⟩ = some y ∧ W9.cell? ⟨B, 2, none⟩ = some z ∧ Later w W9 := by
  obtain ⟨r0, r1, r2, -, -, -⟩ := box3_facts (box3_stored hb x y z)
  exact ⟨_, rfl, r0, r1, r2, Later.drew (Later.set3 h hB x y z)⟩

set_option maxRecDepth 1000000 in
set_option maxHeartbeats 16000000 in
theorem refTokens_any (s : ByteArray) (hsz : s.size ≤ 1000000) (w : World) :
    Calls Tryd.prog 11 #[.string s] w fun e w' => Tells (tokens s) e w' ∧ Later w w' := by
  obtain ⟨i0, hi, hz0, hz1, hz2⟩ := info_parts Tryd.infoTok
  have cS := fun w' => refSpots_any s hsz w'
  have hlen := spots_len s
  have hall := bytes_le s (marks s.data.toList) [] (by simp)
  have hspl := spot_split s
  have hble := bytes_le s
  have hnext := @Taken.next s
  have hlast := @Taken.last s
  have htext := @Taken.text s
  have hL : (spots s).length ≤ 1000000 := by omega
  have ce := fun w' => refEnd_any s hsz w'
  rw [end_marks] at ce
  have htok : tk [] 0 (marks s.data.toList) 1 1 = tokens s := rfl
  generalize spots s = L at *
  generalize marks s.data.toList = MM at *
  have HLen : Hid (L.length = MM.length) := hlen
  clear hlen hall
  go_enter Tryd.func11, Tryd.ntmps11
  go_wp2_with (go_at_call 36; refine (cS _).mono ?_; rintro e w2 ⟨⟨a, cap, rfl, hrow⟩, hl2⟩)
  have L2 : Later w w2 := Later.trans (Later.alloc (Later.refl _) _) hl2
  have hbox : w2.heap[w.heap.size]? = some (.cells #[.int .i64 0, .int .i64 0, .int .i64 0] 34) := (hl2.block _ (by simp)).trans (at_new w _)
  have hbs := lt_of_block hbox
  clear cS hl2
  go_loopw [5, 6] (fun vt vi wr => ∃ (A B : List Mk) (D : List Tok), vi = .int .i64 (A.length : Nat) ∧ wr.ownsRow w2.heap.size 74 4 vt D.length (flatC Tok.cells D) ∧ Later w2 wr ∧ Hid (MM = A ++ B) ∧ Hid (tk D 0 B (adv 1 1 A).1 (adv 1 1 A).2 = tokens s) ∧ A.length ≤ L.length ∧ D.length ≤ A.length) (fun _ vi _ => L.length - (intOf vi).toNat)
  case atStart => exact ⟨[], MM, [], rfl, World.ownsRow_nil _ _ _ _, Later.refl _, rfl, htok, by simp, by simp⟩
  case round =>
    clear htok
    obtain ⟨A, B, D, rfl, hown, hlw, HM, HT, hAl, hDl⟩ := hrel
    by_cases hlt : A.length < L.length
    · obtain ⟨x, R, rfl⟩ : ∃ x R, B = x :: R := by
        cases B with
        | nil =>
          exfalso
          have := congrArg List.length HM.out
          rw [← HLen.out, List.append_nil] at this
          omega
        | cons x R => exact ⟨x, R, rfl⟩
      have hx := hspl A x R HM.out
      have hAb := hble A (x :: R) HM.out
      obtain ⟨gg, rfl, p0, p1, p2, p3, p4, p5⟩ := (hrow.later hlw).get hx
      obtain ⟨b0, b1, b2, b3, b4, b5⟩ := six_new wr 80 (.int .i32 (x.r : Nat)) (.int .i64 ((bytes A).length : Nat)) (.int .i64 (x.b.length : Nat)) (.int .i64 ((adv 1 1 A).1 : Nat)) (.int .i64 ((adv 1 1 A).2 : Nat)) (.bool x.bad)
      have Lx : Later w2 (wr.alloc (.cells #[.int .i32 (x.r : Nat), .int .i64 ((bytes A).length : Nat), .int .i64 (x.b.length : Nat), .int .i64 ((adv 1 1 A).1 : Nat), .int .i64 ((adv 1 1 A).2 : Nat), .bool x.bad] 80)) := Later.alloc hlw _
      have hownx := hown.alloc (.cells #[.int .i32 (x.r : Nat), .int .i64 ((bytes A).length : Nat), .int .i64 (x.b.length : Nat), .int .i64 ((adv 1 1 A).1 : Nat), .int .i64 ((adv 1 1 A).2 : Nat), .bool x.bad] 80)
      have hq := hlw.size
      go_upto_region 6 with (fail)
      clear p0 p1 p2 p3 p4 p5 hown
      generalize wr.alloc (.cells #[.int .i32 (x.r : Nat), .int .i64 ((bytes A).length : Nat), .int .i64 (x.b.length : Nat), .int .i64 ((adv 1 1 A).1 : Nat), .int .i64 ((adv 1 1 A).2 : Nat), .bool x.bad] 80) = W at *
      have hboxW := (Lx.block _ hbs).trans hbox
      obtain ⟨f0, f1, f2, q0, q1, q2⟩ := box3_facts hboxW
      generalize hl1 : (adv 1 1 A).1 = ln at *
      generalize hc1 : (adv 1 1 A).2 = cl at *
      by_cases hbd : x.bad = true
      · have HO : Hid (tokens s = .bad 1 ln cl) := by
          show _ = _
          rw [← HT.out, tk_bad _ _ _ _ _ _ hbd]
        rw [hbd] at b5
        clear HT HM hownx
        generalize x.r = r at *
        go_wp2
        go_region
        go_wp2
        obtain ⟨W9, hW9, r0, r1, r2, L9⟩ := set3_all hboxW (Later.trans L2 Lx) (Nat.le_refl _) (.int .i64 1) (.int .i64 (ln : Nat)) (.int .i64 (cl : Nat))
        rw [← hW9]
        (try simp only [Exit.inBlock, Exit.then])
        refine bodyPost_ret (by simp [results, Tryd.results11, go_sem, r0, r1, r2]; try rfl) rfl ?_
        refine ⟨?_, L9⟩
        rw [HO.out]
        rfl
      · have hbd0 : x.bad = false := by simpa using hbd
        rw [hbd0] at b5
        have rowW := hrow.later Lx
        have hkind : kindF x.r = if blankF x.r = true then 5 else if x.r = 59 then 5 else if x.r = 10 then 4 else if x.r = 44 ∨ x.r = 91 ∨ x.r = 93 ∨ x.r = 58 then 3 else if letterF x.r = true then 1 else if digitF x.r = true ∨ x.r = 45 then 2 else 0 := rfl
        have cbl := fun w' => refBlank_any (x.r : Nat) w'
        have cle := fun w' => refLetter_any (x.r : Nat) w'
        have cdi := fun w' => refDigit_any (x.r : Nat) w'
        have hbl : blankF x.r = true → x.r = 32 ∨ x.r = 9 := fun h => by simp only [blankF, decide_eq_true_eq] at h; omega
        cases hB : blankF (x.r : Nat) with
        | true =>
          as_aux_lemma =>
            rw [if_pos hB] at hkind
            rw [hB] at cbl
            have hr := hbl hB
            have HK0 := Taken.start (p := wordy) HM.out
            have hrest := HK0.rest (o := tokens s) (by rw [hl1, hc1]; exact HT.out) hbd0 (more_none (by omega) (by omega)) (by rw [hkind]; rfl)
            rw [if_pos hkind] at hrest
            clear HT HM hkind
            generalize hxr : x.r = r at *
            obtain ⟨e, y, he, hy, hya⟩ := hlast HK0
            obtain ⟨tx, tle1, tle2, tsz⟩ := htext HK0
            have hAL := HK0.alen
            obtain rfl : e = A.length := by omega
            have hel : A.length < L.length := (List.getElem?_eq_some_iff.1 hy).1
            obtain ⟨g', hg', -, y1, y2, -, -, -⟩ := rowW.get hy
            cases hg'
            rw [← hya] at tx tle1 tle2
            generalize y.at_ = ya at *
            generalize y.size = yz at *
            have HA : Hid (MM = (A ++ x :: []) ++ R) := by show _ = _; rw [HK0.all]; simp
            have hPl := HK0.le
            have HN : Hid _ := hrest
            clear hrest
            have HK0 : True := trivial
            clear hnext hlast htext hspl hble hbl hrow rowW hy hya
            generalize (bytes A).length = a0 at *
            generalize hTX : ofL (x.b ++ bytes []) = TX at *
            generalize x.b.length = xl at *
            have t1 : (a0 : Int) ≤ (ya : Int) + (yz : Int) := by omega
            have t2 : (ya : Int) + (yz : Int) ≤ (s.size : Int) := by omega
            have t3 : ((ya : Int) + (yz : Int)).toNat = ya + yz := by omega
            have t4 : (A.length : Int) < (L.length : Int) := by omega
            go_wp2_with (first | (go_at_call 37; refine (cbl _).mono ?_; rintro e w' ⟨rfl, h⟩; obtain rfl := h.symm))
            go_quiet (fail)
            have hown3 := ownsC_later hownx (Later.drewN (Later.refl W) nq)
            have L3 : Later w2 (W.drewN nq) := Later.drewN Lx nq
            have hbox3 : (W.drewN nq).heap[w.heap.size]? = _ := hboxW
            have d3 : (W.drewN nq).cell? ⟨wr.heap.size, 3, none⟩ = _ := b3
            have d4 : (W.drewN nq).cell? ⟨wr.heap.size, 4, none⟩ = _ := b4
            generalize W.drewN nq = W3 at hown3 L3 hbox3 d3 d4 ⊢
            clear b0 b1 b2 b3 b4 b5 f0 f1 f2 q0 q1 q2 hboxW hownx
            go_wp2
            go_roundw
            case rel => exact ⟨A ++ x :: [], R, D, by first | (rw [hAL]; done) | (rw [hAL]; go_num), hown3, L3, HA, HN, by omega, by omega⟩
            case measure => simp [intOf]; omega
        | false =>
          rw [if_neg (by rw [hB]; decide)] at hkind
          rw [hB] at cbl
          by_cases h59 : x.r = 59
          · rw [if_pos h59] at hkind
            rw [h59] at b0 cbl
            as_aux_lemma =>
              go_wp2_with (first | (go_at_call 37; refine (cbl _).mono ?_; rintro e w' ⟨rfl, h⟩; obtain rfl := h.symm))
              go_loopw [8] (fun vk wr' => ∃ (kk : Nat) (P Q : List Mk), vk = .int .i64 (kk : Nat) ∧ W = wr' ∧ Hid (Taken MM A x kk P Q (fun y => y.r != 10)) ∧ kk ≤ L.length ∧ A.length < kk) (fun vk _ => L.length - (intOf vk).toNat)
              case atStart => exact ⟨A.length + 1, [], R, by go_num, rfl, Taken.start HM.out, by omega, by omega⟩
              case round =>
                obtain ⟨kk, P, Q, rfl, rfl, HK, hkl, hAk⟩ := hrel
                go_upto_region 13 with (fail)
                go_cut [59] from 48 to 77 (fun v wc => v = .bool (headIs (fun y => y.r != 10) Q) ∧ W = wc)
                case first =>
                  cases Q with
                  | nil =>
                    have hkL : ¬ (kk : Int) < (L.length : Int) := by have := HK.out.none; have := HLen.out; omega
                    go_wp2
                    go_meet
                    case rel => exact ⟨rfl, rfl⟩
                  | cons q Q =>
                    have hq := hnext HK.out
                    have hkL : (kk : Int) < (L.length : Int) := by have := HK.out.lt; have := HLen.out; omega
                    obtain ⟨g', hg', z0, -, -, -, -, -⟩ := rowW.get hq
                    cases hg'
                    go_wp2
                    go_meet
                    case rel => exact ⟨by simp [headIs, ten_cast], rfl⟩
                case rest =>
                  obtain ⟨rfl, rfl⟩ := hcut
                  cases hh : headIs (fun y => y.r != 10) Q with
                  | true =>
                    obtain ⟨q, Q, rfl, hq10⟩ := headIs_true hh
                    have hq := hnext HK.out
                    have hkL : (kk : Int) < (L.length : Int) := by have := HK.out.lt; have := HLen.out; omega
                    obtain ⟨g', hg', z0, z1, z2, z3, z4, z5⟩ := rowW.get hq
                    cases hg'
                    by_cases hqb : q.bad = true
                    · have HO : Hid (tokens s = .bad 1 (adv 1 1 (A ++ x :: P)).1 (adv 1 1 (A ++ x :: P)).2) := by
                        show _ = _
                        rw [← HT.out, HK.out.same HM.out, tk_remark_bad D x P q Q _ _ hbd0 h59 HK.out.good hq10 hqb, ← hl1, ← hc1, adv_snoc]
                      rw [hqb] at z5
                      generalize (adv 1 1 (A ++ x :: P)).1 = l2 at *
                      generalize (adv 1 1 (A ++ x :: P)).2 = c2 at *
                      clear HT HM HK hownx hkind
                      go_wp2
                      go_region
                      go_wp2
                      obtain ⟨W9, hW9, r0, r1, r2, L9⟩ := set3_all hboxW (Later.trans L2 Lx) (Nat.le_refl _) (.int .i64 1) (.int .i64 (l2 : Nat)) (.int .i64 (c2 : Nat))
                      rw [← hW9]
                      (try simp only [Exit.inBlock, Exit.then])
                      refine bodyPost_ret (by simp [results, Tryd.results11, go_sem, r0, r1, r2]; try rfl) rfl ?_
                      refine ⟨?_, L9⟩
                      rw [HO.out]
                      rfl
                    · have hqb0 : q.bad = false := by simpa using hqb
                      rw [hqb0] at z5
                      go_wp2
                      go_roundw
                      case rel => exact ⟨kk + 1, P ++ [q], Q, by go_num, (by first | rfl | trivial), HK.out.more hq10 hqb0, by omega, by omega⟩
                      case measure => simp [intOf]; omega
                  | false =>
                    have HK0 := HK.out
                    have hrest := HK0.rest (o := tokens s) (by rw [hl1, hc1, ← HK0.same HM.out]; exact HT.out) hbd0 (more_remark h59 HK0.good (headIs_false hh)) (by rw [hkind]; rfl)
                    rw [if_pos hkind] at hrest
                    clear HT HM HK hkind
                    as_aux_lemma =>
                      obtain ⟨e, y, he, hy, hya⟩ := hlast HK0
                      obtain ⟨tx, tle1, tle2, tsz⟩ := htext HK0
                      have hAL := HK0.alen
                      subst he
                      have hel : e < L.length := (List.getElem?_eq_some_iff.1 hy).1
                      obtain ⟨g', hg', -, y1, y2, -, -, -⟩ := rowW.get hy
                      cases hg'
                      rw [← hya] at tx tle1 tle2
                      generalize y.at_ = ya at *
                      generalize y.size = yz at *
                      have HA : Hid (MM = (A ++ x :: P) ++ Q) := by show _ = _; rw [HK0.all]; simp
                      have hPl := HK0.le
                      have HN : Hid _ := hrest
                      clear hrest
                      have HK0 : True := trivial
                      clear hnext hlast htext hspl hble hbl hrow rowW hy hya
                      generalize (bytes A).length = a0 at *
                      generalize hTX : ofL (x.b ++ bytes P) = TX at *
                      generalize x.b.length = xl at *
                      have t1 : (a0 : Int) ≤ (ya : Int) + (yz : Int) := by omega
                      have t2 : (ya : Int) + (yz : Int) ≤ (s.size : Int) := by omega
                      have t3 : ((ya : Int) + (yz : Int)).toNat = ya + yz := by omega
                      have t4 : (e : Int) < (L.length : Int) := by omega
                      go_wp2
                      go_quiet (fail)
                      have hown3 := ownsC_later hownx (Later.drewN (Later.refl W) nq)
                      have L3 : Later w2 (W.drewN nq) := Later.drewN Lx nq
                      have hbox3 : (W.drewN nq).heap[w.heap.size]? = _ := hboxW
                      have d3 : (W.drewN nq).cell? ⟨wr.heap.size, 3, none⟩ = _ := b3
                      have d4 : (W.drewN nq).cell? ⟨wr.heap.size, 4, none⟩ = _ := b4
                      generalize W.drewN nq = W3 at hown3 L3 hbox3 d3 d4 ⊢
                      clear b0 b1 b2 b3 b4 b5 f0 f1 f2 q0 q1 q2 hboxW hownx
                      go_wp2
                      go_roundw
                      case rel => exact ⟨A ++ x :: P, Q, D, by first | (rw [hAL]; done) | (rw [hAL]; go_num), hown3, L3, HA, HN, by omega, by omega⟩
                      case measure => simp [intOf]; omega
          · rw [if_neg h59] at hkind
            have d59 : ((x.r : Int) == 59) = false := by simp; omega
            by_cases h10 : x.r = 10
            · rw [if_pos h10] at hkind
              rw [h10] at b0 cbl
              have HK0 := Taken.start (p := wordy) HM.out
              have hrest := HK0.rest (o := tokens s) (by rw [hl1, hc1]; exact HT.out) hbd0 (more_none h59 (by omega)) (by rw [hkind]; rfl)
              rw [hkind, if_neg (by decide), hl1, hc1] at hrest
              clear HT HM hkind
              as_aux_lemma =>
                obtain ⟨e, y, he, hy, hya⟩ := hlast HK0
                obtain ⟨tx, tle1, tle2, tsz⟩ := htext HK0
                have hAL := HK0.alen
                obtain rfl : e = A.length := by omega
                have hel : A.length < L.length := (List.getElem?_eq_some_iff.1 hy).1
                obtain ⟨g', hg', -, y1, y2, -, -, -⟩ := rowW.get hy
                cases hg'
                rw [← hya] at tx tle1 tle2
                generalize y.at_ = ya at *
                generalize y.size = yz at *
                have HA : Hid (MM = (A ++ x :: []) ++ R) := by show _ = _; rw [HK0.all]; simp
                have hPl := HK0.le
                have HN : Hid _ := hrest
                clear hrest
                have HK0 : True := trivial
                clear hnext hlast htext hspl hble hbl hrow rowW hy hya
                generalize (bytes A).length = a0 at *
                generalize hTX : ofL (x.b ++ bytes []) = TX at *
                generalize x.b.length = xl at *
                have t1 : (a0 : Int) ≤ (ya : Int) + (yz : Int) := by omega
                have t2 : (ya : Int) + (yz : Int) ≤ (s.size : Int) := by omega
                have t3 : ((ya : Int) + (yz : Int)).toNat = ya + yz := by omega
                have t4 : (A.length : Int) < (L.length : Int) := by omega
                (try clear d59)
                go_wp2_with (first | (go_at_call 37; refine (cbl _).mono ?_; rintro e w' ⟨rfl, h⟩; obtain rfl := h.symm))
                go_quiet (fail)
                have hown3 := ownsC_later hownx (Later.drewN (Later.refl W) nq)
                have L3 : Later w2 (W.drewN nq) := Later.drewN Lx nq
                have hbox3 : (W.drewN nq).heap[w.heap.size]? = _ := hboxW
                have d3 : (W.drewN nq).cell? ⟨wr.heap.size, 3, none⟩ = _ := b3
                have d4 : (W.drewN nq).cell? ⟨wr.heap.size, 4, none⟩ = _ := b4
                generalize W.drewN nq = W3 at hown3 L3 hbox3 d3 d4 ⊢
                clear b0 b1 b2 b3 b4 b5 f0 f1 f2 q0 q1 q2 hboxW hownx
                go_wp2_with (at_builtin; refine wpList_append_own _ rfl _ _ 31 rfl w2.heap.size 74 i0 (.agg #[.int .i64 0, .int .i64 0, .int .i64 0, .string ⟨#[]⟩]) 4 40 Tryd.underlying31 hi hz0 hz1 hz2 rfl (by decide) _ _ _ rfl (hown3.alloc _) ⟨W3.heap.size, 0, none⟩ 1 1 [.int .i64 4, .int .i64 (ln : Nat), .int .i64 (cl : Nat), .string TX] rfl rfl (four_at _ _ rfl _ _ _ _ _) (fun x hx => by simp at hx; rcases hx with rfl | rfl | rfl | rfl <;> rfl) (by unfold maxLen; omega) (by omega) (by have := L3.size; simp; omega) ?_; intro v' w6 hown' hgrow6 hnil6; have X6 := after_app L3 (Nat.le_refl _) hown3 hgrow6 hown'; clear hown' hgrow6 hnil6)
                go_roundw
                case rel => exact ⟨A ++ x :: [], R, _, by first | (rw [hAL]; done) | (rw [hAL]; go_num), (by rw [List.length_append, flatC_append, flatC_one]; exact X6.out.1), X6.out.2.1, HA, HN, by omega, by simp; omega⟩
                case measure => simp [intOf]; omega
            · rw [if_neg h10] at hkind
              have d10 : ((x.r : Int) == 10) = false := by simp; omega
              by_cases hsg : x.r = 44 ∨ x.r = 91 ∨ x.r = 93 ∨ x.r = 58
              · rw [if_pos hsg] at hkind
                have HK0 := Taken.start (p := wordy) HM.out
                have hrest := HK0.rest (o := tokens s) (by rw [hl1, hc1]; exact HT.out) hbd0 (more_none h59 (by omega)) (by rw [hkind]; rfl)
                rw [hkind, if_neg (by decide), hl1, hc1] at hrest
                clear HT HM hkind
                as_aux_lemma =>
                  go_upto_region 19 with (first | (go_at_call 37; refine (cbl _).mono ?_; rintro e w' ⟨rfl, h⟩; obtain rfl := h.symm))
                  go_cut [82] from 17 to 204 (fun v wc => v = .bool true ∧ W = wc)
                  case first =>
                    rcases hsg with hsg | hsg | hsg | hsg
                    all_goals rw [hsg] at b0
                    all_goals go_wp2
                    all_goals go_meet
                    all_goals exact ⟨rfl, rfl⟩
                  case rest =>
                    obtain ⟨rfl, rfl⟩ := hcut
                    obtain ⟨e, y, he, hy, hya⟩ := hlast HK0
                    obtain ⟨tx, tle1, tle2, tsz⟩ := htext HK0
                    have hAL := HK0.alen
                    obtain rfl : e = A.length := by omega
                    have hel : A.length < L.length := (List.getElem?_eq_some_iff.1 hy).1
                    obtain ⟨g', hg', -, y1, y2, -, -, -⟩ := rowW.get hy
                    cases hg'
                    rw [← hya] at tx tle1 tle2
                    generalize y.at_ = ya at *
                    generalize y.size = yz at *
                    have HA : Hid (MM = (A ++ x :: []) ++ R) := by show _ = _; rw [HK0.all]; simp
                    have hPl := HK0.le
                    have HN : Hid _ := hrest
                    clear hrest
                    have HK0 : True := trivial
                    clear hnext hlast htext hspl hble hbl hrow rowW hy hya
                    generalize (bytes A).length = a0 at *
                    generalize hTX : ofL (x.b ++ bytes []) = TX at *
                    generalize x.b.length = xl at *
                    have t1 : (a0 : Int) ≤ (ya : Int) + (yz : Int) := by omega
                    have t2 : (ya : Int) + (yz : Int) ≤ (s.size : Int) := by omega
                    have t3 : ((ya : Int) + (yz : Int)).toNat = ya + yz := by omega
                    have t4 : (A.length : Int) < (L.length : Int) := by omega
                    go_wp2
                    go_quiet (fail)
                    have hown3 := ownsC_later hownx (Later.drewN (Later.refl W) nq)
                    have L3 : Later w2 (W.drewN nq) := Later.drewN Lx nq
                    have hbox3 : (W.drewN nq).heap[w.heap.size]? = _ := hboxW
                    have d3 : (W.drewN nq).cell? ⟨wr.heap.size, 3, none⟩ = _ := b3
                    have d4 : (W.drewN nq).cell? ⟨wr.heap.size, 4, none⟩ = _ := b4
                    generalize W.drewN nq = W3 at hown3 L3 hbox3 d3 d4 ⊢
                    clear b0 b1 b2 b3 b4 b5 f0 f1 f2 q0 q1 q2 hboxW hownx
                    go_wp2_with (at_builtin; refine wpList_append_own _ rfl _ _ 31 rfl w2.heap.size 74 i0 (.agg #[.int .i64 0, .int .i64 0, .int .i64 0, .string ⟨#[]⟩]) 4 40 Tryd.underlying31 hi hz0 hz1 hz2 rfl (by decide) _ _ _ rfl (hown3.alloc _) ⟨W3.heap.size, 0, none⟩ 1 1 [.int .i64 3, .int .i64 (ln : Nat), .int .i64 (cl : Nat), .string TX] rfl rfl (four_at _ _ rfl _ _ _ _ _) (fun x hx => by simp at hx; rcases hx with rfl | rfl | rfl | rfl <;> rfl) (by unfold maxLen; omega) (by omega) (by have := L3.size; simp; omega) ?_; intro v' w6 hown' hgrow6 hnil6; have X6 := after_app L3 (Nat.le_refl _) hown3 hgrow6 hown'; clear hown' hgrow6 hnil6)
                    go_roundw
                    case rel => exact ⟨A ++ x :: [], R, _, by first | (rw [hAL]; done) | (rw [hAL]; go_num), (by rw [List.length_append, flatC_append, flatC_one]; exact X6.out.1), X6.out.2.1, HA, HN, by omega, by simp; omega⟩
                    case measure => simp [intOf]; omega
              · rw [if_neg hsg] at hkind
                have d44 : ((x.r : Int) == 44) = false := by simp; omega
                have d91 : ((x.r : Int) == 91) = false := by simp; omega
                have d93 : ((x.r : Int) == 93) = false := by simp; omega
                have d58 : ((x.r : Int) == 58) = false := by simp; omega
                by_cases hwd : (letterF x.r = true ∨ digitF x.r = true ∨ x.r = 45)
                · have hk12 : (letterF x.r = true → kindF x.r = 1) ∧ (letterF x.r = false → kindF x.r = 2) := by
                    constructor
                    · intro h; rw [if_pos h] at hkind; exact hkind
                    · intro h
                      rw [h] at hwd
                      rw [if_neg (by rw [h]; decide), if_pos (by simpa using hwd)] at hkind
                      exact hkind
                  clear hkind
                  go_upto_region 21 with (first | (go_at_call 37; refine (cbl _).mono ?_; rintro e w' ⟨rfl, h⟩; obtain rfl := h.symm))
                  go_cut [101] from 17 to 204 (fun v wc => v = .bool true ∧ W = wc)
                  case first =>
                    cases hLe : letterF (x.r : Nat) with
                    | true =>
                      rw [hLe] at cle
                      go_wp2_with (first | (go_at_call 38; refine (cle _).mono ?_; rintro e w' ⟨rfl, h⟩; obtain rfl := h.symm))
                      go_meet
                      case rel => exact ⟨rfl, rfl⟩
                    | false =>
                      rw [hLe] at cle hwd
                      cases hDi : digitF (x.r : Nat) with
                      | true =>
                        rw [hDi] at cdi
                        go_wp2_with (first | (go_at_call 38; refine (cle _).mono ?_; rintro e w' ⟨rfl, h⟩; obtain rfl := h.symm) | (go_at_call 39; refine (cdi _).mono ?_; rintro e w' ⟨rfl, h⟩; obtain rfl := h.symm))
                        go_meet
                        case rel => exact ⟨rfl, rfl⟩
                      | false =>
                        rw [hDi] at cdi hwd
                        have h45 : x.r = 45 := by simpa using hwd
                        rw [h45] at b0 cle cdi
                        go_wp2_with (first | (go_at_call 38; refine (cle _).mono ?_; rintro e w' ⟨rfl, h⟩; obtain rfl := h.symm) | (go_at_call 39; refine (cdi _).mono ?_; rintro e w' ⟨rfl, h⟩; obtain rfl := h.symm))
                        go_meet
                        case rel => exact ⟨rfl, rfl⟩
                  case rest =>
                    obtain ⟨rfl, rfl⟩ := hcut
                    go_wp2
                    go_loopw [8] (fun vk wr' => ∃ (kk : Nat) (P Q : List Mk), vk = .int .i64 (kk : Nat) ∧ W = wr' ∧ Hid (Taken MM A x kk P Q wordy) ∧ kk ≤ L.length ∧ A.length < kk) (fun vk _ => L.length - (intOf vk).toNat)
                    case atStart => exact ⟨A.length + 1, [], R, by go_num, rfl, Taken.start HM.out, by omega, by omega⟩
                    case round =>
                      obtain ⟨kk, P, Q, rfl, rfl, HK, hkl, hAk⟩ := hrel
                      go_upto_region 22 with (fail)
                      go_cut [142] from 115 to 144 (fun v wc => v = .bool (headIs wordy Q) ∧ W = wc)
                      case first =>
                        cases Q with
                        | nil =>
                          have hkL : ¬ (kk : Int) < (L.length : Int) := by have := HK.out.none; have := HLen.out; omega
                          go_wp2
                          go_meet
                          case rel => exact ⟨rfl, rfl⟩
                        | cons q Q =>
                          have hq := hnext HK.out
                          have hkL : (kk : Int) < (L.length : Int) := by have := HK.out.lt; have := HLen.out; omega
                          obtain ⟨g', hg', z0, -, -, -, -, z5⟩ := rowW.get hq
                          cases hg'
                          have cle' := fun w' => refLetter_any (q.r : Nat) w'
                          have cdi' := fun w' => refDigit_any (q.r : Nat) w'
                          have hwq : headIs wordy (q :: Q) = (!q.bad && (letterF q.r || digitF q.r)) := rfl
                          generalize letterF (q.r : Nat) = lq at *
                          generalize digitF (q.r : Nat) = dq at *
                          generalize q.bad = bq at *
                          cases bq <;> cases lq
                          all_goals go_wp2_with (first | (go_at_call 38; refine (cle' _).mono ?_; rintro e w' ⟨rfl, h⟩; obtain rfl := h.symm) | (go_at_call 39; refine (cdi' _).mono ?_; rintro e w' ⟨rfl, h⟩; obtain rfl := h.symm))
                          all_goals go_meet
                          all_goals exact ⟨by rw [hwq]; simp, rfl⟩
                      case rest =>
                        obtain ⟨rfl, rfl⟩ := hcut
                        cases hh : headIs wordy Q with
                        | true =>
                          obtain ⟨q, Q, rfl, hqw⟩ := headIs_true hh
                          have hkL : kk < L.length := by have := HK.out.lt; have := HLen.out; omega
                          go_wp2
                          go_roundw
                          case rel => exact ⟨kk + 1, P ++ [q], Q, by go_num, (by first | rfl | trivial), HK.out.more hqw (wordy_good hqw), by omega, by omega⟩
                          case measure => simp [intOf]; omega
                        | false =>
                          have HK0 := HK.out
                          have hts : tk D 0 (x :: (P ++ Q)) (adv 1 1 A).1 (adv 1 1 A).2 = tokens s := by rw [hl1, hc1, ← HK0.same HM.out]; exact HT.out
                          have hk2 : kindF x.r = 1 ∨ kindF x.r = 2 := by
                            cases hLe : letterF (x.r : Nat) with
                            | true => exact Or.inl (hk12.1 hLe)
                            | false => exact Or.inr (hk12.2 hLe)
                          have hmo := more_word h59 hk2 HK0.good (headIs_false hh)
                          have hrest0 := HK0.rest (o := tokens s) hts hbd0 hmo
                          have hwrong0 := tk_piece_wrong D x P Q (adv 1 1 A).1 (adv 1 1 A).2 hbd0 hmo
                          rw [hts, hl1, hc1] at hwrong0
                          rw [hl1, hc1] at hrest0
                          clear HT HM HK hts hmo hk2
                          cases hLe : letterF (x.r : Nat) with
                          | true =>
                            rw [hLe] at cle
                            have hkk := hk12.1 hLe
                            rw [hkk] at hrest0 hwrong0
                            rw [if_neg (by decide)] at hrest0
                            have hwf : wrongF 1 P.length (x.b ++ bytes P) = if 16 < P.length + 1 then 3 else 0 := rfl
                            by_cases hlong : 16 < P.length + 1
                            · rw [if_pos hlong] at hwf
                              rw [hwf] at hwrong0
                              have HO : Hid _ := hwrong0 (by decide)
                              clear hrest0 hwrong0 hwf hk12 hkk
                              as_aux_lemma =>
                                obtain ⟨e, y, he, hy, hya⟩ := hlast HK0
                                obtain ⟨tx, tle1, tle2, tsz⟩ := htext HK0
                                have hAL := HK0.alen
                                subst he
                                have hel : e < L.length := (List.getElem?_eq_some_iff.1 hy).1
                                obtain ⟨g', hg', -, y1, y2, -, -, -⟩ := rowW.get hy
                                cases hg'
                                rw [← hya] at tx tle1 tle2
                                generalize y.at_ = ya at *
                                generalize y.size = yz at *
                                have HA : Hid (MM = (A ++ x :: P) ++ Q) := by show _ = _; rw [HK0.all]; simp
                                have hPl := HK0.le
                                have HK0 : True := trivial
                                clear hnext hlast htext hspl hble hbl hrow rowW hy hya
                                generalize (bytes A).length = a0 at *
                                generalize hTX : ofL (x.b ++ bytes P) = TX at *
                                generalize x.b.length = xl at *
                                have t1 : (a0 : Int) ≤ (ya : Int) + (yz : Int) := by omega
                                have t2 : (ya : Int) + (yz : Int) ≤ (s.size : Int) := by omega
                                have t3 : ((ya : Int) + (yz : Int)).toNat = ya + yz := by omega
                                have t4 : (e : Int) < (L.length : Int) := by omega
                                go_wp2_with (first | (go_at_call 38; refine (cle _).mono ?_; rintro e w' ⟨rfl, h⟩; obtain rfl := h.symm))
                                go_quiet (fail)
                                have hown3 := ownsC_later hownx (Later.drewN (Later.refl W) nq)
                                have L3 : Later w2 (W.drewN nq) := Later.drewN Lx nq
                                have hbox3 : (W.drewN nq).heap[w.heap.size]? = _ := hboxW
                                have d3 : (W.drewN nq).cell? ⟨wr.heap.size, 3, none⟩ = _ := b3
                                have d4 : (W.drewN nq).cell? ⟨wr.heap.size, 4, none⟩ = _ := b4
                                generalize W.drewN nq = W3 at hown3 L3 hbox3 d3 d4 ⊢
                                clear b0 b1 b2 b3 b4 b5 f0 f1 f2 q0 q1 q2 hboxW hownx
                                have hmany : (16 : Int) < ((e : Int) + 1) - (A.length : Int) := by omega
                                obtain ⟨f0, f1, f2, q0, q1, q2⟩ := box3_facts hbox3
                                go_wp2
                                go_region
                                go_wp2
                                obtain ⟨W9, hW9, r0, r1, r2, L9⟩ := set3_all hbox3 (Later.trans L2 L3) (Nat.le_refl _) (.int .i64 3) (.int .i64 (ln : Nat)) (.int .i64 (cl : Nat))
                                rw [← hW9]
                                (try simp only [Exit.inBlock, Exit.then])
                                refine bodyPost_ret (by simp [results, Tryd.results11, go_sem, r0, r1, r2]; try rfl) rfl ?_
                                refine ⟨?_, L9⟩
                                rw [HO.out]
                                rfl
                            · rw [if_neg hlong] at hwf
                              have hrest := hrest0 hwf
                              clear hrest0 hwrong0 hwf hk12 hkk
                              as_aux_lemma =>
                                obtain ⟨e, y, he, hy, hya⟩ := hlast HK0
                                obtain ⟨tx, tle1, tle2, tsz⟩ := htext HK0
                                have hAL := HK0.alen
                                subst he
                                have hel : e < L.length := (List.getElem?_eq_some_iff.1 hy).1
                                obtain ⟨g', hg', -, y1, y2, -, -, -⟩ := rowW.get hy
                                cases hg'
                                rw [← hya] at tx tle1 tle2
                                generalize y.at_ = ya at *
                                generalize y.size = yz at *
                                have HA : Hid (MM = (A ++ x :: P) ++ Q) := by show _ = _; rw [HK0.all]; simp
                                have hPl := HK0.le
                                have HN : Hid _ := hrest
                                clear hrest
                                have HK0 : True := trivial
                                clear hnext hlast htext hspl hble hbl hrow rowW hy hya
                                generalize (bytes A).length = a0 at *
                                generalize hTX : ofL (x.b ++ bytes P) = TX at *
                                generalize x.b.length = xl at *
                                have t1 : (a0 : Int) ≤ (ya : Int) + (yz : Int) := by omega
                                have t2 : (ya : Int) + (yz : Int) ≤ (s.size : Int) := by omega
                                have t3 : ((ya : Int) + (yz : Int)).toNat = ya + yz := by omega
                                have t4 : (e : Int) < (L.length : Int) := by omega
                                go_wp2_with (first | (go_at_call 38; refine (cle _).mono ?_; rintro e w' ⟨rfl, h⟩; obtain rfl := h.symm))
                                go_quiet (fail)
                                have hown3 := ownsC_later hownx (Later.drewN (Later.refl W) nq)
                                have L3 : Later w2 (W.drewN nq) := Later.drewN Lx nq
                                have hbox3 : (W.drewN nq).heap[w.heap.size]? = _ := hboxW
                                have d3 : (W.drewN nq).cell? ⟨wr.heap.size, 3, none⟩ = _ := b3
                                have d4 : (W.drewN nq).cell? ⟨wr.heap.size, 4, none⟩ = _ := b4
                                generalize W.drewN nq = W3 at hown3 L3 hbox3 d3 d4 ⊢
                                clear b0 b1 b2 b3 b4 b5 f0 f1 f2 q0 q1 q2 hboxW hownx
                                have hfew : ¬ (16 : Int) < ((e : Int) + 1) - (A.length : Int) := by omega
                                go_wp2_with (at_builtin; refine wpList_append_own _ rfl _ _ 31 rfl w2.heap.size 74 i0 (.agg #[.int .i64 0, .int .i64 0, .int .i64 0, .string ⟨#[]⟩]) 4 40 Tryd.underlying31 hi hz0 hz1 hz2 rfl (by decide) _ _ _ rfl (hown3.alloc _) ⟨W3.heap.size, 0, none⟩ 1 1 [.int .i64 1, .int .i64 (ln : Nat), .int .i64 (cl : Nat), .string TX] rfl rfl (four_at _ _ rfl _ _ _ _ _) (fun x hx => by simp at hx; rcases hx with rfl | rfl | rfl | rfl <;> rfl) (by unfold maxLen; omega) (by omega) (by have := L3.size; simp; omega) ?_; intro v' w6 hown' hgrow6 hnil6; have X6 := after_app L3 (Nat.le_refl _) hown3 hgrow6 hown'; clear hown' hgrow6 hnil6)
                                go_roundw
                                case rel => exact ⟨A ++ x :: P, Q, _, by first | (rw [hAL]; done) | (rw [hAL]; go_num), (by rw [List.length_append, flatC_append, flatC_one]; exact X6.out.1), X6.out.2.1, HA, HN, by omega, by simp; omega⟩
                                case measure => simp [intOf]; omega
                          | false =>
                            rw [hLe] at cle
                            have hkk := hk12.2 hLe
                            rw [hkk] at hrest0 hwrong0
                            rw [if_neg (by decide)] at hrest0
                            have hwf : wrongF 2 P.length (x.b ++ bytes P) = if okOf (x.b ++ bytes P) = true then 0 else 2 := rfl
                            have hok0 : okOf (ofL (x.b ++ bytes P)).data.toList = okOf (x.b ++ bytes P) := by rw [ofL_list]
                            by_cases hnum : okOf (x.b ++ bytes P) = true
                            · rw [if_pos hnum] at hwf
                              have hrest := hrest0 hwf
                              have hok := hok0.trans hnum
                              clear hrest0 hwrong0 hwf hk12 hkk hok0
                              as_aux_lemma =>
                                obtain ⟨e, y, he, hy, hya⟩ := hlast HK0
                                obtain ⟨tx, tle1, tle2, tsz⟩ := htext HK0
                                have hAL := HK0.alen
                                subst he
                                have hel : e < L.length := (List.getElem?_eq_some_iff.1 hy).1
                                obtain ⟨g', hg', -, y1, y2, -, -, -⟩ := rowW.get hy
                                cases hg'
                                rw [← hya] at tx tle1 tle2
                                generalize y.at_ = ya at *
                                generalize y.size = yz at *
                                have HA : Hid (MM = (A ++ x :: P) ++ Q) := by show _ = _; rw [HK0.all]; simp
                                have hPl := HK0.le
                                have HN : Hid _ := hrest
                                clear hrest
                                have HK0 : True := trivial
                                clear hnext hlast htext hspl hble hbl hrow rowW hy hya
                                generalize (bytes A).length = a0 at *
                                generalize hTX : ofL (x.b ++ bytes P) = TX at *
                                generalize x.b.length = xl at *
                                have t1 : (a0 : Int) ≤ (ya : Int) + (yz : Int) := by omega
                                have t2 : (ya : Int) + (yz : Int) ≤ (s.size : Int) := by omega
                                have t3 : ((ya : Int) + (yz : Int)).toNat = ya + yz := by omega
                                have t4 : (e : Int) < (L.length : Int) := by omega
                                go_wp2_with (first | (go_at_call 38; refine (cle _).mono ?_; rintro e w' ⟨rfl, h⟩; obtain rfl := h.symm))
                                go_quiet (fail)
                                have hown3 := ownsC_later hownx (Later.drewN (Later.refl W) nq)
                                have L3 : Later w2 (W.drewN nq) := Later.drewN Lx nq
                                have hbox3 : (W.drewN nq).heap[w.heap.size]? = _ := hboxW
                                have d3 : (W.drewN nq).cell? ⟨wr.heap.size, 3, none⟩ = _ := b3
                                have d4 : (W.drewN nq).cell? ⟨wr.heap.size, 4, none⟩ = _ := b4
                                generalize W.drewN nq = W3 at hown3 L3 hbox3 d3 d4 ⊢
                                clear b0 b1 b2 b3 b4 b5 f0 f1 f2 q0 q1 q2 hboxW hownx
                                have cre := fun w' => refRead_any TX (by omega) w'
                                rw [hok] at cre
                                generalize valOf TX.data.toList = vv at *
                                go_wp2_with (first | (go_at_call 40; refine (cre _).mono ?_; rintro e w8 ⟨rfl, hl8⟩; have hown3 := ownsC_later hown3 hl8; have d3 := cell_later d3 hl8; have d4 := cell_later d4 hl8; have L3 := Later.trans L3 hl8) | (at_builtin; refine wpList_append_own _ rfl _ _ 31 rfl w2.heap.size 74 i0 (.agg #[.int .i64 0, .int .i64 0, .int .i64 0, .string ⟨#[]⟩]) 4 40 Tryd.underlying31 hi hz0 hz1 hz2 rfl (by decide) _ _ _ rfl (hown3.alloc _) ⟨w8.heap.size, 0, none⟩ 1 1 [.int .i64 2, .int .i64 (ln : Nat), .int .i64 (cl : Nat), .string TX] rfl rfl (four_at _ _ rfl _ _ _ _ _) (fun x hx => by simp at hx; rcases hx with rfl | rfl | rfl | rfl <;> rfl) (by unfold maxLen; omega) (by omega) (by have := L3.size; simp; omega) ?_; intro v' w6 hown' hgrow6 hnil6; have X6 := after_app L3 (Nat.le_refl _) hown3 hgrow6 hown'; clear hown' hgrow6 hnil6))
                                go_roundw
                                case rel => exact ⟨A ++ x :: P, Q, _, by first | (rw [hAL]; done) | (rw [hAL]; go_num), (by rw [List.length_append, flatC_append, flatC_one]; exact X6.out.1), X6.out.2.1, HA, HN, by omega, by simp; omega⟩
                                case measure => simp [intOf]; omega
                            · rw [if_neg hnum] at hwf
                              rw [hwf] at hwrong0
                              have HO : Hid _ := hwrong0 (by decide)
                              have hok := hok0.trans (Bool.eq_false_iff.2 hnum)
                              clear hrest0 hwrong0 hwf hk12 hkk hok0
                              as_aux_lemma =>
                                obtain ⟨e, y, he, hy, hya⟩ := hlast HK0
                                obtain ⟨tx, tle1, tle2, tsz⟩ := htext HK0
                                have hAL := HK0.alen
                                subst he
                                have hel : e < L.length := (List.getElem?_eq_some_iff.1 hy).1
                                obtain ⟨g', hg', -, y1, y2, -, -, -⟩ := rowW.get hy
                                cases hg'
                                rw [← hya] at tx tle1 tle2
                                generalize y.at_ = ya at *
                                generalize y.size = yz at *
                                have HA : Hid (MM = (A ++ x :: P) ++ Q) := by show _ = _; rw [HK0.all]; simp
                                have hPl := HK0.le
                                have HK0 : True := trivial
                                clear hnext hlast htext hspl hble hbl hrow rowW hy hya
                                generalize (bytes A).length = a0 at *
                                generalize hTX : ofL (x.b ++ bytes P) = TX at *
                                generalize x.b.length = xl at *
                                have t1 : (a0 : Int) ≤ (ya : Int) + (yz : Int) := by omega
                                have t2 : (ya : Int) + (yz : Int) ≤ (s.size : Int) := by omega
                                have t3 : ((ya : Int) + (yz : Int)).toNat = ya + yz := by omega
                                have t4 : (e : Int) < (L.length : Int) := by omega
                                go_wp2_with (first | (go_at_call 38; refine (cle _).mono ?_; rintro e w' ⟨rfl, h⟩; obtain rfl := h.symm))
                                go_quiet (fail)
                                have hown3 := ownsC_later hownx (Later.drewN (Later.refl W) nq)
                                have L3 : Later w2 (W.drewN nq) := Later.drewN Lx nq
                                have hbox3 : (W.drewN nq).heap[w.heap.size]? = _ := hboxW
                                have d3 : (W.drewN nq).cell? ⟨wr.heap.size, 3, none⟩ = _ := b3
                                have d4 : (W.drewN nq).cell? ⟨wr.heap.size, 4, none⟩ = _ := b4
                                generalize W.drewN nq = W3 at hown3 L3 hbox3 d3 d4 ⊢
                                clear b0 b1 b2 b3 b4 b5 f0 f1 f2 q0 q1 q2 hboxW hownx
                                have cre := fun w' => refRead_any TX (by omega) w'
                                rw [hok] at cre
                                generalize valOf TX.data.toList = vv at *
                                go_wp2_with (go_at_call 40; refine (cre _).mono ?_; rintro e w8 ⟨rfl, hl8⟩; have d3 := cell_later d3 hl8; have d4 := cell_later d4 hl8; have L3 := Later.trans L3 hl8; have hbox3 := (hl8.block _ (lt_of_block hbox3)).trans hbox3)
                                obtain ⟨f0, f1, f2, q0, q1, q2⟩ := box3_facts hbox3
                                go_region
                                go_wp2
                                obtain ⟨W9, hW9, r0, r1, r2, L9⟩ := set3_all hbox3 (Later.trans L2 L3) (Nat.le_refl _) (.int .i64 2) (.int .i64 (ln : Nat)) (.int .i64 (cl : Nat))
                                rw [← hW9]
                                (try simp only [Exit.inBlock, Exit.then])
                                refine bodyPost_ret (by simp [results, Tryd.results11, go_sem, r0, r1, r2]; try rfl) rfl ?_
                                refine ⟨?_, L9⟩
                                rw [HO.out]
                                rfl
                · have hk0 : kindF x.r = 0 := by
                    rw [if_neg (by intro h; exact hwd (Or.inl h)), if_neg (by intro h; exact hwd (Or.inr h))] at hkind
                    exact hkind
                  have HO : Hid (tokens s = .bad 1 ln cl) := by
                    show _ = _
                    rw [← HT.out, tk_wrong D x R ln cl hbd0 (by rw [hk0]; simp [wrongF]), hk0]
                    rfl
                  have hLe : letterF (x.r : Nat) = false := Bool.eq_false_iff.2 (fun h => hwd (Or.inl h))
                  have hDi : digitF (x.r : Nat) = false := Bool.eq_false_iff.2 (fun h => hwd (Or.inr (Or.inl h)))
                  have d45 : ((x.r : Int) == 45) = false := by simp; intro h; exact hwd (Or.inr (Or.inr (by omega)))
                  rw [hLe] at cle
                  rw [hDi] at cdi
                  clear HT HM hownx hkind hk0 hwd
                  generalize x.r = r at *
                  go_wp2_with (first | (go_at_call 37; refine (cbl _).mono ?_; rintro e w' ⟨rfl, h⟩; obtain rfl := h.symm) | (go_at_call 38; refine (cle _).mono ?_; rintro e w' ⟨rfl, h⟩; obtain rfl := h.symm) | (go_at_call 39; refine (cdi _).mono ?_; rintro e w' ⟨rfl, h⟩; obtain rfl := h.symm))
                  go_region
                  go_wp2
                  obtain ⟨W9, hW9, r0, r1, r2, L9⟩ := set3_all hboxW (Later.trans L2 Lx) (Nat.le_refl _) (.int .i64 1) (.int .i64 (ln : Nat)) (.int .i64 (cl : Nat))
                  rw [← hW9]
                  (try simp only [Exit.inBlock, Exit.then])
                  refine bodyPost_ret (by simp [results, Tryd.results11, go_sem, r0, r1, r2]; try rfl) rfl ?_
                  refine ⟨?_, L9⟩
                  rw [HO.out]
                  rfl
    · have hB : B = [] := by
        have := congrArg List.length HM.out
        rw [← HLen.out, List.length_append] at this
        exact List.length_eq_zero_iff.1 (by omega)
      subst hB
      have hs := HT.out
      have hm := HM.out
      rw [List.append_nil] at hm
      rw [hm] at ce
      have HO : Hid (tokens s = .ok (D ++ [⟨4, (adv 1 1 A).1, (adv 1 1 A).2, ofL []⟩])) := hs.symm
      have hAl2 : ¬ (A.length : Int) < (L.length : Int) := by omega
      clear hs hm HT HM
      generalize (adv 1 1 A).1 = ln at *
      generalize (adv 1 1 A).2 = cl at *
      go_wp2_with (first
        | (go_at_call 41; refine (ce _).mono ?_; rintro e w7 ⟨rfl, hl7⟩; have L7 := Later.trans hlw hl7; have hown7 := ownsC_later hown hl7; have hbx7 := (L7.block _ hbs).trans hbox)
        | (at_builtin; refine wpList_append_own _ rfl _ _ 31 rfl w2.heap.size 74 i0 (.agg #[.int .i64 0, .int .i64 0, .int .i64 0, .string ⟨#[]⟩]) 4 40 Tryd.underlying31 hi hz0 hz1 hz2 rfl (by decide) _ _ _ rfl (hown7.alloc _) ⟨w7.heap.size, 0, none⟩ 1 1 [.int .i64 4, .int .i64 (ln : Nat), .int .i64 (cl : Nat), .string ⟨#[]⟩] rfl rfl (four_at _ _ rfl _ _ _ _ _) (fun x hx => by simp at hx; rcases hx with rfl | rfl | rfl | rfl <;> rfl) (by unfold maxLen; omega) (by omega) (by have := L7.size; simp; omega) ?_; intro v' w3 hown' hgrow3 hnil3; have X3 := after_app L7 (Nat.le_refl _) hown7 hgrow3 hown'; clear hown' hgrow3 hnil3; have hbx3 := X3.out.2.2 _ _ hbs hbx7; obtain ⟨b0, b1, b2, q0, q1, q2⟩ := box3_facts hbx3))
      obtain ⟨r0, r1, r2, -, -, -⟩ := box3_facts (box3_stored hbx3 (.int .i64 0) (.int .i64 0) (.int .i64 0))
      have L4 := Later.set3 (Later.trans L2 X3.out.2.1) (Nat.le_refl _) (.int .i64 0) (.int .i64 0) (.int .i64 0)
      have HW := Lib.hid (owns_set3 (B := w.heap.size) X3.out.1 hbs (.int .i64 0) (.int .i64 0) (.int .i64 0))
      clear hbx3 X3 b0 b1 b2 q0 q1 q2 hown7 hbx7
      generalize ((w3.setCell ⟨w.heap.size, 0, none⟩ (.int .i64 0)).setCell ⟨w.heap.size, 1, none⟩ (.int .i64 0)).setCell ⟨w.heap.size, 2, none⟩ (.int .i64 0) = W4 at *
      (try simp only [Exit.inBlock, Exit.then])
      refine bodyPost_ret (by simp [results, Tryd.results11, go_sem, r0, r1, r2]; try rfl) rfl ?_
      refine ⟨?_, L4⟩
      rw [HO.out]
      obtain ⟨a, cap, rfl, hrw⟩ := crow_of_owns (by rw [List.length_append, flatC_length Tok.cells 4 Tok.cells_len]; simp; omega) HW.out
      exact ⟨a, cap, by simp, by rw [flatC_append, flatC_one]; exact hrw⟩


end Go.Proofs.YtfgnogdlkhagdaaDoor
