/-
  What show.Prog returns: a program's text. Nothing that was in memory turns. Conditions: the listed tables stand as they are laid; no text of the program has more than 1000 bytes; its whole text has at most 10000000.
-/
import Derived.Test.YtfgnogdlkhagdaaDoorShowSym
import Derived.Test.YtfgnogdlkhagdaaDoorShowThread
import Derived.Test.YtfgnogdlkhagdaaDoorJj
namespace Go.Proofs.YtfgnogdlkhagdaaDoor
open Go.RowKit
set_option linter.unusedVariables false
set_option linter.unusedSimpArgs false

theorem check_small {S : Syms} {P : List Thr} (h : checkC S P = 0) : S.length ≤ 64 ∧ P.length ≤ 64 := by
  unfold checkC at h
  split at h
  · cases h
  · omega

def symsL (S : Syms) : List UInt8 := S.flatMap symL
def thrsL (N : List ByteArray) (P : List Thr) : List UInt8 := P.flatMap (thrL N)
theorem syms_next {S : Syms} {i : Nat} {s : Sym} {L : List Int} (h : S[i]? = some (s, L)) : symsL (S.take (i + 1)) = symsL (S.take i) ++ symL (s, L) := flatM_next _ h
theorem syms_le (S : Syms) (i : Nat) : (symsL (S.take i)).length ≤ (symsL S).length := flatM_le _ S i
theorem thrs_next {N : List ByteArray} {P : List Thr} {i : Nat} {T : Thr} (h : P[i]? = some T) : thrsL N (P.take (i + 1)) = thrsL N (P.take i) ++ thrL N T := flatM_next _ h
theorem thrs_le (N : List ByteArray) (P : List Thr) (i : Nat) : (thrsL N (P.take i)).length ≤ (thrsL N P).length := flatM_le _ P i
theorem progL_yes {S : Syms} {P : List Thr} (h : checkC S P = 0) : progL S P = symsL S ++ thrsL (namesOf S) P := by unfold progL; rw [if_pos h]; rfl
theorem names_fine {S : Syms} (h : FineS S) : ∀ t ∈ namesOf S, t.size ≤ 1000 := by
  intro t ht
  obtain ⟨s, hs, rfl⟩ := List.mem_map.1 ht
  exact h s hs

set_option maxRecDepth 1000000 in
set_option maxHeartbeats 4000000 in
theorem showProg_any (u v : Value) (S : Syms) (P : List Thr) (w : World) (hG : ShowGood w) (hS : SymRow w u S) (hP : ThrRow w v P) (f : FineP S P) (hlen : (progL S P).length ≤ 10000000) :
    Calls Tryd.prog 24 #[.agg #[u, v]] w fun e w' => e = .returned (.string ⟨(progL S P).toArray⟩) ∧ Later w w' := by
  obtain ⟨p, cap, rfl, h1, h2⟩ := hS.slice
  obtain ⟨p', cap', rfl, h1', h2'⟩ := RowIn.slice hP
  unfold maxLen at h2 h2'
  have LL := Later.alloc (Later.refl w) (.cells #[.slice p S.length cap, .slice p' P.length cap'] 28)
  have HB := at_new w (.cells #[.slice p S.length cap, .slice p' P.length cap'] 28)
  have HS : Hid (SymRow w (.slice p S.length cap) S) := hS
  have HP : Hid (ThrRow w (.slice p' P.length cap') P) := hP
  have HG : Hid (ShowGood w) := hG
  have HF : Hid (FineP S P) := f
  have cC := check_any (.slice p S.length cap) (.slice p' P.length cap') S P _ (hG.later LL).names (SymRow.kept hS LL.kept) (ThrRow.kept hP LL.kept) f
  clear hS hP hG f
  by_cases hc : checkC S P = 0
  · have HPL : Hid (progL S P = symsL S ++ thrsL (namesOf S) P) := progL_yes hc
    obtain ⟨h64, h65⟩ := check_small hc
    rw [hc] at cC
    rw [HPL.out, List.length_append] at hlen
    clear hc
    go_enter Tryd.func24, Tryd.ntmps24
    go_upto_region 1 with (fail)
    generalize w.alloc (.cells #[.slice p S.length cap, .slice p' P.length cap'] 28) = W at *
    generalize hC : w.heap.size = C at *
    obtain ⟨b0, b1, -⟩ := box2_facts HB
    go_upto_region 3 with (go_at_call 15; apply Calls.mono; (focus (with_reducible (exact cC))); rintro e w0 ⟨rfl, hl0⟩)
    replace HB := heap_later hl0 HB
    replace LL := LL.trans hl0
    clear b0 b1 cC hl0
    have BF := fresh_bld w0
    have LF := Later.alloc (Later.refl w0) (.cells #[.pointer none, .slice none 0 0] 104)
    replace HS : Hid (SymRow w0 (.slice p S.length cap) S) := SymRow.kept HS.out LL.kept
    replace HP : Hid (ThrRow w0 (.slice p' P.length cap') P) := ThrRow.kept HP.out LL.kept
    replace HG : Hid (ShowGood w0) := HG.out.later LL
    go_upto_region 4 with (fail)
    generalize w0.alloc (.cells #[.pointer none, .slice none 0 0] 104) = W1 at *
    obtain ⟨e0, e1, -⟩ := box2_facts (heap_later LF HB)
    go_wp2
    go_loopw [15] (fun vi wr => ∃ (i : Nat), vi = .int .i64 (i : Nat) ∧ i ≤ S.length ∧ Hid (Later w0 wr ∧ Bld w0.heap.size w0.heap.size (symsL (S.take i)) wr)) (fun vi _ => S.length - (intOf vi).toNat)
    case atStart => exact ⟨0, rfl, by omega, LF, by simpa [symsL] using BF⟩
    case round =>
      clear e0 e1 BF LF
      obtain ⟨i, rfl, hi, hrr⟩ := hrel
      obtain ⟨Lr, Br⟩ := hrr.out
      clear hrr
      by_cases h8 : i < S.length
      · obtain ⟨⟨s, L⟩, ht⟩ : ∃ t, S[i]? = some t := ⟨_, List.getElem?_eq_getElem h8⟩
        have hns : s.name.size ≤ 1000 := HF.out.syms _ (List.mem_of_getElem? ht)
        obtain ⟨g, o, rfl, -, h64s, hin, c0, c1, c2⟩ := SymRow.get HS.out ht
        replace c0 := cell_later c0 Lr
        replace c1 := cell_later c1 Lr
        replace c2 := cell_later c2 Lr
        have e3 := syms_next ht
        have e4 := syms_le S (i + 1)
        rw [e3, List.length_append] at e4
        have cW := fun w' hl hb => writeSym_any s L w0.heap.size (symsL (S.take i)) w0 w' hl HG.out hin hns h64s hb (by omega)
        have HE : Hid (symsL (S.take (i + 1)) = symsL (S.take i) ++ symL (s, L)) := e3
        generalize symsL (S.take i) = M at *
        obtain ⟨name, size, init⟩ := s
        unfold Sym.val Sym.cells at cW
        dsimp only at *
        obtain ⟨q, dap, hlb, -⟩ := RowIn.slice hin
        subst hlb
        have LB := Later.alloc (Later.refl wr) (.cells #[.string name, .int .i64 size, .slice q L.length dap] 57)
        have HX := at_new wr (.cells #[.string name, .int .i64 size, .slice q L.length dap] 57)
        clear e3 e4 ht hin
        go_upto_region 7 with (fail)
        obtain ⟨d0, d1, d2, -⟩ := box3_facts HX
        generalize wr.alloc (.cells #[.string name, .int .i64 size, .slice q L.length dap] 57) = X at *
        go_wp2_with (go_at_call 60; apply Calls.mono; (focus (with_reducible (exact cW _ (Lr.trans LB) (Br.later LB)))); rintro e w2 ⟨rfl, k2, k3, k4⟩)
        go_roundw
        case rel => exact ⟨i + 1, by go_num, by omega, k3, by rw [HE.out]; exact k2⟩
        case measure => simp [intOf]; omega
      · obtain rfl : i = S.length := by omega
        rw [List.take_length] at Br
        obtain ⟨e0, e1, -⟩ := box2_facts (heap_later Lr HB)
        have cN := symNames_any (.slice p S.length cap) S (by omega) wr (SymRow.kept HS.out Lr.kept)
        go_upto_region 10 with (go_at_call 61; apply Calls.mono; (focus (with_reducible (exact cN))); rintro e W5 ⟨vn, rfl, hn5, hl5⟩)
        have L5 := Lr.trans hl5
        have B5 := Br.later hl5
        obtain ⟨an, cn, rfl, -⟩ := hn5.row
        clear e0 e1
        obtain ⟨e0, e1, -⟩ := box2_facts (heap_later L5 HB)
        have hNl : (namesOf S).length ≤ 1000 := by simp [namesOf]; omega
        have hNs := names_fine HF.out.syms
        generalize hN : namesOf S = N at *
        have HN : Hid (namesOf S = N) := hN
        generalize wr.heap.size = D at *
        clear Lr Br hl5 cN hN
        go_wp2
        go_loopw [28] (fun vi wy => ∃ (i : Nat), vi = .int .i64 (i : Nat) ∧ i ≤ P.length ∧ Hid (Later w0 wy ∧ Bld w0.heap.size w0.heap.size (symsL S ++ thrsL N (P.take i)) wy ∧ OwnNames wy D (.slice an N.length cn) N)) (fun vi _ => P.length - (intOf vi).toNat)
        case atStart => exact ⟨0, rfl, by omega, L5, by simpa [thrsL] using B5, hn5⟩
        case round =>
          clear e0 e1 B5 L5 hn5
          obtain ⟨i, rfl, hi, hrr⟩ := hrel
          obtain ⟨wy, rfl⟩ : ∃ wy, wy = wr := ⟨_, rfl⟩
          obtain ⟨Ly, By, Ny⟩ := hrr.out
          clear hrr
          by_cases h9 : i < P.length
          · obtain ⟨T, ht⟩ : ∃ t, P[i]? = some t := ⟨_, List.getElem?_eq_getElem h9⟩
            have hfT := HF.out.threads _ (List.mem_of_getElem? ht)
            obtain ⟨g, o, vt, rfl, hT, c0⟩ := ThrRow.get HP.out ht
            replace c0 := cell_later c0 Ly
            have e3 := thrs_next (N := N) ht
            have e4 := thrs_le N P (i + 1)
            rw [e3, List.length_append] at e4
            have hlz : (symsL S ++ thrsL N (P.take i)).length + (thrL N T).length ≤ 100000000 := by rw [List.length_append]; omega
            have cW := fun w' hl hn hb => writeThread_any vt T hfT.dest hfT.labels N hNl hNs D (.slice an N.length cn) w0.heap.size (symsL S ++ thrsL N (P.take i)) w0 w' hl HG.out hT hn hb hlz
            have HE : Hid (symsL S ++ thrsL N (P.take (i + 1)) = symsL S ++ thrsL N (P.take i) ++ thrL N T) := by show _ = _; rw [e3, List.append_assoc]
            generalize symsL S ++ thrsL N (P.take i) = M at *
            obtain ⟨q, dap, hlb, -⟩ := RowIn.slice hT
            subst hlb
            have LB := Later.alloc (Later.refl wy) (.cells #[.slice q T.length dap] 49)
            have HX := at_new wy (.cells #[.slice q T.length dap] 49)
            have NB : OwnNames _ D (.slice an N.length cn) N := ownsC_later Ny LB
            clear e3 e4 ht hT hfT hlz
            go_upto_region 13 with (fail)
            obtain ⟨d0, -⟩ := box1_facts HX
            generalize wy.alloc (.cells #[.slice q T.length dap] 49) = X at *
            go_wp2_with (go_at_call 62; apply Calls.mono; (focus (with_reducible (exact cW _ (Ly.trans LB) NB (By.later LB)))); rintro e w2 ⟨rfl, k2, k3, k4, k5⟩)
            go_roundw
            case rel => exact ⟨i + 1, by go_num, by omega, k3, by rw [HE.out]; exact k2, k4⟩
            case measure => simp [intOf]; omega
          · obtain rfl : i = P.length := by omega
            rw [List.take_length] at By
            have cS := string_any w0.heap.size w0.heap.size (symsL S ++ thrsL N P) wy By
            have HM : Hid (progL S P = symsL S ++ thrsL N P) := by show _ = _; rw [HPL.out]
            generalize symsL S ++ thrsL N P = M at *
            go_wp2_with (go_at_call 63; apply Calls.mono; (focus (with_reducible (exact cS))); rintro e w2 ⟨rfl, k2⟩)
            go_ret
            exact ⟨by rw [HM.out]; rfl, LL.trans (Below.trans Ly k2)⟩
  · have HPL : Hid (progL S P = []) := by show _ = _; unfold progL; rw [if_neg hc]
    have hc' : (checkC S P != 0) = true := by simpa using hc
    generalize checkC S P = R at *
    clear hc
    go_enter Tryd.func24, Tryd.ntmps24
    go_upto_region 1 with (fail)
    generalize w.alloc (.cells #[.slice p S.length cap, .slice p' P.length cap'] 28) = W at *
    obtain ⟨b0, b1, -⟩ := box2_facts HB
    go_wp2_with (go_at_call 15; apply Calls.mono; (focus (with_reducible (exact cC))); rintro e w0 ⟨rfl, hl0⟩)
    go_ret
    exact ⟨by rw [HPL.out]; rfl, LL.trans hl0⟩

end Go.Proofs.YtfgnogdlkhagdaaDoor
