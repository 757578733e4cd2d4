/-
  What show.writeSym writes: a symbol's line. All but the builder stands as it stood. Conditions: the listed tables stand as they are laid; sizes as the theorem names them.
-/
import Derived.Test.YtfgnogdlkhagdaaDoorShowBuild
import Derived.Test.YtfgnogdlkhagdaaDoorShowNum
import Derived.Test.YtfgnogdlkhagdaaDoorShowPlain
import Derived.Test.YtfgnogdlkhagdaaDoorJi
import Derived.Deep.RegionWith
import Derived.Deep.CutRange
namespace Go.Proofs.YtfgnogdlkhagdaaDoor
open Go.RowKit
set_option linter.unusedVariables false
set_option linter.unusedSimpArgs false

/-- What a symbol's line begins with. -/
def symH (s : Sym) : List UInt8 := [115, 121, 109, 32] ++ s.name.data.toList ++ [32] ++ (txt s.size).data.toList
def numsL (L : List Int) : List UInt8 := L.flatMap (fun n => [32] ++ (txt n).data.toList)
theorem symL_eq (s : Sym) (L : List Int) : symL (s, L) = symH s ++ numsL L ++ [10] := rfl
theorem nums_next {L : List Int} {i : Nat} {n : Int} (h : L[i]? = some n) : numsL (L.take (i + 1)) = numsL (L.take i) ++ ([32] ++ (txt n).data.toList) := flatM_next _ h
theorem nums_le (L : List Int) (i : Nat) : (numsL (L.take i)).length ≤ (numsL L).length := flatM_le _ L i

set_option maxRecDepth 1000000 in
set_option maxHeartbeats 4000000 in
theorem writeSym_any (s : Sym) (L : List Int) (b : Nat) (l : List UInt8) (w0 w : World) (hl : Later w0 w) (hG : ShowGood w0) (hI : IntsIn w0 s.init L) (hn : s.name.size ≤ 1000) (hz : I64 s.size) (hb : Bld w0.heap.size b l w) (hlen : l.length + (symL (s, L)).length ≤ 100000000) :
    Calls Tryd.prog 60 #[.pointer (some ⟨b, 0, none⟩), s.val] w fun e w' => e = .returned (.tuple #[]) ∧ Bld w0.heap.size b (l ++ symL (s, L)) w' ∧ Later w0 w' ∧ Others b w w' := by
  have cN := fun w' h => numText_any s.size hz.1 hz.2 w' h
  have sN := txt_size s.size hz.1 hz.2
  obtain ⟨name, size, init⟩ := s
  obtain ⟨p, cap, hin, h1, h2⟩ := RowIn.slice hI
  dsimp only at hin hn hz cN sN hI
  subst hin
  unfold maxLen at h2
  have HI : Hid (IntsIn w0 (.slice p L.length cap) L) := hI
  have HG : Hid (ShowGood w0) := hG
  rw [symL_eq] at hlen ⊢
  have hh : symH ⟨name, size, .slice p L.length cap⟩ = ((⟨#[115, 121, 109, 32]⟩ : ByteArray) ++ name ++ ⟨#[32]⟩ ++ txt size).data.toList := by simp [symH]
  rw [hh] at hlen ⊢
  generalize txt size = X at *
  have hsz : ((⟨#[115, 121, 109, 32]⟩ : ByteArray) ++ name ++ ⟨#[32]⟩ ++ X).data.toList.length = ((⟨#[115, 121, 109, 32]⟩ : ByteArray) ++ name ++ ⟨#[32]⟩ ++ X).size := bytes_size _
  simp only [List.length_append] at hlen
  have hsz2 : l.length + ((⟨#[115, 121, 109, 32]⟩ : ByteArray) ++ name ++ ⟨#[32]⟩ ++ X).size ≤ 1000000000 := by omega
  have cW := fun w' h => write_any w0.heap.size b l ((⟨#[115, 121, 109, 32]⟩ : ByteArray) ++ name ++ ⟨#[32]⟩ ++ X) w' h hsz2
  unfold Sym.val Sym.cells
  dsimp only
  have LL := Later.alloc (Later.refl w) (.cells #[.string name, .int .i64 size, .slice p L.length cap] 57)
  have HB := at_new w (.cells #[.string name, .int .i64 size, .slice p L.length cap] 57)
  clear hG hI hh
  go_enter Tryd.func60, Tryd.ntmps60
  go_upto_region 1 with (fail)
  obtain ⟨b0, b1, b2, -⟩ := box3_facts HB
  have LW := hl.trans LL
  have OW := Later.others (b := b) LL
  have BW := hb.later LL
  generalize w.alloc (.cells #[.string name, .int .i64 size, .slice p L.length cap] 57) = W at *
  generalize hC : w.heap.size = C at *
  have HWN : Hid (Later w0 W ∧ Bld w0.heap.size b l W ∧ Others b w W ∧ W.heap[C]? = some (.cells #[.string name, .int .i64 size, .slice p L.length cap] 57)) := ⟨LW, BW, OW, HB⟩
  go_cut [] from 6 to 15 (fun wc => Hid (Later w0 wc ∧ Bld w0.heap.size b (l ++ ((⟨#[115, 121, 109, 32]⟩ : ByteArray) ++ name ++ ⟨#[32]⟩ ++ X).data.toList) wc ∧ Others b w wc ∧ wc.heap[C]? = some (.cells #[.string name, .int .i64 size, .slice p L.length cap] 57)))
  case first =>
    go_region_with (first
      | (go_at_call 107; apply Calls.mono; (focus (with_reducible (first | exact cN _ (HG.out.later LW) | exact cN _ (HG.out.later LW.drew)))); rintro e w1 ⟨rfl, hl1⟩; have k1 : Later W w1 := (by first | exact hl1 | exact Later.trans (Later.drew (Later.refl _)) hl1); have d0 := cell_later b0 k1; have d1 := cell_later b1 k1; have B1 := BW.later k1)
      | (go_at_call 106; apply Calls.mono; (focus (with_reducible (first | exact cW _ B1 | exact cW _ (B1.later (Later.drew (Later.refl _)))))); rintro e w2 ⟨rfl, h2, h3, h4⟩))
    all_goals go_wp2
    all_goals go_meet
    all_goals exact ⟨Below.trans (LW.trans k1) h3, h2, OW.trans ((Later.others k1).trans h4), Others.box h4 B1 (heap_later k1 HB) (by decide) (by decide)⟩
  case rest =>
    clear HWN LW BW OW HB b0 b1 b2 cW cN LL hb hl
    obtain ⟨LW, BW, OW, HB⟩ := hcut.out
    clear hcut
    obtain ⟨b0, b1, b2, -⟩ := box3_facts HB
    generalize hYe : ((⟨#[115, 121, 109, 32]⟩ : ByteArray) ++ name ++ ⟨#[32]⟩ ++ X).data.toList = Y at *
    have HY : Hid (((⟨#[115, 121, 109, 32]⟩ : ByteArray) ++ name ++ ⟨#[32]⟩ ++ X).data.toList = Y) := hYe
    clear hYe
    have hY : l.length + (Y.length + (numsL L).length + 1) ≤ 100000000 := by simpa using hlen
    clear hlen hsz hsz2 sN hn hz
    go_wp2
    go_loopw [19] (fun vi wr => ∃ (i : Nat), vi = .int .i64 (i : Nat) ∧ i ≤ L.length ∧ Hid (Later w0 wr ∧ Bld w0.heap.size b (l ++ (Y ++ numsL (L.take i))) wr ∧ Others b w wr)) (fun vi _ => L.length - (intOf vi).toNat)
    case atStart => exact ⟨0, rfl, by omega, LW, by simpa [numsL] using BW, OW⟩
    case round =>
      obtain ⟨i, rfl, hi, hrr⟩ := hrel
      obtain ⟨Lr, Br, Or⟩ := hrr.out
      by_cases h8 : i < L.length
      · obtain ⟨n, ht⟩ : ∃ t, L[i]? = some t := ⟨_, List.getElem?_eq_getElem h8⟩
        obtain ⟨g, o, rfl, hn64, hc⟩ := (IntsIn.kept HI.out Lr.kept).get ht
        have cN := fun w' h => numText_any n hn64.1 hn64.2 w' h
        have sN := txt_size n hn64.1 hn64.2
        have e1 := nums_next ht
        have e2 := nums_le L (i + 1)
        rw [e1] at e2
        have hx : numsL (L.take i) ++ ([32] ++ (txt n).data.toList) = numsL (L.take i) ++ ((⟨#[32]⟩ : ByteArray) ++ txt n).data.toList := by simp
        rw [hx] at e1 e2
        have hE : Hid (l ++ (Y ++ numsL (L.take (i + 1))) = (l ++ (Y ++ numsL (L.take i))) ++ ((⟨#[32]⟩ : ByteArray) ++ txt n).data.toList) := by show _ = _; rw [e1]; simp only [List.append_assoc]
        generalize txt n = Z at *
        have sZ : ((⟨#[32]⟩ : ByteArray) ++ Z).data.toList.length = ((⟨#[32]⟩ : ByteArray) ++ Z).size := bytes_size _
        have hlz : (l ++ (Y ++ numsL (L.take i))).length + ((⟨#[32]⟩ : ByteArray) ++ Z).size ≤ 1000000000 := by
          simp only [List.length_append] at e2 ⊢
          omega
        have cW := fun w' h => write_any w0.heap.size b (l ++ (Y ++ numsL (L.take i))) ((⟨#[32]⟩ : ByteArray) ++ Z) w' h hlz
        generalize l ++ (Y ++ numsL (L.take i)) = M at *
        clear e1 e2 hx sZ ht hlz hrr hn64
        go_wp2_with (first
          | (go_at_call 107; apply Calls.mono; (focus (with_reducible (exact cN _ (HG.out.later Lr)))); rintro e w1 ⟨rfl, hl1⟩)
          | (go_at_call 106; apply Calls.mono; (focus (with_reducible (exact cW _ (Br.later hl1)))); rintro e w2 ⟨rfl, h2, h3, h4⟩))
        go_roundw
        case rel => exact ⟨i + 1, by go_num, by omega, Below.trans (Lr.trans hl1) h3, by rw [hE.out]; exact h2, Or.trans ((Later.others hl1).trans h4)⟩
        case measure => simp [intOf]; omega
      · obtain rfl : i = L.length := by omega
        rw [List.take_length] at Br
        have hlz : (l ++ (Y ++ numsL L)).length + (⟨#[10]⟩ : ByteArray).size ≤ 1000000000 := by
          have : (⟨#[10]⟩ : ByteArray).size = 1 := rfl
          simp only [List.length_append]
          omega
        have cW := fun w' h => write_any w0.heap.size b (l ++ (Y ++ numsL L)) (⟨#[10]⟩ : ByteArray) w' h hlz
        have hE : Hid (l ++ (Y ++ numsL L ++ [10]) = l ++ (Y ++ numsL L) ++ (⟨#[10]⟩ : ByteArray).data.toList) := by show _ = _; simp
        generalize l ++ (Y ++ numsL L) = M at *
        clear hrr hlz
        go_wp2_with (go_at_call 106; apply Calls.mono; (focus (with_reducible (exact cW _ Br))); rintro e w2 ⟨rfl, h2, h3, h4⟩)
        (try simp only [Exit.inBlock, Exit.then])
        refine bodyPost_end (results_none rfl _ _ _) rfl ?_
        exact ⟨rfl, by rw [HY.out, hE.out]; exact h2, Below.trans Lr h3, Or.trans h4⟩

end Go.Proofs.YtfgnogdlkhagdaaDoor
