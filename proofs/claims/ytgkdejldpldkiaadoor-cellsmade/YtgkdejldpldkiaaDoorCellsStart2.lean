/-
  What the cells begin with, by package cells: Start; and whether two rows of numbers are one. New blocks at the most. Conditions: the program lies in memory, its texts are short, the words' tables are as listed.
-/
import Derived.Test.YtgkdejldpldkiaaDoorCellsStart
namespace Go.Proofs.YtgkdejldpldkiaaDoor
open Go.RowKit
set_option linter.unusedVariables false
set_option linter.unusedSimpArgs false

/-- One symbol's numbers laid over the zeros behind those of all symbols ahead of it. -/
theorem splice_start {D L : List Int} {N b z : Nat} (hb : D.length = b) (hz : L.length ≤ z) (hN : b + z ≤ N) :
    splice (intsV D ++ intsV (List.replicate (N - b) 0)) b (intsV L) = intsV (D ++ (L ++ List.replicate (z - L.length) 0)) ++ intsV (List.replicate (N - (b + z)) 0) := by
  have hdl : (intsV D).length = b := by rw [intsV_length, hb]
  unfold splice
  rw [List.take_append_of_le_length (by omega), List.take_of_length_le (by omega), intsV_length]
  rw [List.drop_append, List.drop_of_length_le (by omega), hdl, List.nil_append]
  have e : (intsV (List.replicate (N - b) (0 : Int))).drop (b + L.length - b) = intsV (List.replicate (z - L.length) 0) ++ intsV (List.replicate (N - (b + z)) 0) := by
    unfold intsV
    rw [← List.map_drop, ← List.map_append, List.drop_replicate, List.replicate_append_replicate]
    congr 2
    omega
  rw [e, intsV_append, intsV_append, List.append_assoc, List.append_assoc]

theorem ints_src {w : World} {p : Option Addr} {cap : Nat} {L : List Int} (h : IntsIn w (.slice p L.length cap) L) : L ≠ [] → ∃ ad, p = some ad ∧ ∀ j v, (intsV L)[j]? = some v → w.cell? (ad.add j) = some v := by
  intro hn
  obtain ⟨p', cap', e, -, -, h4⟩ := h
  cases e
  obtain ⟨g, o, rfl, h5⟩ := h4 hn
  refine ⟨⟨g, o, none⟩, rfl, fun j v hj => ?_⟩
  unfold intsV at hj
  rw [List.getElem?_map, Option.map_eq_some_iff] at hj
  obtain ⟨a, ha, rfl⟩ := hj
  obtain ⟨cs, ⟨rfl, -⟩, h6⟩ := h5 j a ha
  have := h6 0 _ rfl
  rw [Go.WideShapes.add_plain]
  rwa [Nat.mul_one] at this

theorem ints_one {L : List Int} : ∀ v ∈ intsV L, v.oneCell' = true := by
  intro v hv
  obtain ⟨a, -, rfl⟩ := List.mem_map.1 hv
  rfl

theorem cell_keep {w w' : World} {B j : Nat} {v : Value} (h : w'.heap[B]? = w.heap[B]?) (hc : w.cell? ⟨B, j, none⟩ = some v) : w'.cell? ⟨B, j, none⟩ = some v := by
  unfold World.cell? at hc ⊢
  dsimp only at hc ⊢
  rw [h]; exact hc

set_option maxRecDepth 1000000 in
set_option maxHeartbeats 2000000 in
theorem start_any (u v : Value) (S : Syms) (P : List Thr) (w : World) (hG : NamesGood w) (hS : SymRow w u S) (hP : ThrRow w v P) (f : FineP S P) :
    Calls Tryd.prog 28 #[.agg #[u, v]] w fun e w' => ∃ x, e = .returned x ∧ Later w w' ∧ IntsIn w' x (startF (laidF S P)) := by
  have cL := fun w' hl => laid_any u v S P w' (NamesGood.later hG hl) (hS.kept (Later.kept hl)) (hP.kept (Later.kept hl)) f
  obtain ⟨q, dap, hV, hT⟩ := laid_row P hS
  rw [hV] at cL
  have hz := laid_sized S P
  obtain ⟨p, cap, rfl, h1, h2⟩ := hS.slice
  obtain ⟨p', cap', rfl, h1', h2'⟩ := hP.slice
  have LL := Later.alloc (Later.refl w) (.cells #[.slice p S.length cap, .slice p' P.length cap'] 27)
  obtain ⟨hB0, hB1, -⟩ := box2_facts (at_new w (.cells #[.slice p S.length cap, .slice p' P.length cap'] 27))
  clear hS hP hG f hV
  generalize laidF S P = T at *
  obtain ⟨-, hc, hm⟩ : ∃ (_ : True), T.length ≤ dap ∧ dap ≤ maxLen := by
    obtain ⟨a, b, e, h3, h4⟩ := hT.slice
    cases e
    exact ⟨trivial, h3, h4⟩
  unfold maxLen at hm
  have hfew := hz.few
  have cT := fun w' hl => total_any (.slice q T.length dap) T w' (hT.kept (Later.kept hl)) hz
  have hsum := hz.sum T.length
  rw [List.take_length] at hsum
  obtain ⟨hs0, hs1⟩ := hsum
  obtain ⟨N, hN⟩ : ∃ N : Nat, sumF T = N := ⟨(sumF T).toNat, by omega⟩
  have HT : Hid (SymRow w (.slice q T.length dap) T) := hT
  have HZ : Hid (Sized T) := hz
  have HI : Hid (∀ a ∈ startF T, I64 a) := start_i64 hT
  rw [hN] at cT hs1
  have HN : Hid (sumF T = N) := hN
  have hmk := run_make_row' (P := Tryd.prog) 45 2 (.int .i64 0) 8 Tryd.underlying45 infoInt64 rfl .i64 .i64 N (by omega) (by omega)
  simp only [made_cells] at hmk
  clear hT hz hs0 hN
  generalize hW : w.alloc (.cells #[.slice p S.length cap, .slice p' P.length cap'] 27) = W at *
  go_enter Tryd.func28, Tryd.ntmps28
  go_upto_region 1 with (fail)
  clear hW
  go_wp2_with (first
    | (go_at_call 55; refine (cL _ LL).mono ?_; rintro e w1 ⟨rfl, hl1⟩)
    | (go_at_call 56; refine (cT _ (LL.trans hl1)).mono ?_; rintro e w2 ⟨rfl, hl2⟩))
  have HG0 : Hid ((w2.alloc (.cells (intsV (List.replicate N 0)).toArray 2)).heap[w2.heap.size]? = some (.cells (intsV (startF (T.take 0)) ++ intsV (List.replicate (N - 0) 0)).toArray 2 (0, 0))) := by
    show _ = _
    rw [at_new]
    rfl
  have hlA := Later.alloc (LL.trans (hl1.trans hl2)) (.cells (intsV (List.replicate N 0)).toArray 2)
  have hGw := (LL.trans (hl1.trans hl2)).size
  clear cL cT hmk
  generalize w2.alloc (.cells (intsV (List.replicate N 0)).toArray 2) = W3 at *
  generalize w2.heap.size = G at *
  go_loopw [5, 15] (fun vb vi wr => ∃ (i b : Nat), vi = .int .i64 (i : Nat) ∧ vb = .int .i64 (b : Nat) ∧ i ≤ T.length ∧ Later w wr ∧ b ≤ N ∧ Hid (sumF (T.take i) = b) ∧ Hid (wr.heap[G]? = some (.cells (intsV (startF (T.take i)) ++ intsV (List.replicate (N - b) 0)).toArray 2 (0, 0)))) (fun _ vi _ => T.length - (intOf vi).toNat)
  case atStart => exact ⟨0, 0, rfl, rfl, by omega, hlA, by omega, rfl, HG0⟩
  case round =>
    obtain ⟨i, b, rfl, rfl, hi, hlw, hbN, hF, hH⟩ := hrel
    clear HG0 hlA
    by_cases h8 : i < T.length
    · obtain ⟨⟨x, L⟩, ht⟩ : ∃ t, T[i]? = some t := ⟨_, List.getElem?_eq_getElem (by omega)⟩
      obtain ⟨g, o, rfl, -, -, hin, x0, x1, x2⟩ := (SymRow.kept HT.out hlw.kept).get ht
      obtain ⟨hb0, hb1, hb2⟩ := HZ.out.get ht
      have hmono := sum_mono HZ.out ht
      rw [hF.out, HN.out] at hmono
      obtain ⟨q', dap', hlb, hq1, hq2⟩ := hin.slice
      rw [hlb] at x2 hin
      dsimp only at hb0 hb1 hb2 hmono
      obtain ⟨z, hzz⟩ : ∃ z : Nat, x.size = z := ⟨x.size.toNat, by omega⟩
      rw [hzz] at x1 hb0 hb1 hb2 hmono
      have HX : Hid (x.init = .slice q' L.length dap' ∧ x.size = z) := ⟨hlb, hzz⟩
      have HSN : Hid (sumF (T.take (i + 1)) = ((b + z : Nat) : Int)) := by show _ = _; rw [sum_next ht, hF.out, hzz]; rfl
      have hdl : (startF (T.take i)).length = b := by
        have := start_length (HZ.out.take i).each
        rw [hF.out] at this
        omega
      have HST : Hid (startF (T.take (i + 1)) = startF (T.take i) ++ (L ++ List.replicate (z - L.length) 0)) := by
        show _ = _
        rw [start_next ht]
        unfold cellsOne
        rw [hzz, Int.toNat_natCast]
      have hGlt : G < wr.heap.size := lt_block hH.out
      have HSP : Hid (splice (intsV (startF (T.take i)) ++ intsV (List.replicate (N - b) 0)) b (intsV L) = intsV (startF (T.take i) ++ (L ++ List.replicate (z - L.length) 0)) ++ intsV (List.replicate (N - (b + z)) 0)) := splice_start hdl (by omega) (by omega)
      have hlen : (intsV (startF (T.take i)) ++ intsV (List.replicate (N - b) 0)).length = N := by rw [List.length_append, intsV_length, intsV_length, hdl, List.length_replicate]; omega
      have hmono2 : b + z ≤ N := by omega
      clear ht HT HZ hF hlb hzz HI hdl
      generalize intsV (startF (T.take i)) ++ intsV (List.replicate (N - b) 0) = CUR at *
      go_upto_region 7 with (fail)
      obtain ⟨y0, y1, y2, -⟩ := box3_facts (at_new wr (.cells #[.string x.name, .int .i64 z, .slice q' L.length dap'] 47))
      have hY := at_new wr (.cells #[.string x.name, .int .i64 z, .slice q' L.length dap'] 47)
      have hHA : Hid ((wr.alloc (.cells #[.string x.name, .int .i64 z, .slice q' L.length dap'] 47)).heap[G]? = some (.cells CUR.toArray 2 (0, 0))) := heap_later (Later.alloc (Later.refl wr) _) hH.out
      have hIN : Hid (L ≠ [] → ∃ ad, q' = some ad ∧ ∀ j v, (intsV L)[j]? = some v → (wr.alloc (.cells #[.string x.name, .int .i64 z, .slice q' L.length dap'] 47)).cell? (ad.add j) = some v) := ints_src (IntsIn.kept hin (Later.alloc (Later.refl wr) _).kept)
      have hl5 := Later.alloc hlw (.cells #[.string x.name, .int .i64 z, .slice q' L.length dap'] 47)
      have hne : G ≠ wr.heap.size := by omega
      clear hH hin hlw
      generalize wr.alloc (.cells #[.string x.name, .int .i64 z, .slice q' L.length dap'] 47) = W5 at *
      generalize wr.heap.size = B5 at *
      go_region_law (refine step_copy_here rfl (.tmp 21) (.tmp 23) 45 45 rfl 2 Tryd.underlying45 sizeInt64 G b q' (N - b) (N - b) L.length dap' (by simp [Act.eval, Act.put]; omega) (by simp [Act.eval, Act.put]) CUR 2 hHA.out (intsV L) (intsV_length L) (by omega) (fun h0 => hIN.out (by rintro rfl; exact h0 rfl)) (by rw [intsV_length]; omega) ints_one ?_; intro w6 hH6 hB6 hK6; have z0 := cell_keep (hK6 B5 (Ne.symm hne)) y0; have z1 := cell_keep (hK6 B5 (Ne.symm hne)) y1)
      have hb6 : b + z ≤ N := hmono2
      have HW6 : Later w w6 := Below.trans (Later.drew hl5) (Below.mono hB6 hGw)
      clear hB6 hK6 hne hHA hIN hl5 y0 y1 y2 hY
      go_wp2
      go_roundw
      case rel => exact ⟨i + 1, b + z, by go_num, by go_num, by omega, HW6, hb6, HSN, (by show _ = _; rw [HST.out, ← HSP.out]; exact hH6.out)⟩
      case measure => simp [intOf]; omega
    · have hall : T.take i = T := List.take_of_length_le (by omega)
      have hbe : b = N := by
        have h5 := hF.out
        rw [hall, HN.out] at h5
        omega
      have hHH := hH.out
      rw [hall, hbe, Nat.sub_self, List.replicate_zero] at hHH
      rw [show intsV ([] : List Int) = [] from rfl, List.append_nil] at hHH
      have hlenT : (startF T).length = N := by
        have := start_length HZ.out.each
        rw [HN.out] at this
        omega
      have HR := ints_of_block hlenT hHH HI.out (by unfold maxLen; omega)
      clear hall hbe hHH hlenT HT HZ hF hH
      go_wp2
      go_ret
      exact ⟨_, rfl, hlw, HR⟩

end Go.Proofs.YtgkdejldpldkiaaDoor
