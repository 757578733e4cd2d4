/-
  What show.writeThread writes: a thread's lines. All but the builder stands as it stood. Conditions: the listed tables stand as they are laid; sizes as the theorem names them.
-/
import Derived.Test.YtfgnogdlkhagdaaDoorShowBuild
import Derived.Test.YtfgnogdlkhagdaaDoorShowIns
import Derived.Test.YtfgnogdlkhagdaaDoorShowRow
namespace Go.Proofs.YtfgnogdlkhagdaaDoor
open Go.RowKit
set_option linter.unusedVariables false
set_option linter.unusedSimpArgs false

def labsL (L : List ByteArray) : List UInt8 := L.flatMap (fun l => l.data.toList ++ [58, 10])
theorem insL_eq (N : List ByteArray) (x : Ins) (L : List ByteArray) : insL N (x, L) = labsL L ++ ([9] ++ (insT x N).data.toList ++ [10]) := rfl
theorem labs_next {L : List ByteArray} {i : Nat} {t : ByteArray} (h : L[i]? = some t) : labsL (L.take (i + 1)) = labsL (L.take i) ++ (t ++ ⟨#[58, 10]⟩ : ByteArray).data.toList := by
  rw [bytes_app]
  exact flatM_next _ h
theorem labs_le (L : List ByteArray) (i : Nat) : (labsL (L.take i)).length ≤ (labsL L).length := flatM_le _ L i
def inssL (N : List ByteArray) (T : Thr) : List UInt8 := T.flatMap (insL N)
theorem thrL_eq (N : List ByteArray) (T : Thr) : thrL N T = [116, 104, 114, 101, 97, 100, 10] ++ inssL N T := rfl
theorem inss_next {N : List ByteArray} {T : Thr} {i : Nat} {x : Ins} {L : List ByteArray} (h : T[i]? = some (x, L)) : inssL N (T.take (i + 1)) = inssL N (T.take i) ++ (labsL L ++ ([9] ++ (insT x N).data.toList ++ [10])) := flatM_next _ h
theorem inss_le (N : List ByteArray) (T : Thr) (i : Nat) : (inssL N (T.take i)).length ≤ (inssL N T).length := flatM_le _ T i

set_option maxRecDepth 1000000 in
set_option maxHeartbeats 4000000 in
theorem writeThread_any (u : Value) (T : Thr) (hd : ∀ x ∈ T, x.1.dest.size ≤ 1000) (hlb : ∀ x ∈ T, ∀ t ∈ x.2, t.size ≤ 1000) (N : List ByteArray) (hN : N.length ≤ 1000) (hNs : ∀ t ∈ N, t.size ≤ 1000) (bn : Nat) (vn : Value) (b : Nat) (l : List UInt8) (w0 w : World)
    (hl : Later w0 w) (hG : ShowGood w0) (hT : InsRow w0 u T) (hn : OwnNames w bn vn N) (hb : Bld w0.heap.size b l w) (hlen : l.length + (thrL N T).length ≤ 100000000) :
    Calls Tryd.prog 62 #[.pointer (some ⟨b, 0, none⟩), .agg #[u], vn] w fun e w' => e = .returned (.tuple #[]) ∧ Bld w0.heap.size b (l ++ thrL N T) w' ∧ Later w0 w' ∧ OwnNames w' bn vn N ∧ Others b w w' := by
  obtain ⟨p, cap, rfl, h1, h2⟩ := RowIn.slice hT
  obtain ⟨an, cn, rfl, -⟩ := hn.row
  unfold maxLen at h2
  have HT : Hid (InsRow w0 (.slice p T.length cap) T) := hT
  have HG : Hid (ShowGood w0) := hG
  have HD : Hid (∀ x ∈ T, x.1.dest.size ≤ 1000) := hd
  have HL : Hid (∀ x ∈ T, ∀ t ∈ x.2, t.size ≤ 1000) := hlb
  have HN : Hid (∀ t ∈ N, t.size ≤ 1000) := hNs
  rw [thrL_eq] at hlen ⊢
  have hsz7 : (⟨#[116, 104, 114, 101, 97, 100, 10]⟩ : ByteArray).size = 7 := rfl
  have hle7 : ([116, 104, 114, 101, 97, 100, 10] : List UInt8).length = 7 := rfl
  rw [List.length_append, hle7] at hlen
  have cW := fun w' h => write_any w0.heap.size b l (⟨#[116, 104, 114, 101, 97, 100, 10]⟩ : ByteArray) w' h (by omega)
  have LL := Later.alloc (Later.refl w) (.cells #[.slice p T.length cap] 49)
  have HB := at_new w (.cells #[.slice p T.length cap] 49)
  have HOth := Later.others (b := b) LL
  have LW := hl.trans LL
  have BW := hb.later LL
  have NW : OwnNames _ bn (.slice an N.length cn) N := ownsC_later hn LL
  clear hG hT hd hlb hNs hn hb hl
  go_enter Tryd.func62, Tryd.ntmps62
  go_upto_region 1 with (fail)
  generalize w.alloc (.cells #[.slice p T.length cap] 49) = W at *
  generalize hC : w.heap.size = C at *
  have HA : Hid (l ++ ([116, 104, 114, 101, 97, 100, 10] ++ inssL N T) = (l ++ (⟨#[116, 104, 114, 101, 97, 100, 10]⟩ : ByteArray).data.toList) ++ inssL N T) := by show _ = _; simp
  have hl7 : (l ++ (⟨#[116, 104, 114, 101, 97, 100, 10]⟩ : ByteArray).data.toList).length = l.length + 7 := by rw [List.length_append]; rfl
  generalize l ++ (⟨#[116, 104, 114, 101, 97, 100, 10]⟩ : ByteArray).data.toList = M at *
  go_upto_region 2 with (go_at_call 106; apply Calls.mono; (focus (with_reducible (exact cW _ BW))); rintro e W2 ⟨rfl, k2, k3, k4⟩)
  have L2 : Later w0 W2 := Below.trans LW k3
  have O2 := HOth.trans k4
  have N2 : OwnNames W2 bn (.slice an N.length cn) N := Others.owns k4 BW (by decide) (by decide) NW
  have H2 := Others.box k4 BW HB (by decide) (by decide)
  clear k3 k4 NW BW HB LW HOth LL cW
  obtain ⟨b0, -⟩ := box1_facts H2
  go_wp2
  go_loopw [15] (fun vi wr => ∃ (i : Nat), vi = .int .i64 (i : Nat) ∧ i ≤ T.length ∧ Hid (Later w0 wr ∧ Bld w0.heap.size b (M ++ inssL N (T.take i)) wr ∧ OwnNames wr bn (.slice an N.length cn) N ∧ Others b w wr)) (fun vi _ => T.length - (intOf vi).toNat)
  case atStart => exact ⟨0, rfl, by omega, L2, by simpa [inssL] using k2, N2, O2⟩
  case round =>
    obtain ⟨i, rfl, hi, hrr⟩ := hrel
    clear L2 k2 N2 O2 H2
    obtain ⟨Lr, Br, Nr, Or⟩ := hrr.out
    obtain ⟨w6, rfl⟩ : ∃ w6, w6 = wr := ⟨_, rfl⟩
    by_cases h8 : i < T.length
    · obtain ⟨⟨x, L⟩, ht⟩ : ∃ t, T[i]? = some t := ⟨_, List.getElem?_eq_getElem h8⟩
      have hmem := List.mem_of_getElem? ht
      have hxd := HD.out _ hmem
      have hxl := HL.out _ hmem
      obtain ⟨g, o, rfl, ok, ti, c0, c1, c2, c3, c4, c5, c6, c7, c8, c9, c10, c11, c12⟩ := InsRow.get HT.out ht
      replace c0 := cell_later c0 Lr
      replace c1 := cell_later c1 Lr
      replace c2 := cell_later c2 Lr
      replace c3 := cell_later c3 Lr
      replace c4 := cell_later c4 Lr
      replace c5 := cell_later c5 Lr
      replace c6 := cell_later c6 Lr
      replace c7 := cell_later c7 Lr
      replace c8 := cell_later c8 Lr
      replace c9 := cell_later c9 Lr
      replace c10 := cell_later c10 Lr
      replace c11 := cell_later c11 Lr
      replace c12 := cell_later c12 Lr
      have cI := fun a cap w' h1 h2 => showIns_any x ok hxd N hN HN.out a cap w' h1 h2
      have e1 := inss_next (N := N) ht
      have e2 := inss_le N T (i + 1)
      rw [e1] at e2
      obtain ⟨lp, lc, hlv, hl1, hl2, hl3, hl4⟩ := ti
      have sI := insT_size x ok.a.2.2.2 ok.b.2.2.2 N 1000 HN.out hxd
      generalize insT x N = Z at *
      have hz : [9] ++ Z.data.toList ++ [10] = ((⟨#[9]⟩ : ByteArray) ++ Z ++ ⟨#[10]⟩).data.toList := by simp
      rw [hz] at e1 e2
      have HE1 : Hid (inssL N (T.take (i + 1)) = inssL N (T.take i) ++ (labsL L ++ ((⟨#[9]⟩ : ByteArray) ++ Z ++ ⟨#[10]⟩).data.toList)) := e1
      have HE2 : Hid (M.length + (inssL N (T.take i)).length + (labsL L).length + ((⟨#[9]⟩ : ByteArray) ++ Z ++ ⟨#[10]⟩).size ≤ 1000000000) := by
        show _ ≤ _
        simp only [List.length_append, bytes_size] at e2
        omega
      obtain ⟨op, lock, cond, ⟨ak, ar, ay, an'⟩, ⟨bk, br, bs, bn'⟩, dest, lb⟩ := x
      unfold Ins.val Ins.cells at *
      dsimp only at *
      subst hlv
      have LB := Later.alloc (Later.refl w6) (.cells #[.int .i64 op, .bool lock, .int .i64 cond, .int .i64 ak, .int .i64 ar, .int .i64 ay, .int .i64 an', .int .i64 bk, .int .i64 br, .int .i64 bs, .int .i64 bn', .string dest, .slice lp L.length lc] 54)
      have HX := at_new w6 (.cells #[.int .i64 op, .bool lock, .int .i64 cond, .int .i64 ak, .int .i64 ar, .int .i64 ay, .int .i64 an', .int .i64 bk, .int .i64 br, .int .i64 bs, .int .i64 bn', .string dest, .slice lp L.length lc] 54)
      have HT4 : Hid (L ≠ [] → ∃ g o, lp = some ⟨g, o, none⟩ ∧ ∀ i t, L[i]? = some t → w0.cell? ⟨g, o + i, none⟩ = some (.string t)) := hl4
      have LX := Lr.trans LB
      have BX := Br.later LB
      have NX : OwnNames _ bn (.slice an N.length cn) N := ownsC_later Nr LB
      have OX := Or.trans (Later.others (b := b) LB)
      have hl2' : lc ≤ 2 ^ 63 - 1 := hl2
      clear e1 e2 hz ht hmem hrr ok hl4 hl3 LB Nr Or Br hl2
      go_upto_region 5 with (fail)
      obtain ⟨d0, d1, d2, d3, d4, d5, d6, d7, d8, d9, d10, d11, d12⟩ := box13_facts HX
      generalize w6.alloc (.cells #[.int .i64 op, .bool lock, .int .i64 cond, .int .i64 ak, .int .i64 ar, .int .i64 ay, .int .i64 an', .int .i64 bk, .int .i64 br, .int .i64 bs, .int .i64 bn', .string dest, .slice lp L.length lc] 54) = X at *
      generalize w6.heap.size = D at *
      clear c0 c1 c2 c3 c4 c5 c6 c7 c8 c9 c10 c11 c12
      go_wp2
      go_loopw [22] (fun vj wy => ∃ (j : Nat), vj = .int .i64 (j : Nat) ∧ j ≤ L.length ∧ Hid (Later w0 wy ∧ Bld w0.heap.size b (M ++ inssL N (T.take i) ++ labsL (L.take j)) wy ∧ OwnNames wy bn (.slice an N.length cn) N ∧ Others b w wy ∧ wy.heap[D]? = some (.cells #[.int .i64 op, .bool lock, .int .i64 cond, .int .i64 ak, .int .i64 ar, .int .i64 ay, .int .i64 an', .int .i64 bk, .int .i64 br, .int .i64 bs, .int .i64 bn', .string dest, .slice lp L.length lc] 54))) (fun vj _ => L.length - (intOf vj).toNat)
      case atStart => exact ⟨0, rfl, by omega, LX, by simpa [labsL] using BX, NX, OX, HX⟩
      case round =>
        obtain ⟨j, rfl, hj, hrr⟩ := hrel
        clear LX BX NX OX HX d0 d1 d2 d3 d4 d5 d6 d7 d8 d9 d10 d11 d12
        obtain ⟨Ly, By, Ny, Oy, HX⟩ := hrr.out
        clear hrr
        by_cases h9 : j < L.length
        · obtain ⟨t, htj⟩ : ∃ t, L[j]? = some t := ⟨_, List.getElem?_eq_getElem h9⟩
          obtain ⟨g', o', rfl, h5⟩ := HT4.out (by rintro rfl; simp at h9)
          have hc := cell_later (h5 j t htj) Ly
          have hts := hxl t (List.mem_of_getElem? htj)
          have e3 := labs_next htj
          have e4 := labs_le L (j + 1)
          rw [e3, List.length_append, bytes_size] at e4
          have hEE := HE2.out
          have hlz : (M ++ inssL N (T.take i) ++ labsL (L.take j)).length + (t ++ (⟨#[58, 10]⟩ : ByteArray)).size ≤ 1000000000 := by
            simp only [List.length_append]
            omega
          have cW := fun w' h => write_any w0.heap.size b (M ++ inssL N (T.take i) ++ labsL (L.take j)) (t ++ (⟨#[58, 10]⟩ : ByteArray)) w' h hlz
          have HE3 : Hid (M ++ inssL N (T.take i) ++ labsL (L.take (j + 1)) = (M ++ inssL N (T.take i) ++ labsL (L.take j)) ++ (t ++ (⟨#[58, 10]⟩ : ByteArray)).data.toList) := by show _ = _; rw [e3, List.append_assoc _ _ (t ++ (⟨#[58, 10]⟩ : ByteArray)).data.toList]
          generalize M ++ inssL N (T.take i) ++ labsL (L.take j) = Q at *
          clear e3 e4 hEE hlz h5 htj
          go_wp2_with (go_at_call 106; apply Calls.mono; (focus (with_reducible (exact cW _ By))); rintro e w2 ⟨rfl, k2, k3, k4⟩)
          go_roundw
          case rel => exact ⟨j + 1, by go_num, by omega, Below.trans Ly k3, by rw [HE3.out]; exact k2, Others.owns k4 By (by decide) (by decide) Ny, Oy.trans k4, Others.box k4 By HX (by decide) (by decide)⟩
          case measure => simp [intOf]; omega
        · obtain rfl : j = L.length := by omega
          rw [List.take_length] at By
          have hEE := HE2.out
          have hlz : (M ++ inssL N (T.take i) ++ labsL L).length + ((⟨#[9]⟩ : ByteArray) ++ Z ++ ⟨#[10]⟩).size ≤ 1000000000 := by
            simp only [List.length_append]
            omega
          have cW := fun w' h => write_any w0.heap.size b (M ++ inssL N (T.take i) ++ labsL L) ((⟨#[9]⟩ : ByteArray) ++ Z ++ ⟨#[10]⟩) w' h hlz
          have HE3 : Hid (M ++ inssL N (T.take (i + 1)) = (M ++ inssL N (T.take i) ++ labsL L) ++ ((⟨#[9]⟩ : ByteArray) ++ Z ++ ⟨#[10]⟩).data.toList) := by show _ = _; rw [HE1.out]; simp only [List.append_assoc]
          generalize M ++ inssL N (T.take i) ++ labsL L = Q at *
          obtain ⟨d0, d1, d2, d3, d4, d5, d6, d7, d8, d9, d10, d11, d12⟩ := box13_facts HX
          have cJ := cI an cn _ (HG.out.later Ly) Ny.crow
          clear hEE hlz HT4 cI
          go_wp2_with (first
            | (go_at_call 64; apply Calls.mono; (focus (with_reducible (exact cJ))); rintro e w1 ⟨rfl, hl1⟩)
            | (go_at_call 106; apply Calls.mono; (focus (with_reducible (exact cW _ (By.later hl1)))); rintro e w2 ⟨rfl, k2, k3, k4⟩))
          go_roundw
          case rel => exact ⟨i + 1, by go_num, by omega, Below.trans (Ly.trans hl1) k3, by rw [HE3.out]; exact k2, Others.owns k4 (By.later hl1) (by decide) (by decide) (ownsC_later Ny hl1), Oy.trans ((Later.others hl1).trans k4)⟩
          case measure => simp [intOf]; omega
    · obtain rfl : i = T.length := by omega
      rw [List.take_length] at Br
      clear hrr
      go_wp2
      (try simp only [Exit.inBlock, Exit.then])
      refine bodyPost_end (results_none rfl _ _ _) rfl ?_
      exact ⟨rfl, by have e := HA.out; simp only [List.cons_append, List.nil_append] at e; rw [e]; exact Br, Lr, Nr, Or⟩

end Go.Proofs.YtfgnogdlkhagdaaDoor
