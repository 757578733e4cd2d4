/-
  What the document says is wrong with a thread. Nothing that was in memory turns. Conditions: the symbols and the thread lie in memory; texts of at most 1000 bytes, at most 1000000 labels.
  What the document says is wrong with a program. Nothing that was in memory turns. Conditions: the program lies in memory; texts of at most 1000 bytes, at most 1000000 labels a thread.
  The statements' own first call: it returns true. Nothing that was in memory turns. Conditions: the listed variables stand as the text lays them.
-/
import Derived.Test.YtgkdejldpldkiaaDoorJj
import Derived.Test.YtgkdejldpldkiaaDoorJh
import Derived.Maps.AppendAt
import Derived.Test.YtgkdejldpldkiaaDoorJc
namespace Go.Proofs.YtgkdejldpldkiaaDoor
open Go.RowKit
set_option linter.unusedVariables false
set_option linter.unusedSimpArgs false

theorem own_apart {w : World} {base : Nat} {v : Value} {n : Nat} {xs : List Value} {B : Nat} {cs : Array Value} (h : w.ownsRow base 9 1 v n xs) (hB : w.heap[B]? = some (.cells cs 44)) : some B ≠ v.ownBlock := by
  rcases h.2 with ⟨rfl, -⟩ | ⟨g, cap, cur, rfl, -, hc, -⟩
  · simp [Value.ownBlock]
  · intro e
    simp only [Value.ownBlock, Option.some.injEq] at e
    subst e
    rw [hB] at hc
    simp at hc

/-- Behind an append to the labels: the new row, the instruction's box, and all that was there. -/
theorem after_label {a w2 w3 : World} {o : Obj} {v v' : Value} {base n m B : Nat} {xs ys : List Value} {cs : Array Value}
    (hl : Later a w2) (hb : a.heap.size ≤ base) (hown : w2.ownsRow base 9 1 v n xs) (hB : w2.heap[B]? = some (.cells cs 44)) (hg : (w2.alloc o).grownBy w3 v.ownBlock) (hown' : w3.ownsRow base 9 1 v' m ys) :
    Aside (w3.ownsRow base 9 1 v' m ys ∧ Later a w3 ∧ w3.heap[B]? = some (.cells cs 44)) := by
  have hlt := lt_of_block hB
  refine ⟨hown', ?_, ?_⟩
  · exact Below.grown (Below.alloc hl hl.size _) hg (by have := hl.size; simp; omega) (fun j hj => by have := (hown.lt _ hj).1; omega)
  · rw [hg.block B (by simp; omega) (own_apart hown hB), Below.heap_alloc _ _ _ hlt]; exact hB

theorem find_has (s : ByteArray) : ∀ (T : Thr) (k : Nat), (0 ≤ findF s T k) ↔ hasT s (labelsOf T) = true
  | [], k => by simp [findF, labelsOf, hasT]
  | x :: r, k => by
    have e : hasT s (labelsOf (x :: r)) = (hasT s x.2 || hasT s (labelsOf r)) := by simp [labelsOf, hasT]
    rw [e]
    unfold findF
    cases hasT s x.2
    · simp [find_has s r (k + 1)]
    · simp

theorem refJumps_later (op : Int) (w : World) : Calls Tryd.prog 76 #[.int .i64 op] w fun e w' => e = .returned (.bool (jumpsF op)) ∧ Later w w' :=
  (refJumps_any op w).mono fun e w' h => ⟨h.1, by rw [h.2]; exact Later.refl _⟩

theorem one_text_cells (t : ByteArray) : ∀ u ∈ [Value.string t], u.oneCell' = true := by
  intro u hu
  simp at hu
  subst hu
  rfl

set_option maxRecDepth 1000000 in
set_option maxHeartbeats 8000000 in
theorem refThread_any (u v pv : Value) (T : Thr) (S : Syms) (w : World) (hT : InsRow w u T) (hS : SymRow w v S) (hpv : ∃ p n cap, pv = .slice p n cap) (fT : FineT T) :
    Calls Tryd.prog 34 #[.agg #[v, pv], .agg #[u]] w fun e w' => e = .returned (.int .i64 (threadC S T)) ∧ Later w w' := by
  obtain ⟨p, cap, rfl, h1, h2⟩ := hT.slice
  obtain ⟨sp, scap, rfl, hs1, hs2⟩ := hS.slice
  obtain ⟨pp, pn, pcap, rfl⟩ := hpv
  obtain ⟨i0, hi0, hz0, hz1, hz2⟩ := info_parts infoText
  have cN := fun w' h => refCount_any (.slice p T.length cap) T w' h
  have LL := Later.alloc (Later.alloc (Later.refl w) (.cells #[.slice sp S.length scap, .slice pp pn pcap] 27)) (.cells #[.slice p T.length cap] 39)
  obtain ⟨HB, HC⟩ := two_new2 w (.cells #[.slice sp S.length scap, .slice pp pn pcap] 27) (.cells #[.slice p T.length cap] 39)
  obtain ⟨hP0, hP1, -⟩ := box2_facts HB
  obtain ⟨hB, -⟩ := box1_facts HC
  have HT : Hid (InsRow w (.slice p T.length cap) T) := hT
  have HS : Hid (SymRow w (.slice sp S.length scap) S) := hS
  have HF : Hid (FineT T) := fT
  have HCC : Hid (threadC S T = if 4096 < countF T then 10 else if stepsC S [] T = 0 then (if endsF T = true then jumpsC (labelsOf T) T else 9) else stepsC S [] T) := rfl
  have HCL := count_le T
  have hsz : (w.alloc (.cells #[.slice sp S.length scap, .slice pp pn pcap] 27)).heap.size = w.heap.size + 1 := by simp
  unfold maxLen at h2
  clear hT hS fT HB HC
  go_enter Tryd.func34, Tryd.ntmps34
  go_upto_region 1 with (fail)
  generalize (w.alloc (.cells #[.slice sp S.length scap, .slice pp pn pcap] 27)).alloc (.cells #[.slice p T.length cap] 39) = W at *
  clear hsz
  by_cases h4 : 4096 < countF T
  · have HE : Hid (threadC S T = 10) := by show _ = _; rw [HCC.out, if_pos h4]
    generalize countF T = cn at *
    go_wp2_with (go_at_call 72; refine (cN _ (InsRow.kept HT.out LL.kept)).mono ?_; rintro e w1 ⟨rfl, hl⟩)
    go_ret
    exact ⟨by simp only [HE.out]; rfl, LL.trans hl⟩
  have HC' : Hid (threadC S T = if stepsC S [] T = 0 then (if endsF T = true then jumpsC (labelsOf T) T else 9) else stepsC S [] T) := by show _ = _; rw [HCC.out, if_neg h4]
  clear HCC
  generalize countF T = cn at *
  go_upto_region 3 with (go_at_call 72; refine (cN _ (InsRow.kept HT.out LL.kept)).mono ?_; rintro e W1 ⟨rfl, hl⟩)
  have LW : Later w W1 := LL.trans hl
  have hB1 := cell_later hB hl
  have hQ0 := cell_later hP0 hl
  have hQ1 := cell_later hP1 hl
  have hown0 : OwnTexts W1 W1.heap.size (.slice none 0 0) [] := World.ownsRow_nil _ _ _ _
  clear hB hl LL cN hP0 hP1
  go_wp2
  go_loopw [5, 6] (fun vs vi wr => ∃ (i : Nat), vi = .int .i64 (i : Nat) ∧ i ≤ T.length ∧ Later W1 wr ∧ Hid (OwnTexts wr W1.heap.size vs (labelsOf (T.take i))) ∧ stepsC S (labelsOf (T.take i)) (T.drop i) = stepsC S [] T) (fun _ vi _ => T.length - (intOf vi).toNat)
  case atStart => exact ⟨0, rfl, by omega, Later.refl _, hown0, rfl⟩
  case round =>
    obtain ⟨i, rfl, hi, hlw, hse, hF⟩ := hrel
    clear hown0
    have hBr := cell_later hB1 hlw
    have hR0 := cell_later hQ0 hlw
    have hR1 := cell_later hQ1 hlw
    by_cases h8 : i < T.length
    · obtain ⟨⟨x, L⟩, ht⟩ : ∃ t, T[i]? = some t := ⟨_, List.getElem?_eq_getElem h8⟩
      have hmem := List.mem_of_getElem? ht
      obtain ⟨g, o, rfl, hok, hti, b0, b1, b2, b3, b4, b5, b6, b7, b8, b9, b10, b11, b12⟩ := (InsRow.kept HT.out (LW.trans hlw).kept).get ht
      obtain ⟨-, -, -, -, hti1, -⟩ := (InsRow.kept HT.out LW.kept).get ht
      obtain ⟨q, dap, hlb, -⟩ := hti
      have hds : x.dest.size ≤ 1000 := HF.out.dest _ hmem
      rw [steps_drop S T i x L ht] at hF
      have hnl := labels_next ht
      have hfew : (labelsOf (T.take i)).length + L.length ≤ 1000000 := by
        have := HF.out.few
        have h' : (labelsOf (T.take (i + 1))).length ≤ (labelsOf T).length := by
          have h : labelsOf T = labelsOf (T.take (i + 1)) ++ labelsOf (T.drop (i + 1)) := by
            unfold labelsOf
            rw [← List.flatMap_append, List.take_append_drop]
          rw [h, List.length_append]
          omega
        rw [hnl, List.length_append] at h'
        omega
      have hsmall : ∀ t ∈ labelsOf (T.take i) ++ L, t.size ≤ 1000 := by
        intro t htm
        rw [← hnl] at htm
        obtain ⟨y, hy, hty⟩ := List.mem_flatMap.1 htm
        exact HF.out.labels y (List.mem_of_mem_take hy) t hty
      have LB := Later.alloc hlw (.cells #[.int .i64 x.op, .bool x.lock, .int .i64 x.cond, .int .i64 x.a.kind, .int .i64 x.a.reg, .int .i64 x.a.sym, .int .i64 x.a.n, .int .i64 x.b.kind, .int .i64 x.b.reg, .int .i64 x.b.sym, .int .i64 x.b.n, .string x.dest, .slice q L.length dap] 44)
      have HX := at_new wr (.cells #[.int .i64 x.op, .bool x.lock, .int .i64 x.cond, .int .i64 x.a.kind, .int .i64 x.a.reg, .int .i64 x.a.sym, .int .i64 x.a.n, .int .i64 x.b.kind, .int .i64 x.b.reg, .int .i64 x.b.sym, .int .i64 x.b.n, .string x.dest, .slice q L.length dap] 44)
      have hown2 := ownsC_later hse.out (Later.alloc (Later.refl wr) (.cells #[.int .i64 x.op, .bool x.lock, .int .i64 x.cond, .int .i64 x.a.kind, .int .i64 x.a.reg, .int .i64 x.a.sym, .int .i64 x.a.n, .int .i64 x.b.kind, .int .i64 x.b.reg, .int .i64 x.b.sym, .int .i64 x.b.n, .string x.dest, .slice q L.length dap] 44))
      rw [hlb] at b12 hti1
      have hrow := fun (h : insF x = 0) => row_syms h
      have cI := fun w' => refInsRight_any x (by omega) w'
      have cOa := fun (h : insF x = 0) w' h' => refOperand_any x.a (.slice sp S.length scap) (.slice pp pn pcap) S w' h' (hrow h).1
      have cOb := fun (h : insF x = 0) w' h' => refOperand_any x.b (.slice sp S.length scap) (.slice pp pn pcap) S w' h' (hrow h).2
      unfold Ins.val Ins.cells at cI
      unfold Opd.val at cOa cOb
      rw [hlb] at cI
      obtain ⟨lq, ldap, hl0, hl1, hl2, hl3, hl4⟩ := hti1
      cases hl0
      have HL4 : Hid (L ≠ [] → ∃ g o, q = some ⟨g, o, none⟩ ∧ ∀ i t, L[i]? = some t → W1.cell? ⟨g, o + i, none⟩ = some (.string t)) := hl4
      have HNL : Hid (labelsOf (T.take (i + 1)) = labelsOf (T.take i) ++ L) := hnl
      have hst : stepC S (labelsOf (T.take i)) (x, L) = if labsC (labelsOf (T.take i)) L = 0 then opsC S x else labsC (labelsOf (T.take i)) L := rfl
      rw [hst] at hF
      have HFF : Hid ((if (if labsC (labelsOf (T.take i)) L = 0 then opsC S x else labsC (labelsOf (T.take i)) L) = 0 then stepsC S (labelsOf (T.take (i + 1))) (T.drop (i + 1)) else (if labsC (labelsOf (T.take i)) L = 0 then opsC S x else labsC (labelsOf (T.take i)) L)) = stepsC S [] T) := hF
      have HSM : Hid (∀ t ∈ labelsOf (T.take i) ++ L, t.size ≤ 1000) := hsmall
      have HRO : Hid (insF x = 0 → (memF x.a = true → 0 ≤ x.a.sym) ∧ (memF x.b = true → 0 ≤ x.b.sym)) := hrow
      have hmx : maxLen = 2 ^ 63 - 1 := rfl
      rw [hmx] at hl2
      clear ht hok hlb hds hnl hst hmem HF hl3 hl4 hsmall hrow hF hmx
      go_upto_region 8 with (fail)
      have hHS : (wr.alloc (.cells #[.int .i64 x.op, .bool x.lock, .int .i64 x.cond, .int .i64 x.a.kind, .int .i64 x.a.reg, .int .i64 x.a.sym, .int .i64 x.a.n, .int .i64 x.b.kind, .int .i64 x.b.reg, .int .i64 x.b.sym, .int .i64 x.b.n, .string x.dest, .slice q L.length dap] 44)).heap.size = wr.heap.size + 1 := by simp
      generalize wr.alloc (.cells #[.int .i64 x.op, .bool x.lock, .int .i64 x.cond, .int .i64 x.a.kind, .int .i64 x.a.reg, .int .i64 x.a.sym, .int .i64 x.a.n, .int .i64 x.b.kind, .int .i64 x.b.reg, .int .i64 x.b.sym, .int .i64 x.b.n, .string x.dest, .slice q L.length dap] 44) = X at *
      clear b0 b1 b2 b3 b4 b5 b6 b7 b8 b9 b10 b11 b12 hBr hR0 hR1 hse
      have HOW : Hid (OwnTexts X W1.heap.size u5 (labelsOf (T.take i))) := hown2
      clear hHS
      generalize wr.heap.size = bx at *
      have HX0 : Hid (X.heap[bx]? = some (.cells #[.int .i64 x.op, .bool x.lock, .int .i64 x.cond, .int .i64 x.a.kind, .int .i64 x.a.reg, .int .i64 x.a.sym, .int .i64 x.a.n, .int .i64 x.b.kind, .int .i64 x.b.reg, .int .i64 x.b.sym, .int .i64 x.b.n, .string x.dest, .slice q L.length dap] 44)) := HX
      have HWL : Hid (Later W1 X) := LB
      clear HX hown2 LB
      go_wp2
      obtain ⟨w6, rfl⟩ : ∃ w6, w6 = wr := ⟨_, rfl⟩
      go_loopw [5, 8] (fun vs vk wy => ∃ (k : Nat), vk = .int .i64 (k : Nat) ∧ k ≤ L.length ∧ Later W1 wy ∧ Hid (wy.heap[bx]? = some (.cells #[.int .i64 x.op, .bool x.lock, .int .i64 x.cond, .int .i64 x.a.kind, .int .i64 x.a.reg, .int .i64 x.a.sym, .int .i64 x.a.n, .int .i64 x.b.kind, .int .i64 x.b.reg, .int .i64 x.b.sym, .int .i64 x.b.n, .string x.dest, .slice q L.length dap] 44)) ∧ Hid (OwnTexts wy W1.heap.size vs (labelsOf (T.take i) ++ L.take k)) ∧ Hid (labsC (labelsOf (T.take i) ++ L.take k) (L.drop k) = labsC (labelsOf (T.take i)) L)) (fun _ vk _ => L.length - (intOf vk).toNat)
      case atStart => exact ⟨0, rfl, by omega, HWL.out, HX0, (by show OwnTexts _ _ _ _; simpa using HOW.out), (by show _ = _; simp)⟩
      case round =>
        obtain ⟨k, rfl, hk, hly, hXB, hOY, hLF⟩ := hrel
        clear HX0 HOW HWL
        have hBy := cell_later hB1 hly
        have hR0 := cell_later hQ0 hly
        have hR1 := cell_later hQ1 hly
        obtain ⟨d0, d1, d2, d3, d4, d5, d6, d7, d8, d9, d10, d11, d12⟩ := box13_facts hXB.out
        by_cases h9 : k < L.length
        · obtain ⟨t, htk⟩ : ∃ t, L[k]? = some t := ⟨_, List.getElem?_eq_getElem h9⟩
          obtain ⟨gl, ol, rfl, hl5⟩ := HL4.out (by rintro rfl; simp at h9)
          have hct := cell_later (hl5 k t htk) hly
          have HTK : Hid (L[k]? = some t) := htk
          have hts : t.size ≤ 1000 := HSM.out t (List.mem_append_right _ (List.mem_of_getElem? htk))
          have cR := refRight_any t (by omega) wr
          have hlf := hLF.out
          rw [labs_drop _ L k t htk] at hlf
          have hlab : labC (labelsOf (T.take i) ++ L.take k) t = if rightF t = false then 3 else if hasT t (labelsOf (T.take i) ++ L.take k) = true then 6 else 0 := rfl
          rw [hlab] at hlf
          have hsm : ∀ y ∈ labelsOf (T.take i) ++ L.take k, y.size ≤ maxLen := fun y hy => by
            have : y.size ≤ 1000 := HSM.out y (by
              rcases List.mem_append.1 hy with h | h
              · exact List.mem_append_left _ h
              · exact List.mem_append_right _ (List.mem_of_mem_take h))
            unfold maxLen; omega
          have cX := fun w' h => refIndex_any u5 (labelsOf (T.take i) ++ L.take k) t w' h
          have hfm := first_mem t (labelsOf (T.take i) ++ L.take k) 0
          have hih := @hasT_iff t (labelsOf (T.take i) ++ L.take k)
          have hlen : (labelsOf (T.take i) ++ L.take k).length ≤ 1000000 := by rw [List.length_append, List.length_take]; omega
          have HSMM : Hid (∀ y ∈ labelsOf (T.take i) ++ L.take k, y.size ≤ maxLen) := hsm
          have HLEN : Hid ((labelsOf (T.take i) ++ L.take k).length ≤ 1000000) := hlen
          clear htk hl5 hlab hLF hts HL4 hsm hlen d0 d1 d2 d3 d4 d5 d6 d7 d8 d9 d10 d11
          generalize rightF t = ri at *
          cases ri with
          | false =>
            have HE : Hid (threadC S T = 3) := by
              show _ = _
              rw [HC'.out, ← HFF.out, ← hlf]
              simp
            clear hlf cX hfm hih
            go_wp2_with (go_at_call 33; refine cR.mono ?_; rintro e w2 ⟨rfl, hl⟩)
            go_ret
            exact ⟨by simp only [HE.out]; rfl, LW.trans (hly.trans hl)⟩
          | true =>
            generalize firstAt t (labelsOf (T.take i) ++ L.take k) 0 = fa at *
            cases hh : hasT t (labelsOf (T.take i) ++ L.take k) with
            | true =>
              have h0 : 0 ≤ fa := hfm.2 (hih.1 hh)
              have HE : Hid (threadC S T = 6) := by
                show _ = _
                rw [HC'.out, ← HFF.out, ← hlf]
                simp [hh]
              clear hlf hfm hih hh
              go_wp2_with (first
                | (go_at_call 33; refine cR.mono ?_; rintro e w2 ⟨rfl, hl⟩; have f12 := cell_later d12 hl; have hct2 := cell_later hct hl)
                | (go_at_call 73; refine (cX _ (OwnTexts.texts (ownsC_later hOY.out hl) HSMM.out)).mono ?_; rintro e w3 ⟨rfl, hw3⟩; subst hw3))
              go_ret
              exact ⟨by simp only [HE.out]; rfl, LW.trans (hly.trans hl)⟩
            | false =>
              have h0 : ¬ 0 ≤ fa := fun h => by rw [hih.2 (hfm.1 h)] at hh; cases hh
              have HE : Hid (labsC (labelsOf (T.take i) ++ L.take (k + 1)) (L.drop (k + 1)) = labsC (labelsOf (T.take i)) L) := by show _ = _; rw [← hlf]; simp [hh]
              clear hlf hfm hih hh
              go_wp2_with (first
                | (go_at_call 33; refine cR.mono ?_; rintro e w2 ⟨rfl, hl⟩; have f12 := cell_later d12 hl; have hct2 := cell_later hct hl; have HO2 : Hid (OwnTexts w2 W1.heap.size u5 (labelsOf (T.take i) ++ L.take k)) := (ownsC_later hOY.out hl); have HB2 : Hid _ := (heap_later hl hXB.out); have hgrid := cell_later hct2 (Later.alloc (Later.refl w2) (.cells #[.string t] 9)))
                | (go_at_call 73; refine (cX _ (OwnTexts.texts HO2.out HSMM.out)).mono ?_; rintro e w3 ⟨rfl, hw3⟩; subst hw3)
                | (at_builtin; refine wpList_append_own _ rfl _ _ 42 rfl W1.heap.size 9 i0 (.string ⟨#[]⟩) 1 16 Tryd.underlying42 hi0 hz0 hz1 hz2 rfl (by decide) _ _ _ rfl (HO2.out.alloc _) ⟨w2.heap.size, 0, none⟩ 1 1 [.string t] rfl rfl (cell_one_new _ _ _) (one_text_cells t) (by have := HLEN.out; unfold maxLen; omega) (by have := HLEN.out; omega) (by have := (hly.trans hl).size; simp; omega) ?_; intro v' w4 hown' hgrow4 hnil4; have X4 := after_label (hly.trans hl) (Nat.le_refl _) HO2.out HB2.out hgrow4 hown'; clear hown' hgrow4 hnil4))
              go_roundw
              case rel => exact ⟨k + 1, by go_num, by omega, X4.out.2.1, X4.out.2.2, (by
                  show OwnTexts _ _ _ _
                  have := X4.out.1
                  unfold OwnTexts
                  rw [take_next HTK.out, ← List.append_assoc, List.map_append, List.length_append]
                  exact this), HE⟩
              case measure => simp [intOf]; omega
        · have hle : labsC (labelsOf (T.take i)) L = 0 := by
            rw [← hLF.out, List.drop_of_length_le (by omega)]
            rfl
          have hff := HFF.out
          rw [if_pos hle] at hff
          have hOZ := hOY.out
          rw [List.take_of_length_le (l := L) (by omega)] at hOZ
          have HOZ : Hid (OwnTexts wr W1.heap.size u5 (labelsOf (T.take i) ++ L)) := hOZ
          have hO : opsC S x = if insF x = 0 then (if memC S x.a = 0 then memC S x.b else memC S x.a) else insF x := rfl
          clear hLF hle HFF hOY hOZ HL4 HSM HRO hl1 hl2
          rw [hO] at hff
          clear hO
          have hSr := fun w' (h : Later wr w') => SymRow.kept HS.out (LW.trans (hly.trans h)).kept
          generalize insF x = ic at *
          generalize memC S x.a = ma at *
          generalize memC S x.b = mb at *
          rcases Decidable.em (ic = 0) with rfl | hic
          · have cA1 := cOa rfl
            have cB1 := cOb rfl
            clear cOa cOb
            rw [if_pos rfl] at hff
            rcases Decidable.em (ma = 0) with rfl | hma
            · rw [if_pos rfl] at hff
              rcases Decidable.em (mb = 0) with rfl | hmb
              · rw [if_pos rfl] at hff
                have HEE : Hid (stepsC S (labelsOf (T.take (i + 1))) (T.drop (i + 1)) = stepsC S [] T) := hff
                clear hff
                go_wp2_with (first
                  | (go_at_call 74; refine (cI _).mono ?_; rintro e w2 ⟨rfl, hl⟩; have r0 := cell_later hR0 hl; have r1 := cell_later hR1 hl; have f3 := cell_later d3 hl; have f4 := cell_later d4 hl; have f5 := cell_later d5 hl; have f6 := cell_later d6 hl; have f7 := cell_later d7 hl; have f8 := cell_later d8 hl; have f9 := cell_later d9 hl; have f10 := cell_later d10 hl)
                  | (go_at_call 75; apply Calls.mono; (focus (with_reducible (exact cA1 _ (hSr _ hl)))); rintro e w3 ⟨rfl, hl3⟩; have s0 := cell_later r0 hl3; have s1 := cell_later r1 hl3; have k7 := cell_later f7 hl3; have k8 := cell_later f8 hl3; have k9 := cell_later f9 hl3; have k10 := cell_later f10 hl3)
                  | (go_at_call 75; apply Calls.mono; (focus (with_reducible (exact cB1 _ (hSr _ (hl.trans hl3))))); rintro e w4 ⟨rfl, hl4⟩))
                go_roundw
                case rel => exact ⟨i + 1, by go_num, by omega, hly.trans (hl.trans (hl3.trans hl4)), (by show OwnTexts _ _ _ _; rw [HNL.out]; exact ownsC_later HOZ.out (hl.trans (hl3.trans hl4))), HEE.out⟩
                case measure => simp [intOf]; omega
              · rw [if_neg hmb] at hff
                have HE : Hid (threadC S T = mb) := by show _ = _; rw [HC'.out, ← hff, if_neg hmb]
                have hnz : (mb != 0) = true := by simpa using hmb
                clear hff hmb
                go_wp2_with (first
                  | (go_at_call 74; refine (cI _).mono ?_; rintro e w2 ⟨rfl, hl⟩; have r0 := cell_later hR0 hl; have r1 := cell_later hR1 hl; have f3 := cell_later d3 hl; have f4 := cell_later d4 hl; have f5 := cell_later d5 hl; have f6 := cell_later d6 hl; have f7 := cell_later d7 hl; have f8 := cell_later d8 hl; have f9 := cell_later d9 hl; have f10 := cell_later d10 hl)
                  | (go_at_call 75; apply Calls.mono; (focus (with_reducible (exact cA1 _ (hSr _ hl)))); rintro e w3 ⟨rfl, hl3⟩; have s0 := cell_later r0 hl3; have s1 := cell_later r1 hl3; have k7 := cell_later f7 hl3; have k8 := cell_later f8 hl3; have k9 := cell_later f9 hl3; have k10 := cell_later f10 hl3)
                  | (go_at_call 75; apply Calls.mono; (focus (with_reducible (exact cB1 _ (hSr _ (hl.trans hl3))))); rintro e w4 ⟨rfl, hl4⟩))
                go_ret
                exact ⟨by simp only [HE.out]; rfl, LW.trans (hly.trans (hl.trans (hl3.trans hl4)))⟩
            · rw [if_neg hma, if_neg hma] at hff
              have HE : Hid (threadC S T = ma) := by show _ = _; rw [HC'.out, ← hff, if_neg hma]
              have hnz : (ma != 0) = true := by simpa using hma
              clear hff hma
              go_wp2_with (first
                | (go_at_call 74; refine (cI _).mono ?_; rintro e w2 ⟨rfl, hl⟩; have r0 := cell_later hR0 hl; have r1 := cell_later hR1 hl; have f3 := cell_later d3 hl; have f4 := cell_later d4 hl; have f5 := cell_later d5 hl; have f6 := cell_later d6 hl; have f7 := cell_later d7 hl; have f8 := cell_later d8 hl; have f9 := cell_later d9 hl; have f10 := cell_later d10 hl)
                | (go_at_call 75; apply Calls.mono; (focus (with_reducible (exact cA1 _ (hSr _ hl)))); rintro e w3 ⟨rfl, hl3⟩; have s0 := cell_later r0 hl3; have s1 := cell_later r1 hl3; have k7 := cell_later f7 hl3; have k8 := cell_later f8 hl3; have k9 := cell_later f9 hl3; have k10 := cell_later f10 hl3))
              go_ret
              exact ⟨by simp only [HE.out]; rfl, LW.trans (hly.trans (hl.trans hl3))⟩
          · rw [if_neg hic, if_neg hic] at hff
            have HE : Hid (threadC S T = ic) := by show _ = _; rw [HC'.out, ← hff, if_neg hic]
            have hnz : (ic != 0) = true := by simpa using hic
            clear hff hic cOa cOb
            go_wp2_with (go_at_call 74; refine (cI _).mono ?_; rintro e w2 ⟨rfl, hl⟩)
            go_ret
            exact ⟨by simp only [HE.out]; rfl, LW.trans (hly.trans hl)⟩
    · have hst : stepsC S [] T = 0 := by
        rw [← hF, List.drop_of_length_le (by omega)]
        rfl
      have HE : Hid (threadC S T = if endsF T = true then jumpsC (labelsOf T) T else 9) := by show _ = _; rw [HC'.out, if_pos hst]
      have LR := LW.trans hlw
      clear hF hst HC' hB1 hQ0 hQ1 hse hlw
      rcases Nat.eq_zero_or_pos T.length with h0 | h0
      · have HE' : Hid (threadC S T = 9) := by
          show _ = _
          rw [HE.out]
          obtain rfl := List.length_eq_zero_iff.1 h0
          rfl
        have h00 : ((T.length : Int) == 0) = true := by simp [h0]
        have h01 : ¬ (i : Int) < T.length := by omega
        go_wp2
        go_ret
        exact ⟨by simp only [HE'.out]; rfl, LR⟩
      · obtain ⟨m, hm⟩ : ∃ m, T.length = m + 1 := ⟨T.length - 1, by omega⟩
        obtain ⟨⟨x, L⟩, hx⟩ : ∃ t, T[m]? = some t := ⟨_, List.getElem?_eq_getElem (by omega)⟩
        obtain ⟨g, o, rfl, hok, hti, b0, -⟩ := (InsRow.kept HT.out LR.kept).get hx
        have hmc : m + 1 ≤ cap := by omega
        have h8' : ¬ i < m + 1 := by omega
        have hlast : endsF T = decide (x.op = 10 ∨ x.op = 14) := by
          unfold endsF
          rw [List.getLast?_eq_getElem?, hm]
          simp [hx]
        rw [hlast] at HE
        rw [hm] at hBr
        have HM : Hid (T.length = m + 1) := hm
        by_cases hend : x.op = 10 ∨ x.op = 14
        · have HE' : Hid (threadC S T = jumpsC (labelsOf T) T) := by show _ = _; rw [HE.out, if_pos (by simpa using hend)]
          clear HE hx hok hti hlast hm h8 hi h0 h1
          have htail : ∀ (hop : x.op = 10 ∨ x.op = 14), (x.op != 10 && x.op != 14) = false := fun h => by rcases h with h | h <;> simp [h]
          have htl := htail hend
          clear htail hend
          rcases hopc : (x.op != 10) with _ | _
          all_goals
            (try rw [hopc] at htl)
            (try have h14 : (x.op != 14) = false := by simpa using htl)
            clear htl
            go_wp2
            obtain ⟨w6, rfl⟩ : ∃ w6, w6 = wr := ⟨_, rfl⟩
            go_loopw [13] (fun vk wz => ∃ (k : Nat), vk = .int .i64 (k : Nat) ∧ k ≤ m + 1 ∧ Later w6 wz ∧ jumpsC (labelsOf T) (T.drop k) = jumpsC (labelsOf T) T) (fun vk _ => m + 1 - (intOf vk).toNat)
            case atStart => exact ⟨0, rfl, by omega, Later.refl _, rfl⟩
            case round =>
              obtain ⟨k, rfl, hk, hlz, hJ⟩ := hrel
              have hBz := cell_later hBr hlz
              by_cases h9 : k < m + 1
              · obtain ⟨⟨y, M⟩, hy⟩ : ∃ t, T[k]? = some t := ⟨_, List.getElem?_eq_getElem (by rw [HM.out]; exact h9)⟩
                obtain ⟨g', o', hgo, -, -, c0, -, -, -, -, -, -, -, -, -, -, c11, -⟩ := (InsRow.kept HT.out (LR.trans hlz).kept).get hy
                cases hgo
                have cF := fun w' h => refFind_any (.slice (some ⟨g, o, none⟩) (m + 1) cap) T y.dest w' h
                have cJ := fun w' => refJumps_later y.op w'
                have hTz := fun w' (h : Later wr w') => InsRow.kept HT.out (LR.trans (hlz.trans h)).kept
                rw [HM.out] at hTz
                rw [jumps_drop _ T k y M hy] at hJ
                have hfh := find_has y.dest T 0
                clear hy
                generalize jumpsF y.op = jf at *
                generalize hasT y.dest (labelsOf T) = ht at *
                generalize findF y.dest T 0 = ff at *
                go_upto_region 33 with (fail)
                have ne : Nonempty (After wr) := ⟨⟨wr, Later.refl wr⟩⟩
                have m0 := fun p : After wr => cell_after hBz p
                have m1 := fun p : After wr => cell_after c0 p
                have m2 := fun p : After wr => cell_after c11 p
                have tt := fun p : After wr => hTz _ p.later
                cases jf with
                | false =>
                  simp only [Bool.false_eq_true, false_and, if_false] at hJ
                  have HJ : Hid (jumpsC (labelsOf T) (T.drop (k + 1)) = jumpsC (labelsOf T) T) := hJ
                  clear hJ hfh hTz c0 c11 hBz
                  refine wp_region_later (by kernel_rfl) (by kernel_rfl) ?_
                  repeat (first | go_big_quiet_step ((first | (go_at_call 76; with_reducible (exact Calls.after_of (cJ _))) | (go_at_call 77; with_reducible (exact Calls.after_of (cF _ (tt _)))))) | quiet_step ((first | (go_at_call 76; with_reducible (exact Calls.after_of (cJ _))) | (go_at_call 77; with_reducible (exact Calls.after_of (cF _ (tt _)))))))
                  refine wpQuiet_nil ?_
                  intro _ hw'
                  obtain ⟨z, hw''⟩ := hw'
                  subst hw''
                  clear m0 m1 m2 tt
                  go_wp2
                  go_roundw
                  case rel => exact ⟨k + 1, by go_num, by omega, hlz.trans z.later, HJ.out⟩
                  case measure => simp [intOf]; omega
                | true =>
                  cases ht with
                  | true =>
                    simp only [Bool.true_eq_false, and_false, if_false] at hJ
                    have HJ : Hid (jumpsC (labelsOf T) (T.drop (k + 1)) = jumpsC (labelsOf T) T) := hJ
                    have h0f : ¬ ff < 0 := by have := hfh.2 rfl; omega
                    clear hJ hfh hTz c0 c11 hBz
                    refine wp_region_later (by kernel_rfl) (by kernel_rfl) ?_
                    repeat (first | go_big_quiet_step ((first | (go_at_call 76; with_reducible (exact Calls.after_of (cJ _))) | (go_at_call 77; with_reducible (exact Calls.after_of (cF _ (tt _)))))) | quiet_step ((first | (go_at_call 76; with_reducible (exact Calls.after_of (cJ _))) | (go_at_call 77; with_reducible (exact Calls.after_of (cF _ (tt _)))))))
                    refine wpQuiet_nil ?_
                    intro _ hw'
                    obtain ⟨z, hw''⟩ := hw'
                    subst hw''
                    clear m0 m1 m2 tt
                    go_wp2
                    go_roundw
                    case rel => exact ⟨k + 1, by go_num, by omega, hlz.trans z.later, HJ.out⟩
                    case measure => simp [intOf]; omega
                  | false =>
                    simp only [and_self, if_true] at hJ
                    have HJ : Hid (threadC S T = 7) := by show _ = _; rw [HE'.out, ← hJ]
                    have h0f : ff < 0 := Int.not_le.1 (fun h => by have := hfh.1 h; cases this)
                    clear hJ hfh hTz c0 c11 hBz
                    refine wp_region_later (by kernel_rfl) (by kernel_rfl) ?_
                    repeat (first | go_big_quiet_step ((first | (go_at_call 76; with_reducible (exact Calls.after_of (cJ _))) | (go_at_call 77; with_reducible (exact Calls.after_of (cF _ (tt _)))))) | quiet_step ((first | (go_at_call 76; with_reducible (exact Calls.after_of (cJ _))) | (go_at_call 77; with_reducible (exact Calls.after_of (cF _ (tt _)))))))
                    refine wpQuiet_nil ?_
                    intro _ hw'
                    obtain ⟨z, hw''⟩ := hw'
                    subst hw''
                    clear m0 m1 m2 tt
                    go_wp2
                    go_ret
                    exact ⟨by simp only [HJ.out]; rfl, LR.trans (hlz.trans z.later)⟩
              · have HJ : Hid (threadC S T = 0) := by
                  show _ = _
                  rw [HE'.out, ← hJ, List.drop_of_length_le (by rw [HM.out]; omega)]
                  rfl
                clear hJ
                go_wp2
                go_ret
                exact ⟨by simp only [HJ.out]; rfl, LR.trans hlz⟩
        · have HE' : Hid (threadC S T = 9) := by show _ = _; rw [HE.out, if_neg (by simpa using hend)]
          have hn1 : (x.op != 10) = true := by simp; omega
          have hn2 : (x.op != 14) = true := by simp; omega
          clear HE hx hok hti hlast hm h8 hi h0 h1
          go_wp2
          go_ret
          exact ⟨by simp only [HE'.out]; rfl, LR⟩

end Go.Proofs.YtgkdejldpldkiaaDoor

namespace Go.Proofs.YtgkdejldpldkiaaDoor
open Go.RowKit
set_option linter.unusedVariables false
set_option linter.unusedSimpArgs false

theorem any_take {S : Syms} {i k : Nat} {f : Sym × List Int → Bool} {s : Sym × List Int} (hk : k < i) (h : S[k]? = some s) (hf : f s = true) : (S.take i).any f = true := by
  rw [List.any_eq_true]
  exact ⟨s, List.mem_of_getElem? (by rw [List.getElem?_take, if_pos hk]; exact h), hf⟩

theorem none_take {S : Syms} {i : Nat} {f : Sym × List Int → Bool} (hi : i ≤ S.length) (h : ∀ k s, k < i → S[k]? = some s → f s = false) : (S.take i).any f = false := by
  rw [List.any_eq_false]
  intro x hx
  obtain ⟨j, hj, rfl⟩ := List.getElem_of_mem hx
  rw [List.length_take] at hj
  rw [h j _ (by omega) (by rw [List.getElem_take]; exact List.getElem?_eq_getElem (by omega))]
  simp

set_option maxRecDepth 1000000 in
set_option maxHeartbeats 8000000 in
theorem refCheck_any (u v : Value) (S : Syms) (P : List Thr) (w : World) (hS : SymRow w u S) (hP : ThrRow w v P) (f : FineP S P) :
    Calls Tryd.prog 13 #[.agg #[u, v]] w fun e w' => e = .returned (.int .i64 (checkC S P)) ∧ Later w w' := by
  obtain ⟨p, cap, rfl, h1, h2⟩ := hS.slice
  obtain ⟨p', cap', rfl, h1', h2'⟩ := hP.slice
  have LL := Later.alloc (Later.refl w) (.cells #[.slice p S.length cap, .slice p' P.length cap'] 27)
  obtain ⟨hB0, hB1, -⟩ := box2_facts (at_new w (.cells #[.slice p S.length cap, .slice p' P.length cap'] 27))
  have HS : Hid (SymRow w (.slice p S.length cap) S) := hS
  have HP : Hid (ThrRow w (.slice p' P.length cap') P) := hP
  have HF : Hid (FineP S P) := f
  have HC : Hid (checkC S P = if 64 < S.length ∨ 64 < P.length then 10 else if symsC [] S = 0 then threadsC S P else symsC [] S) := rfl
  unfold maxLen at h2 h2'
  clear hS hP f
  go_enter Tryd.func13, Tryd.ntmps13
  go_upto_region 1 with (fail)
  generalize w.alloc (.cells #[.slice p S.length cap, .slice p' P.length cap'] 27) = W at *
  by_cases h64 : 64 < S.length
  · have HE : Hid (checkC S P = 10) := by show _ = _; rw [HC.out, if_pos (Or.inl h64)]
    go_wp2
    go_ret
    exact ⟨by simp only [HE.out]; rfl, LL⟩
  by_cases h65 : 64 < P.length
  · have HE : Hid (checkC S P = 10) := by show _ = _; rw [HC.out, if_pos (Or.inr h65)]
    go_wp2
    go_ret
    exact ⟨by simp only [HE.out]; rfl, LL⟩
  have HC' : Hid (checkC S P = if symsC [] S = 0 then threadsC S P else symsC [] S) := by show _ = _; rw [HC.out, if_neg (by omega)]
  clear HC
  go_wp2
  go_loopw [3] (fun vi wr => ∃ (i : Nat), vi = .int .i64 (i : Nat) ∧ i ≤ S.length ∧ Later W wr ∧ symsC (S.take i) (S.drop i) = symsC [] S) (fun vi _ => S.length - (intOf vi).toNat)
  case atStart => exact ⟨0, rfl, by omega, Later.refl _, rfl⟩
  case round =>
    obtain ⟨i, rfl, hi, hlw, hF⟩ := hrel
    have hBw := cell_later hB0 hlw
    by_cases h8 : i < S.length
    · obtain ⟨⟨s, L⟩, ht⟩ : ∃ t, S[i]? = some t := ⟨_, List.getElem?_eq_getElem h8⟩
      have hmem := List.mem_of_getElem? ht
      have hns : s.name.size ≤ 1000 := HF.out.syms _ hmem
      obtain ⟨g, o, rfl, -, -, hin, b0, b1, b2⟩ := (SymRow.kept HS.out (LL.trans hlw).kept).get ht
      obtain ⟨q, dap, hlb, -, hdap⟩ := RowIn.slice hin
      have LB := Later.alloc hlw (.cells #[.string s.name, .int .i64 s.size, .slice q L.length dap] 47)
      have HX := at_new wr (.cells #[.string s.name, .int .i64 s.size, .slice q L.length dap] 47)
      have cR := fun w' => refRight_any s.name (by omega) w'
      rw [syms_drop S i (s, L) ht] at hF
      have hO : symC (S.take i) (s, L) = if rightF s.name = false then 3 else if (S.take i).any (nameIs s.name) = true then 6 else if s.size < 1 ∨ 64 < s.size ∨ s.size < L.length then 5 else 0 := rfl
      rw [hO] at hF
      rw [hlb] at b2
      have hmx : maxLen = 2 ^ 63 - 1 := rfl
      rw [hmx] at hdap
      clear ht hmem hns hin hlb HF hO hmx
      go_upto_region 7 with (fail)
      obtain ⟨d0, d1, d2, -⟩ := box3_facts HX
      generalize wr.alloc (.cells #[.string s.name, .int .i64 s.size, .slice q L.length dap] 47) = X at *
      obtain ⟨bx, hbx⟩ : ∃ bx, wr.heap.size = bx := ⟨_, rfl⟩
      rw [hbx] at d0 d1 d2 ⊢
      clear b0 b1 b2 HX hBw hlw hbx
      generalize rightF s.name = ri at *
      cases ri with
      | false =>
        have HE : Hid (checkC S P = 3) := by show _ = _; rw [HC'.out, ← hF]; simp
        clear hF
        go_wp2_with (go_at_call 33; refine (cR _).mono ?_; rintro e w2 ⟨rfl, hl⟩)
        go_ret
        exact ⟨by simp only [HE.out]; rfl, LL.trans (LB.trans hl)⟩
      | true =>
        simp only [Bool.true_eq_false, if_false] at hF
        have HFF : Hid ((if (if (S.take i).any (nameIs s.name) = true then 6 else if s.size < 1 ∨ 64 < s.size ∨ s.size < L.length then (5 : Int) else 0) = 0 then symsC (S.take (i + 1)) (S.drop (i + 1)) else (if (S.take i).any (nameIs s.name) = true then 6 else if s.size < 1 ∨ 64 < s.size ∨ s.size < L.length then 5 else 0)) = symsC [] S) := hF
        clear hF
        go_upto_region 9 with (go_at_call 33; refine (cR _).mono ?_; rintro e X2 ⟨rfl, hl⟩)
        have LX : Later W X2 := LB.trans hl
        have f0 := cell_later d0 hl
        have f1 := cell_later d1 hl
        have f2 := cell_later d2 hl
        clear d0 d1 d2 LB hl cR
        go_wp2
        obtain ⟨w6, rfl⟩ : ∃ w6, w6 = wr := ⟨_, rfl⟩
        go_loopw [5] (fun vk wy => ∃ (k : Nat), vk = .int .i64 (k : Nat) ∧ k ≤ i ∧ Later X2 wy ∧ Hid (∀ j s', j < k → S[j]? = some s' → nameIs s.name s' = false)) (fun vk _ => i - (intOf vk).toNat)
        case atStart => exact ⟨0, rfl, by omega, Later.refl _, fun j s' hj => by omega⟩
        case round =>
          obtain ⟨k, rfl, hk, hly, hN⟩ := hrel
          have g0 := cell_later f0 hly
          have g1 := cell_later f1 hly
          have g2 := cell_later f2 hly
          have hBy := cell_later hB0 (LX.trans hly)
          by_cases h9 : k < i
          · obtain ⟨⟨s', L'⟩, ht'⟩ : ∃ t, S[k]? = some t := ⟨_, List.getElem?_eq_getElem (by omega)⟩
            obtain ⟨g', o', hgo, -, -, -, c0, -⟩ := (SymRow.kept HS.out (LL.trans (LX.trans hly)).kept).get ht'
            cases hgo
            have HT' : Hid (S[k]? = some (s', L')) := ht'
            have hkI : (k : Int) < S.length := by omega
            clear ht' f0 f1 f2
            by_cases he : s'.name = s.name
            · have hb := eqT_true he
              have HE : Hid (checkC S P = 6) := by
                show _ = _
                have ha := any_take (f := nameIs s.name) h9 HT'.out (by simp [nameIs, he])
                rw [HC'.out, ← HFF.out, ha]
                simp
              clear he
              go_wp2
              go_quiet (fail)
              have LQ := Later.drewN (LX.trans hly) nq
              go_wp2
              go_ret
              exact ⟨by simp only [HE.out]; rfl, LL.trans LQ⟩
            · have hb := eqT_false he
              have HNE : Hid (nameIs s.name (s', L') = false) := by show _ = _; simp [nameIs, he]
              clear he
              go_wp2
              go_quiet (fail)
              have LQ := Later.drewN hly nq
              go_wp2
              go_roundw
              case rel => exact ⟨k + 1, by go_num, by omega, LQ, fun j z hj hz => by
                rcases Nat.lt_succ_iff_lt_or_eq.1 hj with h | rfl
                · exact hN.out j z h hz
                · rw [HT'.out] at hz; cases hz; exact HNE.out⟩
              case measure => simp [intOf]; omega
          · have hnone : (S.take i).any (nameIs s.name) = false := none_take (by omega) (fun j z hj hz => hN.out j z (by omega) hz)
            have hff := HFF.out
            rw [hnone] at hff
            simp only [Bool.false_eq_true, if_false] at hff
            clear HFF hnone hN f0 f1 f2
            by_cases hz : s.size < 1 ∨ 64 < s.size ∨ s.size < L.length
            · rw [if_pos hz] at hff
              have HE : Hid (checkC S P = 5) := by show _ = _; rw [HC'.out, ← hff]; simp
              clear hff
              go_wp2
              all_goals first
                | (go_ret
                   exact ⟨by simp only [HE.out]; rfl, LL.trans (LX.trans hly)⟩)
                | (exfalso; simp at *; omega)
            · rw [if_neg hz] at hff
              simp only [if_true] at hff
              have HFF : Hid (symsC (S.take (i + 1)) (S.drop (i + 1)) = symsC [] S) := hff
              clear hff
              go_wp2
              all_goals first
                | (go_roundw
                   case rel => exact ⟨i + 1, by go_num, by omega, LX.trans hly, HFF.out⟩
                   case measure => simp [intOf]; omega)
                | (exfalso; simp at *; omega)
    · have hst : symsC [] S = 0 := by
        rw [← hF, List.drop_of_length_le (by omega)]
        rfl
      have HE : Hid (checkC S P = threadsC S P) := by show _ = _; rw [HC'.out, if_pos hst]
      have hB1' := cell_later hB1 hlw
      have LR := LL.trans hlw
      clear hF hst HC' hB0 hB1
      go_wp2
      obtain ⟨w6, rfl⟩ : ∃ w6, w6 = wr := ⟨_, rfl⟩
      go_loopw [6] (fun vk wx => ∃ (k : Nat), vk = .int .i64 (k : Nat) ∧ k ≤ P.length ∧ Later w6 wx ∧ threadsC S (P.drop k) = threadsC S P) (fun vk _ => P.length - (intOf vk).toNat)
      case atStart => exact ⟨0, rfl, by omega, Later.refl _, rfl⟩
      case round =>
        obtain ⟨k, rfl, hk, hlx, hF⟩ := hrel
        have hB0x := cell_later hBw hlx
        have hB1x := cell_later hB1' hlx
        by_cases h9 : k < P.length
        · obtain ⟨T, ht⟩ : ∃ t, P[k]? = some t := ⟨_, List.getElem?_eq_getElem h9⟩
          have fT := HF.out.threads _ (List.mem_of_getElem? ht)
          obtain ⟨g, o, tv, rfl, hrT, b0⟩ := (ThrRow.kept HP.out (LR.trans hlx).kept).get ht
          obtain ⟨tp, tcap, rfl, -, -⟩ := hrT.slice
          have HR : Hid (InsRow wr (.slice tp T.length tcap) T) := hrT
          have cT := fun w' h h' => refThread_any (.slice tp T.length tcap) (.slice p S.length cap) (.slice (some ⟨g, o, none⟩) P.length cap') T S w' h h' ⟨_, _, _, rfl⟩ fT
          rw [threads_drop S P k T ht] at hF
          clear ht fT hrT HF
          go_upto_region 19 with (fail)
          have ne : Nonempty (After wr) := ⟨⟨wr, Later.refl wr⟩⟩
          have m0 := fun p : After wr => cell_after hB0x p
          have m1 := fun p : After wr => cell_after hB1x p
          have m2 := fun p : After wr => cell_after b0 p
          have tt : ∀ z : After wr, InsRow z.world (.slice tp T.length tcap) T := fun z => InsRow.kept HR.out z.later.kept
          have ss : ∀ z : After wr, SymRow z.world (.slice p S.length cap) S := fun z => SymRow.kept HS.out (LR.trans (hlx.trans z.later)).kept
          clear hB0x hB1x b0
          refine wp_region_later (by kernel_rfl) (by kernel_rfl) ?_
          repeat (first | go_big_quiet_step (((go_at_call 34; with_reducible (exact Calls.after_of (cT _ (tt _) (ss _)))))) | quiet_step (((go_at_call 34; with_reducible (exact Calls.after_of (cT _ (tt _) (ss _)))))))
          refine wpQuiet_nil ?_
          intro _ hw'
          obtain ⟨z, hw''⟩ := hw'
          subst hw''
          clear m0 m1 m2 tt ss
          by_cases hc : threadC S T = 0
          · rw [if_pos hc] at hF
            have HF' : Hid (threadsC S (P.drop (k + 1)) = threadsC S P) := hF
            rw [hc]
            clear hF hc
            go_wp2
            go_roundw
            case rel => exact ⟨k + 1, by go_num, by omega, hlx.trans z.later, HF'.out⟩
            case measure => simp [intOf]; omega
          · rw [if_neg hc] at hF
            have HE' : Hid (checkC S P = threadC S T) := by show _ = _; rw [HE.out, ← hF]
            have hnz : (threadC S T != 0) = true := by simpa using hc
            clear hF hc
            generalize threadC S T = tc at *
            go_wp2
            go_ret
            exact ⟨by simp only [HE'.out]; rfl, LR.trans (hlx.trans z.later)⟩
        · have HE' : Hid (checkC S P = 0) := by
            show _ = _
            rw [HE.out, ← hF, List.drop_of_length_le (by omega)]
            rfl
          clear hF
          go_wp2
          go_ret
          exact ⟨by simp only [HE'.out]; rfl, LR.trans hlx⟩

end Go.Proofs.YtgkdejldpldkiaaDoor

namespace Go.Proofs.YtgkdejldpldkiaaDoor
open Go.RowKit
set_option linter.unusedVariables false
set_option linter.unusedSimpArgs false

theorem RowIn.one {α : Type} {k : Nat} {E : World → α → List Value → Prop} {w : World} {B : Nat} {a : α} {cs : Array Value} {t : TypeId} (hB : w.heap[B]? = some (.cells cs t)) (hE : E w a cs.toList) : RowIn k E w (.slice (some ⟨B, 0, none⟩) 1 1) [a] := by
  refine ⟨some ⟨B, 0, none⟩, 1, rfl, Nat.le_refl _, by unfold maxLen; omega, fun _ => ⟨B, 0, rfl, fun i b hi => ?_⟩⟩
  have hi0 : i = 0 := by
    rcases Nat.eq_zero_or_pos i with h | h
    · exact h
    · rw [List.getElem?_eq_none (by simp; omega)] at hi; cases hi
  subst hi0
  simp at hi
  subst hi
  refine ⟨cs.toList, hE, fun j c hj => ?_⟩
  simp [World.cell?, hB]
  simpa using hj

theorem RowIn.nil {α : Type} (k : Nat) (E : World → α → List Value → Prop) (w : World) : RowIn k E w (.slice none 0 0) [] :=
  ⟨none, 0, rfl, Nat.le_refl _, by unfold maxLen; omega, by simp⟩

theorem TextsIn.nil (w : World) : TextsIn w (.slice none 0 0) [] := ⟨none, 0, rfl, Nat.le_refl _, by unfold maxLen; omega, by simp, by simp⟩

theorem TextsIn.one {w : World} {B : Nat} {s : ByteArray} {t : TypeId} (hB : w.heap[B]? = some (.cells #[.string s] t)) (hs : s.size ≤ maxLen) : TextsIn w (.slice (some ⟨B, 0, none⟩) 1 1) [s] := by
  refine ⟨some ⟨B, 0, none⟩, 1, rfl, Nat.le_refl _, by unfold maxLen; omega, by simpa using hs, fun _ => ⟨B, 0, rfl, fun i b hi => ?_⟩⟩
  have hi0 : i = 0 := by
    rcases Nat.eq_zero_or_pos i with h | h
    · exact h
    · rw [List.getElem?_eq_none (by simp; omega)] at hi; cases hi
  subst hi0
  simp at hi
  subst hi
  exact (box1_facts hB).1

/-- An instruction of an Op alone. -/
def bareIns (op : Int) (v : Value) : Ins := ⟨op, false, 0, ⟨0, 0, 0, 0⟩, ⟨0, 0, 0, 0⟩, ⟨#[]⟩, v⟩

theorem bare_ok (op : Int) (v : Value) (h : I64 op) : (bareIns op v).Ok := by
  have z : I64 0 := by unfold I64; omega
  exact ⟨h, z, ⟨z, z, z, z⟩, ⟨z, z, z, z⟩, by show 0 ≤ _; omega⟩

theorem check_none : checkC [] [] = 0 := rfl
theorem check_nop (v : Value) : checkC [] [[(bareIns 13 v, [])]] = 9 := by kernel_rfl
theorem find_a (v : Value) : findF ⟨#[97]⟩ [(bareIns 14 v, [⟨#[97]⟩])] 0 = 0 := by kernel_rfl
theorem find_b (v : Value) : findF ⟨#[98]⟩ [(bareIns 14 v, [⟨#[97]⟩])] 0 = -1 := by kernel_rfl
theorem count_a (v : Value) : countF [(bareIns 14 v, [⟨#[97]⟩])] = 1 := by kernel_rfl

theorem fine_none : FineP [] [] := ⟨fun _ h => by simp at h, fun _ h => by simp at h⟩
theorem fine_nop (v : Value) : FineP [] [[(bareIns 13 v, [])]] := by
  refine ⟨fun _ h => by simp at h, fun T h => ?_⟩
  simp at h
  subst h
  exact ⟨fun x hx => by simp at hx; subst hx; exact Nat.zero_le _, fun x hx => by simp at hx; subst hx; simp, by simp [labelsOf]⟩

theorem three_new3 (w : World) (o p q : Obj) : (((w.alloc o).alloc p).alloc q).heap[w.heap.size]? = some o ∧ (((w.alloc o).alloc p).alloc q).heap[w.heap.size + 1]? = some p ∧ (((w.alloc o).alloc p).alloc q).heap[w.heap.size + 1 + 1]? = some q := by
  obtain ⟨h1, h2, h3⟩ := three_new w o p q
  exact ⟨h1, h2, h3⟩

theorem nopRow (w : World) : ThrRow ((w.alloc (.cells #[.int .i64 13, .bool false, .int .i64 0, .int .i64 0, .int .i64 0, .int .i64 0, .int .i64 0, .int .i64 0, .int .i64 0, .int .i64 0, .int .i64 0, .string ⟨#[]⟩, .slice none 0 0] 44)).alloc (.cells #[.slice (some ⟨w.heap.size, 0, none⟩) 1 1] 39)) (.slice (some ⟨w.heap.size + 1, 0, none⟩) 1 1) [[(bareIns 13 (.slice none 0 0), [])]] := by
  obtain ⟨h1, h2⟩ := two_new2 w (.cells #[.int .i64 13, .bool false, .int .i64 0, .int .i64 0, .int .i64 0, .int .i64 0, .int .i64 0, .int .i64 0, .int .i64 0, .int .i64 0, .int .i64 0, .string ⟨#[]⟩, .slice none 0 0] 44) (.cells #[.slice (some ⟨w.heap.size, 0, none⟩) 1 1] 39)
  refine RowIn.one h2 ⟨_, rfl, RowIn.one h1 ⟨rfl, bare_ok _ _ (by unfold I64; omega), TextsIn.nil _⟩⟩

set_option maxRecDepth 1000000 in
set_option maxHeartbeats 4000000 in
theorem alive_any (w : World) (hG : NamesGood w) :
    Calls Tryd.prog 14 #[] w fun e w' => e = .returned (.bool true) ∧ Later w w' := by
  have cC0 := fun w' h => check_any (.slice none 0 0) (.slice none 0 0) [] [] w' h (RowIn.nil _ _ _) (RowIn.nil _ _ _) fine_none
  have cC1 := fun v w' h h' => check_any (.slice none 0 0) v [] [[(bareIns 13 (.slice none 0 0), [])]] w' h (RowIn.nil _ _ _) h' (fine_nop _)
  have cFa := fun u v w' h => find_any u [(bareIns 14 v, [⟨#[97]⟩])] ⟨#[97]⟩ w' h
  have cFb := fun u v w' h => find_any u [(bareIns 14 v, [⟨#[97]⟩])] ⟨#[98]⟩ w' h
  have cN := fun u v w' h => count_any u [(bareIns 14 v, [⟨#[97]⟩])] w' h
  simp only [check_none, check_nop, find_a, find_b, count_a] at cC0 cC1 cFa cFb cN
  go_enter Tryd.func14, Tryd.ntmps14
  go_upto_region 2 with (fail)
  obtain ⟨h0, h1, h2⟩ := three_new3 w (.cells #[.string ⟨#[97]⟩] 9) (.cells #[.int .i64 14, .bool false, .int .i64 0, .int .i64 0, .int .i64 0, .int .i64 0, .int .i64 0, .int .i64 0, .int .i64 0, .int .i64 0, .int .i64 0, .string ⟨#[]⟩, .slice (some ⟨w.heap.size, 0, none⟩) 1 1] 44) (.cells #[.slice (some ⟨w.heap.size + 1, 0, none⟩) 1 1] 39)
  have LL := Later.alloc (Later.alloc (Later.alloc (Later.refl w) (.cells #[.string ⟨#[97]⟩] 9)) (.cells #[.int .i64 14, .bool false, .int .i64 0, .int .i64 0, .int .i64 0, .int .i64 0, .int .i64 0, .int .i64 0, .int .i64 0, .int .i64 0, .int .i64 0, .string ⟨#[]⟩, .slice (some ⟨w.heap.size, 0, none⟩) 1 1] 44)) (.cells #[.slice (some ⟨w.heap.size + 1, 0, none⟩) 1 1] 39)
  generalize ((w.alloc (.cells #[.string ⟨#[97]⟩] 9)).alloc (.cells #[.int .i64 14, .bool false, .int .i64 0, .int .i64 0, .int .i64 0, .int .i64 0, .int .i64 0, .int .i64 0, .int .i64 0, .int .i64 0, .int .i64 0, .string ⟨#[]⟩, .slice (some ⟨w.heap.size, 0, none⟩) 1 1] 44)).alloc (.cells #[.slice (some ⟨w.heap.size + 1, 0, none⟩) 1 1] 39) = W at *
  have hrow : InsRow W (.slice (some ⟨w.heap.size + 1, 0, none⟩) 1 1) [(bareIns 14 (.slice (some ⟨w.heap.size, 0, none⟩) 1 1), [⟨#[97]⟩])] := RowIn.one h1 ⟨rfl, bare_ok _ _ (by unfold I64; omega), TextsIn.one h0 (by show 1 ≤ _; unfold maxLen; omega)⟩
  have hb := (box1_facts h2).1
  have HR : Hid (InsRow W (.slice (some ⟨w.heap.size + 1, 0, none⟩) 1 1) [(bareIns 14 (.slice (some ⟨w.heap.size, 0, none⟩) 1 1), [⟨#[97]⟩])]) := hrow
  have HG : Hid (NamesGood W) := hG.later LL
  clear h0 h1 h2 hrow hG
  go_wp2_with (first
    | (go_at_call 11; apply Calls.mono; (focus (with_reducible (exact cC0 _ HG.out))); rintro e w1 ⟨rfl, hl1⟩; have LN := Later.alloc (Later.alloc hl1 (.cells #[.int .i64 13, .bool false, .int .i64 0, .int .i64 0, .int .i64 0, .int .i64 0, .int .i64 0, .int .i64 0, .int .i64 0, .int .i64 0, .int .i64 0, .string ⟨#[]⟩, .slice none 0 0] 44)) (.cells #[.slice (some ⟨w1.heap.size, 0, none⟩) 1 1] 39))
    | (go_at_call 11; refine (cC1 _ _ (HG.out.later LN) (nopRow w1)).mono ?_; rintro e w2 ⟨rfl, hl2⟩; have hb2 := cell_later hb (LN.trans hl2))
    | (go_at_call 35; apply Calls.mono; (focus (with_reducible (exact cFa _ _ _ (InsRow.kept HR.out (LN.trans hl2).kept)))); rintro e w3 ⟨rfl, hl3⟩; have hb3 := cell_later hb2 hl3)
    | (go_at_call 35; apply Calls.mono; (focus (with_reducible (exact cFb _ _ _ (InsRow.kept HR.out (LN.trans (hl2.trans hl3)).kept)))); rintro e w4 ⟨rfl, hl4⟩; have hb4 := cell_later hb3 hl4)
    | (go_at_call 36; refine (cN _ _ _ (InsRow.kept HR.out (LN.trans (hl2.trans (hl3.trans hl4))).kept)).mono ?_; rintro e w5 ⟨rfl, hl5⟩))
  go_ret
  exact ⟨rfl, LL.trans (LN.trans (hl2.trans (hl3.trans (hl4.trans hl5))))⟩

end Go.Proofs.YtgkdejldpldkiaaDoor
