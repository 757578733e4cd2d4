/-
  What the document's own copy of an instruction returns: the same fields, and labels of its own, the same texts. Nothing that was in memory turns. Conditions: its labels are a slice of at most 1000 texts in memory.
-/
import Derived.Test.YtginggelbfbcfaaDoorGreat
import Derived.Test.YtginggelbfbcfaaDoorCRow
import Derived.Test.YtginggelbfbcfaaDoorBookIns0
import Derived.Test.YtginggelbfbcfaaDoorSet13
import Derived.Deep.AppendLies
import Derived.Laws.AppendOwn
namespace Go.Proofs.YtginggelbfbcfaaDoor
open Go.RowKit
set_option linter.unusedVariables false
set_option linter.unusedSimpArgs false

theorem infoText : (Tryd.prog.info? 9).map (fun i => (i.zero, i.size, i.bytes)) = some (some (.string ⟨#[]⟩), 1, 16) := by kernel_rfl

/-- A row of texts of one's own. -/
abbrev OwnTexts (w : World) (base : Nat) (v : Value) (L : List ByteArray) : Prop := w.ownsRow base 9 1 v L.length (L.map Value.string)

theorem OwnTexts.texts {w : World} {base : Nat} {v : Value} {L : List ByteArray} (h : OwnTexts w base v L) (hs : ∀ t ∈ L, t.size ≤ maxLen) : TextsIn w v L := by
  have hc := crow_of_owns (by simp) h
  obtain ⟨a, cap, rfl, hrow⟩ := hc
  obtain ⟨h1, h2⟩ := h
  have hcap : L.length ≤ cap ∧ cap ≤ maxLen := by
    rcases h2 with ⟨h3, h4⟩ | ⟨g, cap', cur, hv, -, -, hn, hm, -, -⟩
    · simp only [Value.slice.injEq] at h3
      obtain ⟨-, h5, h6⟩ := h3
      rw [h5, h6]
      exact ⟨Nat.le_refl _, by unfold maxLen; omega⟩
    · simp only [Value.slice.injEq] at hv
      obtain ⟨-, -, h6⟩ := hv
      rw [h6]
      exact ⟨hn, hm⟩
  refine ⟨a, cap, rfl, hcap.1, hcap.2, hs, fun hne => ?_⟩
  obtain ⟨t, T, rfl⟩ := List.exists_cons_of_ne_nil hne
  obtain ⟨g, rfl, -⟩ := hrow 0 (.string t) (by simp)
  refine ⟨g, 0, rfl, fun i u hu => ?_⟩
  obtain ⟨g', hg, hcell⟩ := hrow i (.string u) (by rw [List.getElem?_map, hu]; rfl)
  cases hg
  rw [Nat.zero_add]
  exact hcell

theorem text_cells {L : List ByteArray} : ∀ u ∈ L.map Value.string, u.oneCell' = true := by
  intro u hu
  obtain ⟨t, -, rfl⟩ := List.mem_map.1 hu
  rfl

theorem own_set13 {w : World} {base : Nat} {v : Value} {L : List ByteArray} {C : Nat} (h : OwnTexts w base v L) (hC : C < base) (j : Nat) (u : Value) : OwnTexts (w.setCell ⟨C, j, none⟩ u) base v L := ownsRow_setCell_below h hC u

set_option maxRecDepth 1000000 in
set_option maxHeartbeats 4000000 in
theorem copyIns_any (x : Ins) (L : List ByteArray) (w : World) (hL : TextsIn w x.labels L) (hn : L.length ≤ 1000) :
    Calls Tryd.prog 20 #[x.val] w fun e w' => ∃ v, e = .returned (Ins.val ⟨x.op, x.lock, x.cond, x.a, x.b, x.dest, v⟩) ∧ OwnTexts w' (w.heap.size + 2) v L ∧ Later w w' := by
  obtain ⟨op, lock, cond, ⟨ak, ar, ay, an⟩, ⟨bk, br, bs, bn⟩, dest, lb⟩ := x
  unfold Ins.val Ins.cells
  dsimp only at *
  obtain ⟨i0, hi, hz0, hz1, hz2⟩ := info_parts infoText
  have LL := Later.alloc (Later.alloc (Later.refl w) (.cells #[.int .i64 op, .bool lock, .int .i64 cond, .int .i64 ak, .int .i64 ar, .int .i64 ay, .int .i64 an, .int .i64 bk, .int .i64 br, .int .i64 bs, .int .i64 bn, .string dest, lb] 26)) (.cells #[.int .i64 0, .bool false, .int .i64 0, .int .i64 0, .int .i64 0, .int .i64 0, .int .i64 0, .int .i64 0, .int .i64 0, .int .i64 0, .int .i64 0, .string ⟨#[]⟩, .slice none 0 0] 26)
  obtain ⟨HB, HC⟩ := two_new2 w (.cells #[.int .i64 op, .bool lock, .int .i64 cond, .int .i64 ak, .int .i64 ar, .int .i64 ay, .int .i64 an, .int .i64 bk, .int .i64 br, .int .i64 bs, .int .i64 bn, .string dest, lb] 26) (.cells #[.int .i64 0, .bool false, .int .i64 0, .int .i64 0, .int .i64 0, .int .i64 0, .int .i64 0, .int .i64 0, .int .i64 0, .int .i64 0, .int .i64 0, .string ⟨#[]⟩, .slice none 0 0] 26)
  have hsz : ((w.alloc (.cells #[.int .i64 op, .bool lock, .int .i64 cond, .int .i64 ak, .int .i64 ar, .int .i64 ay, .int .i64 an, .int .i64 bk, .int .i64 br, .int .i64 bs, .int .i64 bn, .string dest, lb] 26)).alloc (.cells #[.int .i64 0, .bool false, .int .i64 0, .int .i64 0, .int .i64 0, .int .i64 0, .int .i64 0, .int .i64 0, .int .i64 0, .int .i64 0, .int .i64 0, .string ⟨#[]⟩, .slice none 0 0] 26)).heap.size = w.heap.size + 2 := by simp
  obtain ⟨p, cap, rfl, h1, h2, h3, h4⟩ := hL.later LL
  have hAC : w.heap.size ≤ w.heap.size + 1 := by omega
  clear hL h3
  go_enter Tryd.func20, Tryd.ntmps20
  go_upto_region 1 with (fail)
  generalize (w.alloc _).alloc _ = W at *
  have hA := Nat.le_refl w.heap.size
  generalize hAe : w.heap.size = A at *
  obtain ⟨b0, b1, b2, b3, b4, b5, b6, b7, b8, b9, b10, b11, b12⟩ := box13_facts HB
  obtain ⟨e0, e1, e2, e3, e4, e5, e6, e7, e8, e9, e10, e11, e12⟩ := box13_free HB
  rcases Decidable.em (L = []) with rfl | hne
  · clear h4
    cases p
    all_goals go_upto_region 2 with (fail)
    all_goals
      replace HB := set13_12 HB (.slice none 0 0)
      replace HC := (setCell_other (by omega : A + 1 ≠ A) 12 (.slice none 0 0)).trans HC
      replace LL : Later w (W.setCell ⟨A, 12, none⟩ (.slice none 0 0)) := Later.set LL (by omega) 12 (.slice none 0 0)
      generalize W.setCell ⟨A, 12, none⟩ (.slice none 0 0) = W2 at *
      have hAC : w.heap.size ≤ A + 1 := by omega
      have hown2 : OwnTexts W2 (A + 2) (.slice none 0 0) [] := World.ownsRow_nil _ _ _ _
      obtain ⟨b0, b1, b2, b3, b4, b5, b6, b7, b8, b9, b10, b11, b12⟩ := box13_facts HB
      obtain ⟨i0, i1, i2, i3, i4, i5, i6, i7, i8, i9, i10, i11, i12⟩ := box13_facts HC
      obtain ⟨f0, f1, f2, f3, f4, f5, f6, f7, f8, f9, f10, f11, f12⟩ := box13_free HC
      obtain ⟨r0, r1, r2, r3, r4, r5, r6, r7, r8, r9, r10, r11, r12⟩ := box13_facts (store13_block HC (.int .i64 op) (.bool lock) (.int .i64 cond) (.int .i64 ak) (.int .i64 ar) (.int .i64 ay) (.int .i64 an) (.int .i64 bk) (.int .i64 br) (.int .i64 bs) (.int .i64 bn) (.string dest) (.slice none 0 0))
      have hfin := store13_later LL hAC (.int .i64 op) (.bool lock) (.int .i64 cond) (.int .i64 ak) (.int .i64 ar) (.int .i64 ay) (.int .i64 an) (.int .i64 bk) (.int .i64 br) (.int .i64 bs) (.int .i64 bn) (.string dest) (.slice none 0 0)
      have hown3 : OwnTexts (store13 W2 (A + 1) (.int .i64 op) (.bool lock) (.int .i64 cond) (.int .i64 ak) (.int .i64 ar) (.int .i64 ay) (.int .i64 an) (.int .i64 bk) (.int .i64 br) (.int .i64 bs) (.int .i64 bn) (.string dest) (.slice none 0 0)) (A + 2) (.slice none 0 0) [] := by
        unfold store13
        iterate 13 refine own_set13 ?_ (by omega) _ _
        exact hown2
      unfold store13 at r0 r1 r2 r3 r4 r5 r6 r7 r8 r9 r10 r11 r12 hfin hown3
      go_wp2
      refine bodyPost_ret (by simp [results, Tryd.results20, go_sem, r0, r1, r2, r3, r4, r5, r6, r7, r8, r9, r10, r11, r12]; try rfl) rfl ⟨_, rfl, by rw [hAe]; exact hown3, hfin⟩
  · obtain ⟨g, o, rfl, h5⟩ := h4 hne
    have hpos : 0 < L.length := List.length_pos_iff.2 hne
    have hnews : ∀ j u, (L.map Value.string)[j]? = some u → W.cell? ((⟨g, o, none⟩ : Addr).add j) = some u := fun j u hu => by
      rw [List.getElem?_map, Option.map_eq_some_iff] at hu
      obtain ⟨t, ht, rfl⟩ := hu
      rw [Go.WideShapes.add_plain]
      exact h5 j t ht
    clear h4 h5
    go_upto_region 2 with (at_builtin; refine wpList_append_lies _ rfl _ _ 24 rfl (A + 2) 9 i0 (.string ⟨#[]⟩) 1 16 Tryd.underlying24 hi hz0 hz1 hz2 rfl (by decide) (.slice none 0 0) 0 [] rfl (World.ownsRow_nil _ _ _ _) ⟨g, o, none⟩ L.length cap (L.map Value.string) rfl (by simp) hnews text_cells hpos (by unfold maxLen; omega) (by omega) (by omega) W.heap.size rfl ?_; intro g' cap' w1 hown hgrow hat hlt; replace HB := (hgrow.block A (by omega) (by simp [Value.ownBlock])).trans HB; replace HC := (hgrow.block (A + 1) (by omega) (by simp [Value.ownBlock])).trans HC; replace LL := Below.grown LL hgrow (by rw [hsz, hAe]; omega) (fun j hj => by simp [Value.ownBlock] at hj); obtain ⟨b0, b1, b2, b3, b4, b5, b6, b7, b8, b9, b10, b11, b12⟩ := box13_facts HB; obtain ⟨e0, e1, e2, e3, e4, e5, e6, e7, e8, e9, e10, e11, e12⟩ := box13_free HB)
    replace HB := set13_12 HB (.slice (some ⟨g', 0, none⟩) L.length cap')
    replace HC := (setCell_other (by omega : A + 1 ≠ A) 12 (.slice (some ⟨g', 0, none⟩) L.length cap')).trans HC
    replace LL : Later w (w1.setCell ⟨A, 12, none⟩ (.slice (some ⟨g', 0, none⟩) L.length cap')) := Later.set LL (by omega) 12 (.slice (some ⟨g', 0, none⟩) L.length cap')
    have hown2 : OwnTexts w1 (A + 2) (.slice (some ⟨g', 0, none⟩) L.length cap') L := by
      have := hown
      rw [Nat.zero_add, List.nil_append] at this
      exact this
    replace hown2 := own_set13 hown2 (by omega : A < A + 2) 12 (.slice (some ⟨g', 0, none⟩) L.length cap')
    generalize w1.setCell ⟨A, 12, none⟩ (.slice (some ⟨g', 0, none⟩) L.length cap') = W2 at *
    have hAC : w.heap.size ≤ A + 1 := by omega
    obtain ⟨b0, b1, b2, b3, b4, b5, b6, b7, b8, b9, b10, b11, b12⟩ := box13_facts HB
    obtain ⟨i0, i1, i2, i3, i4, i5, i6, i7, i8, i9, i10, i11, i12⟩ := box13_facts HC
    obtain ⟨f0, f1, f2, f3, f4, f5, f6, f7, f8, f9, f10, f11, f12⟩ := box13_free HC
    obtain ⟨r0, r1, r2, r3, r4, r5, r6, r7, r8, r9, r10, r11, r12⟩ := box13_facts (store13_block HC (.int .i64 op) (.bool lock) (.int .i64 cond) (.int .i64 ak) (.int .i64 ar) (.int .i64 ay) (.int .i64 an) (.int .i64 bk) (.int .i64 br) (.int .i64 bs) (.int .i64 bn) (.string dest) (.slice (some ⟨g', 0, none⟩) L.length cap'))
    have hfin := store13_later LL hAC (.int .i64 op) (.bool lock) (.int .i64 cond) (.int .i64 ak) (.int .i64 ar) (.int .i64 ay) (.int .i64 an) (.int .i64 bk) (.int .i64 br) (.int .i64 bs) (.int .i64 bn) (.string dest) (.slice (some ⟨g', 0, none⟩) L.length cap')
    have hown3 : OwnTexts (store13 W2 (A + 1) (.int .i64 op) (.bool lock) (.int .i64 cond) (.int .i64 ak) (.int .i64 ar) (.int .i64 ay) (.int .i64 an) (.int .i64 bk) (.int .i64 br) (.int .i64 bs) (.int .i64 bn) (.string dest) (.slice (some ⟨g', 0, none⟩) L.length cap')) (A + 2) (.slice (some ⟨g', 0, none⟩) L.length cap') L := by
      unfold store13
      iterate 13 refine own_set13 ?_ (by omega) _ _
      exact hown2
    unfold store13 at r0 r1 r2 r3 r4 r5 r6 r7 r8 r9 r10 r11 r12 hfin hown3
    go_wp2
    refine bodyPost_ret (by simp [results, Tryd.results20, go_sem, r0, r1, r2, r3, r4, r5, r6, r7, r8, r9, r10, r11, r12]; try rfl) rfl ⟨_, rfl, by rw [hAe]; exact hown3, hfin⟩

end Go.Proofs.YtginggelbfbcfaaDoor
