/-
  Proved: for every two instructions InsSame returns true: package ins calls them the same if, and only if, all fields are; a copy is the same, with a label more it is not; the arguments read as before. The listed package-level variables (names.regs, names.ops, names.jumps, unicode/utf8's first and acceptRanges) start as the program's text lays them; no other condition.
-/
import Derived.Test.YtginggelbfbcfaaDoorRows
import Derived.Test.YtginggelbfbcfaaDoorCards
import Derived.Test.YtginggelbfbcfaaDoorTie
import Derived.Test.YtginggelbfbcfaaDoorNamesLaid
import Derived.Test.YtginggelbfbcfaaDoorOpens
import Derived.Test.YtginggelbfbcfaaDoorInsAlive
import Derived.Test.YtginggelbfbcfaaDoorGreat
import Derived.Test.YtginggelbfbcfaaDoorInsSame0
import Derived.Test.YtginggelbfbcfaaDoorCopyIns
import Derived.Test.YtginggelbfbcfaaDoorAfter
import Derived.WalkKit
import Derived.ProofKit
import Derived.OpenShut
import Derived.SizedLaws
import Derived.ShutString
import Derived.Carry
import Derived.Stop.Joined
import Derived.SevenTiedAt
namespace Go.Proofs.YtginggelbfbcfaaDoor.insSame
open Go.ChangeShapes Go.WideShapes Go.ChangeAt Go.RowKit
open Go.ChangeMaps (open_string shut_string)
set_option linter.unusedVariables false
set_option linter.unusedSimpArgs false

theorem own : ownKnob Tryd.prog.godebug = none := by kernel_rfl
theorem laidOut : laidOutB Tryd.prog = true := by kernel_rfl

theorem texts_sizes {w : World} {v : Value} {L : List ByteArray} (h : TextsIn w v L) : ∀ t ∈ L, t.size ≤ maxLen := by
  obtain ⟨-, -, -, -, -, h, -⟩ := h
  exact h

theorem texts_other {w : World} {g n cap : Nat} {L : List ByteArray} (h : TextsIn w (.slice (some ⟨g, 0, none⟩) n cap) L) {C : Nat} (hC : g ≠ C) (j : Nat) (u : Value) : TextsIn (w.setCell ⟨C, j, none⟩ u) (.slice (some ⟨g, 0, none⟩) n cap) L := by
  obtain ⟨p, cap', h0, h1, h2, h3, h4⟩ := h
  refine ⟨p, cap', h0, h1, h2, h3, fun hn => ?_⟩
  obtain ⟨g', o, rfl, h5⟩ := h4 hn
  simp only [Value.slice.injEq, Option.some.injEq, Addr.mk.injEq] at h0
  obtain ⟨⟨rfl, rfl, -⟩, -, -⟩ := h0
  refine ⟨g, 0, rfl, fun i t ht => ?_⟩
  have := h5 i t ht
  simp only [World.cell?] at this ⊢
  rw [setCell_other hC]
  exact this

theorem own_mono {w : World} {b b' : Nat} {v : Value} {L : List ByteArray} (h : OwnTexts w b v L) (hb : b' ≤ b) : OwnTexts w b' v L := by
  obtain ⟨h1, h2⟩ := h
  refine ⟨h1, ?_⟩
  rcases h2 with h2 | ⟨g, cap, cur, h3, h4, h5⟩
  · exact Or.inl h2
  · exact Or.inr ⟨g, cap, cur, h3, by omega, h5⟩

theorem sameF_refl (x : Ins) (v : Value) (L : List ByteArray) : sameF x L ⟨x.op, x.lock, x.cond, x.a, x.b, x.dest, v⟩ L = true := by simp [sameF, opdEq]

theorem sameF_more (x : Ins) (v : Value) (L : List ByteArray) (t : ByteArray) : sameF x L ⟨x.op, x.lock, x.cond, x.a, x.b, x.dest, v⟩ (L ++ [t]) = false ∧ sameF ⟨x.op, x.lock, x.cond, x.a, x.b, x.dest, v⟩ (L ++ [t]) x L = false := by
  have h1 : ¬ (L = L ++ [t]) := fun h => by have := congrArg List.length h; simp at this
  have h2 : ¬ (L ++ [t] = L) := fun h => by have := congrArg List.length h; simp at this
  exact ⟨by simp [sameF], by simp [sameF]⟩

set_option maxRecDepth 1000000 in
set_option maxHeartbeats 40000000 in
theorem walk (w : World) (g : Good w) (x : Ins) (L : List ByteArray) (ok : x.Ok) (ti : TextsIn w x.labels L) (y : Ins) (M : List ByteArray) (oky : y.Ok) (tj : TextsIn w y.labels M) :
    Calls Tryd.prog 7 #[x.val, y.val] w fun e w' => e = .returned (.bool true) ∧ Later w w' := by
  have cGx := fun w' h => great_any x L w' ok.dest h
  have cGy := fun w' h => great_any y M w' oky.dest h
  have cA := fun w' h => insAlive_any w' h
  have hgx : greatF x L = false → L.length ≤ 6 := by simp [greatF]; omega
  have cC := fun (h6 : L.length ≤ 6) w' h => copyIns_any x L w' h (by omega)
  have cSz := fun v w' h h' => insSame_any x ⟨x.op, x.lock, x.cond, x.a, x.b, x.dest, v⟩ L L w' h h'
  simp only [sameF_refl] at cSz
  have cS1 := fun v w' h h' => insSame_any x ⟨x.op, x.lock, x.cond, x.a, x.b, x.dest, v⟩ L (L ++ [⟨#[97]⟩]) w' h h'
  have cS2 := fun v w' h h' => insSame_any ⟨x.op, x.lock, x.cond, x.a, x.b, x.dest, v⟩ x (L ++ [⟨#[97]⟩]) L w' h h'
  simp only [(sameF_more x _ L _).1] at cS1
  simp only [(sameF_more x _ L _).2] at cS2
  have cXY := fun w' h h' => insSame_any x y L M w' h h'
  have dXY := fun w' h h' => refSameIns_any x y L M w' h h'
  generalize sameF x L y M = sm at *
  generalize greatF x L = gx at *
  generalize greatF y M = gy at *
  have hLs := texts_sizes ti
  obtain ⟨op, lock, cond, ⟨ak, ar, ay, an⟩, ⟨bk, br, bs, bn⟩, dest, lb⟩ := x
  obtain ⟨op', lock', cond', ⟨ak', ar', ay', an'⟩, ⟨bk', br', bs', bn'⟩, dest', lb'⟩ := y
  clear ok oky
  unfold Ins.val Ins.cells at *
  dsimp only at *
  obtain ⟨HB, HC⟩ := two_new2 w (.cells #[.int .i64 op, .bool lock, .int .i64 cond, .int .i64 ak, .int .i64 ar, .int .i64 ay, .int .i64 an, .int .i64 bk, .int .i64 br, .int .i64 bs, .int .i64 bn, .string dest, lb] 26) (.cells #[.int .i64 op', .bool lock', .int .i64 cond', .int .i64 ak', .int .i64 ar', .int .i64 ay', .int .i64 an', .int .i64 bk', .int .i64 br', .int .i64 bs', .int .i64 bn', .string dest', lb'] 26)
  have LL := Later.alloc (Later.alloc (Later.refl w) (.cells #[.int .i64 op, .bool lock, .int .i64 cond, .int .i64 ak, .int .i64 ar, .int .i64 ay, .int .i64 an, .int .i64 bk, .int .i64 br, .int .i64 bs, .int .i64 bn, .string dest, lb] 26)) (.cells #[.int .i64 op', .bool lock', .int .i64 cond', .int .i64 ak', .int .i64 ar', .int .i64 ay', .int .i64 an', .int .i64 bk', .int .i64 br', .int .i64 bs', .int .i64 bn', .string dest', lb'] 26)
  have hsz : ((w.alloc (.cells #[.int .i64 op, .bool lock, .int .i64 cond, .int .i64 ak, .int .i64 ar, .int .i64 ay, .int .i64 an, .int .i64 bk, .int .i64 br, .int .i64 bs, .int .i64 bn, .string dest, lb] 26)).alloc (.cells #[.int .i64 op', .bool lock', .int .i64 cond', .int .i64 ak', .int .i64 ar', .int .i64 ay', .int .i64 an', .int .i64 bk', .int .i64 br', .int .i64 bs', .int .i64 bn', .string dest', lb'] 26)).heap.size = w.heap.size + 2 := by simp
  go_enter Tryd.func7, Tryd.ntmps7
  go_upto_region 1 with (fail)
  generalize (w.alloc _).alloc _ = W at *
  have hA := Nat.le_refl w.heap.size
  generalize hAe : w.heap.size = A at *
  obtain ⟨b0, b1, b2, b3, b4, b5, b6, b7, b8, b9, b10, b11, b12⟩ := box13_facts HB
  obtain ⟨y0, y1, y2, y3, y4, y5, y6, y7, y8, y9, y10, y11, y12⟩ := box13_facts HC
  rcases Bool.eq_false_or_eq_true gx with rfl | rfl
  · go_wp2_with (first | (go_at_call 8; apply Calls.mono; (focus (with_reducible (exact cGx _ (ti.later LL)))); rintro e wn ⟨rfl, hl⟩; replace HB := heap_later hl HB; replace HC := heap_later hl HC; replace LL := Later.trans LL hl; obtain ⟨b0, b1, b2, b3, b4, b5, b6, b7, b8, b9, b10, b11, b12⟩ := box13_facts HB; obtain ⟨y0, y1, y2, y3, y4, y5, y6, y7, y8, y9, y10, y11, y12⟩ := box13_facts HC) | (go_at_call 9; apply Calls.mono; (focus (with_reducible (exact cA _ (NamesGood.later g LL)))); rintro e wn ⟨rfl, hl⟩; replace HB := heap_later hl HB; replace HC := heap_later hl HC; replace LL := Later.trans LL hl; obtain ⟨b0, b1, b2, b3, b4, b5, b6, b7, b8, b9, b10, b11, b12⟩ := box13_facts HB; obtain ⟨y0, y1, y2, y3, y4, y5, y6, y7, y8, y9, y10, y11, y12⟩ := box13_facts HC))
    go_ret
    exact ⟨rfl, LL⟩
  rcases Bool.eq_false_or_eq_true gy with rfl | rfl
  · go_wp2_with (first | (go_at_call 8; apply Calls.mono; (focus (with_reducible (exact cGx _ (ti.later LL)))); rintro e wn ⟨rfl, hl⟩; replace HB := heap_later hl HB; replace HC := heap_later hl HC; replace LL := Later.trans LL hl; obtain ⟨b0, b1, b2, b3, b4, b5, b6, b7, b8, b9, b10, b11, b12⟩ := box13_facts HB; obtain ⟨y0, y1, y2, y3, y4, y5, y6, y7, y8, y9, y10, y11, y12⟩ := box13_facts HC) | (go_at_call 8; apply Calls.mono; (focus (with_reducible (exact cGy _ (tj.later LL)))); rintro e wn ⟨rfl, hl⟩; replace HB := heap_later hl HB; replace HC := heap_later hl HC; replace LL := Later.trans LL hl; obtain ⟨b0, b1, b2, b3, b4, b5, b6, b7, b8, b9, b10, b11, b12⟩ := box13_facts HB; obtain ⟨y0, y1, y2, y3, y4, y5, y6, y7, y8, y9, y10, y11, y12⟩ := box13_facts HC) | (go_at_call 9; apply Calls.mono; (focus (with_reducible (exact cA _ (NamesGood.later g LL)))); rintro e wn ⟨rfl, hl⟩; replace HB := heap_later hl HB; replace HC := heap_later hl HC; replace LL := Later.trans LL hl; obtain ⟨b0, b1, b2, b3, b4, b5, b6, b7, b8, b9, b10, b11, b12⟩ := box13_facts HB; obtain ⟨y0, y1, y2, y3, y4, y5, y6, y7, y8, y9, y10, y11, y12⟩ := box13_facts HC))
    go_ret
    exact ⟨rfl, LL⟩
  have h6 := hgx rfl
  replace cC := cC h6
  clear hgx
  have hs1 : A + 2 ≤ W.heap.size := by omega
  go_upto_region 3 with (first | (go_at_call 8; apply Calls.mono; (focus (with_reducible (exact cGx _ (ti.later LL)))); rintro e wn ⟨rfl, hl⟩; replace HB := heap_later hl HB; replace HC := heap_later hl HC; replace LL := Later.trans LL hl; obtain ⟨b0, b1, b2, b3, b4, b5, b6, b7, b8, b9, b10, b11, b12⟩ := box13_facts HB; obtain ⟨y0, y1, y2, y3, y4, y5, y6, y7, y8, y9, y10, y11, y12⟩ := box13_facts HC; have hs1 : A + 2 ≤ wn.heap.size := Nat.le_trans hs1 hl.size) | (go_at_call 8; apply Calls.mono; (focus (with_reducible (exact cGy _ (tj.later LL)))); rintro e wn ⟨rfl, hl⟩; replace HB := heap_later hl HB; replace HC := heap_later hl HC; replace LL := Later.trans LL hl; obtain ⟨b0, b1, b2, b3, b4, b5, b6, b7, b8, b9, b10, b11, b12⟩ := box13_facts HB; obtain ⟨y0, y1, y2, y3, y4, y5, y6, y7, y8, y9, y10, y11, y12⟩ := box13_facts HC; have hs1 : A + 2 ≤ wn.heap.size := Nat.le_trans hs1 hl.size))
  clear cGx cGy hl
  go_upto_region 4 with (go_at_call 20; apply Calls.mono; (focus (with_reducible (exact cC _ (ti.later LL)))); rintro e wk ⟨v, rfl, hown, hl⟩; obtain ⟨pa, pc, rfl, -⟩ := crow_of_owns (by simp) hown; replace HB := heap_later hl HB; replace HC := heap_later hl HC; replace LL := Later.trans LL hl; obtain ⟨b0, b1, b2, b3, b4, b5, b6, b7, b8, b9, b10, b11, b12⟩ := box13_facts HB; obtain ⟨y0, y1, y2, y3, y4, y5, y6, y7, y8, y9, y10, y11, y12⟩ := box13_facts HC)
  have hgz : ∀ j, Value.ownBlock (.slice pa L.length pc) = some j → A + 1 < j ∧ j < wk.heap.size := fun j hj => by have := hown.lt _ hj; omega
  have hzz : A + 1 < wk.heap.size := by have := hl.size; omega
  replace hown := own_mono hown (by omega : A + 2 ≤ wn.heap.size + 2)
  have HD := at_new wk (.cells #[.int .i64 op, .bool lock, .int .i64 cond, .int .i64 ak, .int .i64 ar, .int .i64 ay, .int .i64 an, .int .i64 bk, .int .i64 br, .int .i64 bs, .int .i64 bn, .string dest, .slice pa L.length pc] 26)
  have HN := Later.alloc (Later.refl wk) (.cells #[.int .i64 op, .bool lock, .int .i64 cond, .int .i64 ak, .int .i64 ar, .int .i64 ay, .int .i64 an, .int .i64 bk, .int .i64 br, .int .i64 bs, .int .i64 bn, .string dest, .slice pa L.length pc] 26)
  replace hown := hown.alloc (.cells #[.int .i64 op, .bool lock, .int .i64 cond, .int .i64 ak, .int .i64 ar, .int .i64 ay, .int .i64 an, .int .i64 bk, .int .i64 br, .int .i64 bs, .int .i64 bn, .string dest, .slice pa L.length pc] 26)
  generalize wk.alloc (.cells #[.int .i64 op, .bool lock, .int .i64 cond, .int .i64 ak, .int .i64 ar, .int .i64 ay, .int .i64 an, .int .i64 bk, .int .i64 br, .int .i64 bs, .int .i64 bn, .string dest, .slice pa L.length pc] 26) = W4 at *
  replace HB := heap_later HN HB
  replace HC := heap_later HN HC
  replace LL := Later.trans LL HN
  have hz4 : wk.heap.size < W4.heap.size := by
    rcases Nat.lt_or_ge wk.heap.size W4.heap.size with h' | h'
    · exact h'
    · rw [Array.getElem?_eq_none h'] at HD; cases HD
  obtain ⟨b0, b1, b2, b3, b4, b5, b6, b7, b8, b9, b10, b11, b12⟩ := box13_facts HB
  obtain ⟨y0, y1, y2, y3, y4, y5, y6, y7, y8, y9, y10, y11, y12⟩ := box13_facts HC
  obtain ⟨z0, z1, z2, z3, z4, z5, z6, z7, z8, z9, z10, z11, z12⟩ := box13_facts HD
  generalize wk.heap.size = Z at *
  clear hl HN cC
  go_upto_region 5 with (go_at_call 21; apply Calls.mono; (focus (with_reducible (exact cSz _ _ (ti.later LL) (OwnTexts.texts hown hLs)))); rintro e wn ⟨rfl, hl⟩; replace HB := heap_later hl HB; replace HC := heap_later hl HC; replace HD := heap_later hl HD; replace LL := Later.trans LL hl; replace hown := ownsC_later hown hl; obtain ⟨b0, b1, b2, b3, b4, b5, b6, b7, b8, b9, b10, b11, b12⟩ := box13_facts HB; obtain ⟨y0, y1, y2, y3, y4, y5, y6, y7, y8, y9, y10, y11, y12⟩ := box13_facts HC; obtain ⟨z0, z1, z2, z3, z4, z5, z6, z7, z8, z9, z10, z11, z12⟩ := box13_facts HD)
  have hbs : ∀ w : World, (Instr.buildSlice 24 1 #[(0, .string ⟨#[97]⟩)]).run Tryd.prog w = .ok (.slice (some ⟨w.heap.size, 0, none⟩) 1 1) (w.alloc (.cells #[.string ⟨#[97]⟩] 9)) := fun w => by kernel_rfl
  obtain ⟨i0, hi, hz0', hz1', hz2'⟩ := info_parts infoText
  have hzn : Z < wn.heap.size := by have := hl.size; omega
  have L5 := Later.alloc (Later.refl wn) (.cells #[.string ⟨#[97]⟩] 9)
  have hone : ∀ j u, [Value.string ⟨#[97]⟩][j]? = some u → (wn.alloc (.cells #[.string ⟨#[97]⟩] 9)).cell? ((⟨wn.heap.size, 0, none⟩ : Addr).add j) = some u := fun j u hu => by
    match j, hu with
    | 0, hu => simp at hu; subst hu; rw [Go.WideShapes.add_plain]; exact (box1_facts (at_new wn (.cells #[.string ⟨#[97]⟩] 9))).1
    | n + 1, hu => simp at hu
  have h5 := hown.alloc (.cells #[.string ⟨#[97]⟩] 9)
  have HB5 := heap_later L5 HB
  have HC5 := heap_later L5 HC
  have HD5 := heap_later L5 HD
  have LL5 := Later.trans LL L5
  clear b0 b1 b2 b3 b4 b5 b6 b7 b8 b9 b10 b11 b12 y0 y1 y2 y3 y4 y5 y6 y7 y8 y9 y10 y11 y12
  go_upto_region 6 with (at_builtin; refine wpList_append_lies _ rfl _ _ 24 rfl (A + 2) 9 i0 (.string ⟨#[]⟩) 1 16 Tryd.underlying24 hi hz0' hz1' hz2' rfl (by decide) (.slice pa L.length pc) L.length (L.map Value.string) rfl h5 ⟨wn.heap.size, 0, none⟩ 1 1 [.string ⟨#[97]⟩] rfl (by simp) hone (fun u hu => by simp at hu; subst hu; rfl) (by omega) (by unfold maxLen; omega) (by omega) (by simp; omega) (wn.heap.size + 1) (by simp) ?_; intro g2 cap2 w1 hown2 hgrow hat hlt; replace HB5 := (hgrow.block A (by simp; omega) (fun h => by have := hgz _ h.symm; omega)).trans HB5; replace HC5 := (hgrow.block (A + 1) (by simp; omega) (fun h => by have := hgz _ h.symm; omega)).trans HC5; replace HD5 := (hgrow.block Z (by simp; omega) (fun h => by have := hgz _ h.symm; omega)).trans HD5; replace LL5 := Below.grown LL5 hgrow (by simp; omega) (fun j hj => by have := hgz _ hj; omega); obtain ⟨f0, f1, f2, f3, f4, f5, f6, f7, f8, f9, f10, f11, f12⟩ := box13_free HD5; obtain ⟨u0, u1, u2, u3, u4, u5, u6, u7, u8, u9, u10, u11, u12⟩ := box13_facts HD5)
  have hg2 : g2 ≠ Z := by
    rcases hat with h | h
    · have := hgz _ h; omega
    · omega
  have tz : TextsIn w1 (.slice (some ⟨g2, 0, none⟩) (L.length + 1) cap2) (L ++ [⟨#[97]⟩]) := OwnTexts.texts (base := A + 2) (by
    show w1.ownsRow _ _ _ _ (L ++ [(⟨#[97]⟩ : ByteArray)]).length ((L ++ [(⟨#[97]⟩ : ByteArray)]).map Value.string)
    rw [List.length_append, List.map_append]
    exact hown2) (fun t ht => by
      rcases List.mem_append.1 ht with h | h
      · exact hLs t h
      · simp at h; subst h; unfold maxLen; decide)
  replace tz := texts_other tz hg2 12 (.slice (some ⟨g2, 0, none⟩) (L.length + 1) cap2)
  replace HB5 := (setCell_other (by omega : A ≠ Z) 12 (.slice (some ⟨g2, 0, none⟩) (L.length + 1) cap2)).trans HB5
  replace HC5 := (setCell_other (by omega : A + 1 ≠ Z) 12 (.slice (some ⟨g2, 0, none⟩) (L.length + 1) cap2)).trans HC5
  replace HD5 := set13_12 HD5 (.slice (some ⟨g2, 0, none⟩) (L.length + 1) cap2)
  replace LL5 : Later w (w1.setCell ⟨Z, 12, none⟩ (.slice (some ⟨g2, 0, none⟩) (L.length + 1) cap2)) := Later.set LL5 (by omega) 12 (.slice (some ⟨g2, 0, none⟩) (L.length + 1) cap2)
  clear f0 f1 f2 f3 f4 f5 f6 f7 f8 f9 f10 f11 f12 u0 u1 u2 u3 u4 u5 u6 u7 u8 u9 u10 u11 u12 hown hown2 h5 hgrow hone
  generalize w1.setCell ⟨Z, 12, none⟩ (.slice (some ⟨g2, 0, none⟩) (L.length + 1) cap2) = W6 at *
  obtain ⟨b0, b1, b2, b3, b4, b5, b6, b7, b8, b9, b10, b11, b12⟩ := box13_facts HB5
  obtain ⟨y0, y1, y2, y3, y4, y5, y6, y7, y8, y9, y10, y11, y12⟩ := box13_facts HC5
  obtain ⟨z0, z1, z2, z3, z4, z5, z6, z7, z8, z9, z10, z11, z12⟩ := box13_facts HD5
  have mb0 := fun p : After W6 => cell_after b0 p
  have mb1 := fun p : After W6 => cell_after b1 p
  have mb2 := fun p : After W6 => cell_after b2 p
  have mb3 := fun p : After W6 => cell_after b3 p
  have mb4 := fun p : After W6 => cell_after b4 p
  have mb5 := fun p : After W6 => cell_after b5 p
  have mb6 := fun p : After W6 => cell_after b6 p
  have mb7 := fun p : After W6 => cell_after b7 p
  have mb8 := fun p : After W6 => cell_after b8 p
  have mb9 := fun p : After W6 => cell_after b9 p
  have mb10 := fun p : After W6 => cell_after b10 p
  have mb11 := fun p : After W6 => cell_after b11 p
  have mb12 := fun p : After W6 => cell_after b12 p
  have my0 := fun p : After W6 => cell_after y0 p
  have my1 := fun p : After W6 => cell_after y1 p
  have my2 := fun p : After W6 => cell_after y2 p
  have my3 := fun p : After W6 => cell_after y3 p
  have my4 := fun p : After W6 => cell_after y4 p
  have my5 := fun p : After W6 => cell_after y5 p
  have my6 := fun p : After W6 => cell_after y6 p
  have my7 := fun p : After W6 => cell_after y7 p
  have my8 := fun p : After W6 => cell_after y8 p
  have my9 := fun p : After W6 => cell_after y9 p
  have my10 := fun p : After W6 => cell_after y10 p
  have my11 := fun p : After W6 => cell_after y11 p
  have my12 := fun p : After W6 => cell_after y12 p
  have mz0 := fun p : After W6 => cell_after z0 p
  have mz1 := fun p : After W6 => cell_after z1 p
  have mz2 := fun p : After W6 => cell_after z2 p
  have mz3 := fun p : After W6 => cell_after z3 p
  have mz4 := fun p : After W6 => cell_after z4 p
  have mz5 := fun p : After W6 => cell_after z5 p
  have mz6 := fun p : After W6 => cell_after z6 p
  have mz7 := fun p : After W6 => cell_after z7 p
  have mz8 := fun p : After W6 => cell_after z8 p
  have mz9 := fun p : After W6 => cell_after z9 p
  have mz10 := fun p : After W6 => cell_after z10 p
  have mz11 := fun p : After W6 => cell_after z11 p
  have mz12 := fun p : After W6 => cell_after z12 p
  clear b0 b1 b2 b3 b4 b5 b6 b7 b8 b9 b10 b11 b12 y0 y1 y2 y3 y4 y5 y6 y7 y8 y9 y10 y11 y12 z0 z1 z2 z3 z4 z5 z6 z7 z8 z9 z10 z11 z12
  have ne : Nonempty (After W6) := ⟨⟨W6, Later.refl W6⟩⟩
  have tx := fun p : After W6 => (ti.later LL5).later p.later
  have ty := fun p : After W6 => (tj.later LL5).later p.later
  have tz' := fun p : After W6 => tz.later p.later
  have gg : ∀ p : After W6, NamesGood p.world := fun p => NamesGood.later (NamesGood.later g LL5) p.later
  refine wp_region_later (by kernel_rfl) (by kernel_rfl) ?_
  repeat (first | go_big_quiet_step ((first | (go_at_call 21; with_reducible (exact Calls.after_of (cXY _ (tx _) (ty _)))) | (go_at_call 21; with_reducible (exact Calls.after_of (cS1 _ _ (tx _) (tz' _)))) | (go_at_call 21; with_reducible (exact Calls.after_of (cS2 _ _ (tz' _) (tx _)))) | (go_at_call 22; with_reducible (exact Calls.after_of (dXY _ (tx _) (ty _)))) | (go_at_call 9; with_reducible (exact Calls.after_of (cA _ (gg _)))))) | quiet_step ((first | (go_at_call 21; with_reducible (exact Calls.after_of (cXY _ (tx _) (ty _)))) | (go_at_call 21; with_reducible (exact Calls.after_of (cS1 _ _ (tx _) (tz' _)))) | (go_at_call 21; with_reducible (exact Calls.after_of (cS2 _ _ (tz' _) (tx _)))) | (go_at_call 22; with_reducible (exact Calls.after_of (dXY _ (tx _) (ty _)))) | (go_at_call 9; with_reducible (exact Calls.after_of (cA _ (gg _)))))))
  refine wpQuiet_nil ?_
  intro _ hw'
  obtain ⟨q, hw''⟩ := hw'
  subst hw''
  go_wp2
  go_ret
  exact ⟨rfl, LL5.trans q.later⟩

set_option maxRecDepth 100000 in
theorem lifted (os : Os) (started : os.Started) (H : Type) (enc : TypeId × Value → H) :
    ReturnsInHanded {} Tryd.checked os 7 .any (fun w args => (Rows.insSameSpec.pre enc Tryd.prog Tryd.f7 [] false w args ∧ laidMetH Tryd.prog theList w) ∧ sizedMet enc Tryd.prog Tryd.f7 (OpenSpec.ofChange Rows.insSameSpec) false w args)
      (Rows.insSameSpec.post enc Tryd.prog Tryd.f7 false true false false) := by
  refine returnsInHanded_of_change_and (C := Tryd.checked) (X := fun w _ => laidMetH Tryd.prog theList w) (fun _ _ _ hh h => h.of_heap hh) own started (by kernel_rfl) Tryd.func7
    (ChangeSpec.witness_shaped (enc := enc) (C := Tryd.checked) (os := os) (X := fun w _ => laidMetH Tryd.prog theList w) false (World.laidAll Tryd.prog os theList) #[.agg #[.int .i64 0, .bool false, .int .i64 0, .int .i64 0, .int .i64 0, .int .i64 0, .int .i64 0, .int .i64 0, .int .i64 0, .int .i64 0, .int .i64 0, .string ⟨#[]⟩, .slice none 0 0], .agg #[.int .i64 0, .bool false, .int .i64 0, .int .i64 0, .int .i64 0, .int .i64 0, .int .i64 0, .int .i64 0, .int .i64 0, .int .i64 0, .int .i64 0, .string ⟨#[]⟩, .slice none 0 0]] 8 (World.laidAll_os _ _ _) (World.shaped_of_ZipB (by kernel_rfl) (by kernel_rfl)) (by kernel_rfl) (by kernel_rfl) (by kernel_rfl) (door_met os _)) ?_
  intro W base args ds gs before hval0 hW _ hsz0 hL _
  have hsz : (DataW.weightsEach Tryd.prog (Tryd.f7.params.toList ++ Rows.insSameSpec.plain.varTypes Tryd.prog) (ds ++ gs)).all (· ≤ reachBytes) = true := hsz0
  clear hsz0
  have hval : ∀ (j : Nat) t v, Tryd.f7.params[j]? = some t → args[j]? = some v → Value.okWide Tryd.prog W .any base t v := hval0
  have hW' := hW
  obtain ⟨p, q, hA0, hV, rfl, hfz, hnd⟩ := hW
  have hA : DataW.TrodAll enc Tryd.prog W 0 (fun _ => true) true Tryd.f7.params.toList args.toList ds p := hA0
  rw [Tryd.params7] at hA hval hsz
  obtain ⟨v0, vs0, d0, ds0, p0, q0, hargs, rfl, rfl, h0, r0⟩ := trodAll_cons hA
  obtain ⟨v1, vs1, d1, ds1, p1, q1, rfl, rfl, rfl, h1, r1⟩ := trodAll_cons r0
  obtain ⟨rfl, rfl, rfl⟩ := trodAll_nil r1
  obtain rfl : args = #[v0, v1] := by cases args; simp_all
  obtain ⟨rfl, rfl⟩ := trodVars_none hV
  simp only [List.append_nil] at hW'
  have h0k := h0
  have hlt0 : ∀ x ∈ p0, x.block < W.heap.size := fun x hx => by simpa using hW'.lt x (by simp [hx])
  obtain ⟨x0, L0, rfl, ok0, ti0⟩ := open_ins (hval 0 26 v0 rfl rfl) h0
  have h1k := h1
  have hlt1 : ∀ x ∈ p1, x.block < W.heap.size := fun x hx => by simpa using hW'.lt x (by simp [hx])
  obtain ⟨x1, L1, rfl, ok1, ti1⟩ := open_ins (hval 1 26 v1 rfl rfl) h1
  clear hA0 hval0
  refine (walk W (Good.of_laid hL) x0 L0 ok0 ti0 x1 L1 ok1 ti1).mono fun e W' ⟨he, hnx⟩ => ?_
  subst he
  refine ⟨_, rfl, _, _, _, [], (p0 ++ (p1 ++ [])), [], hW', ?_, ?_, rfl, Below.frame hnx _, fun h => by cases h⟩
  · exact (trodAll_cons_mk (shut_bool Tryd.underlying4 _) trodAll_mk0)
  · exact (trodAll_cons_mk (Below.trod laidOut (by kernel_rfl) (of_decide_eq_true (by kernel_rfl)) h0k hnx hlt0) (trodAll_cons_mk (Below.trod laidOut (by kernel_rfl) (of_decide_eq_true (by kernel_rfl)) h1k hnx hlt1) trodAll_mk0))

theorem over : Rows.insSameRow.holds Tryd.pinned (OpenSpec.ofChange Rows.insSameSpec) :=
  OpenClaim.holds_of_wide 7 Tryd.f7 rfl rfl rfl rfl rfl rfl rfl ⟨rfl, rfl, rfl, rfl, rfl⟩ rfl rfl rfl rfl rfl (by kernel_rfl) Tryd.func7 (by kernel_rfl)
    (of_decide_eq_true (by kernel_rfl)) (by unfold Func.isWrapper; first | (rw [if_pos (by decide +kernel)]; kernel_rfl) | (rw [if_neg (by decide +kernel)]; exact ⟨rfl, rfl⟩))
    (fun os started H enc _ => lifted os started H enc)

end Go.Proofs.YtginggelbfbcfaaDoor.insSame

namespace Go.Proofs.YtginggelbfbcfaaDoor
open Go
/-- The statement: the row, with its listed variables tied to the program's text. -/
theorem insSame_holds : Rows.InsSameCardSaid :=
  Claim7.holds_tied_plain_at .later [] [.data, .data, .data, .data, .pinned] true Rows.insSameCard.stood.harness true
    insSame.over (fun _ h => by cases h) (by kernel_rfl) (fun _ h => by cases h) insSame_row_tie rfl ⟨rfl, rfl⟩ (by kernel_rfl) rfl
    (fun f fn hf hfn => by
      obtain rfl : f = 7 := Option.some.inj ((show Tryd.prog.funcNamed Rows.insSameRow.func = some 7 by kernel_rfl).symm.trans hf) |>.symm
      obtain rfl : fn = Tryd.f7 := (Option.some.inj (Tryd.func7.symm.trans hfn)).symm
      exact ⟨by kernel_rfl, fun j t ht => by
        rw [Tryd.params7] at ht
        have hm : t ∈ [26, 26] := by simpa using Array.mem_of_getElem? ht
        have hall : ([26, 26].all fun u => !Tryd.prog.wantsStandIn u) = true := by kernel_rfl
        exact (show Tryd.prog.wantsStandIn t = false by simpa using List.all_eq_true.1 hall t hm)⟩)
    (by kernel_rfl)
#print axioms insSame_holds
end Go.Proofs.YtginggelbfbcfaaDoor
