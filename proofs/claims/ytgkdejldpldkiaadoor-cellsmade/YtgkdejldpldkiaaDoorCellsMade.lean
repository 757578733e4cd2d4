/-
  For every list of symbols, symbol, cell, operand and registers: the statement's function returns true and nothing that was in memory turns. Conditions: the listed variables stand as the program's text lays them.
-/
import Derived.Test.YtgkdejldpldkiaaDoorRows
import Derived.Test.YtgkdejldpldkiaaDoorCards
import Derived.Test.YtgkdejldpldkiaaDoorTie
import Derived.Test.YtgkdejldpldkiaaDoorNamesLaid
import Derived.Test.YtgkdejldpldkiaaDoorJh
import Derived.Test.YtgkdejldpldkiaaDoorCellsMadeP
import Derived.Test.YtgkdejldpldkiaaDoorCellsTwo
import Derived.Test.YtgkdejldpldkiaaDoorOpensCells
import Derived.Test.YtgkdejldpldkiaaDoorLastOp
import Derived.Deep.RegionLaw
import Derived.Deep.RegionHeld3
import Derived.WalkKit
import Derived.ProofKit
import Derived.OpenShut
import Derived.SizedLaws
import Derived.ShutString
import Derived.Carry
import Derived.Stop.Joined
import Derived.SevenTiedAt
namespace Go.Proofs.YtgkdejldpldkiaaDoor.cellsMade
open Go.ChangeShapes Go.WideShapes Go.ChangeAt Go.RowKit
open Go.ChangeMaps (open_string shut_string)
set_option linter.unusedVariables false
set_option linter.unusedSimpArgs false

theorem own : ownKnob Tryd.prog.godebug = none := by kernel_rfl
theorem laidOut : laidOutB Tryd.prog = true := by kernel_rfl

/-- What stands while the operand is bent: the made symbols, the program's variable, the operand's, the registers'. -/
structure Sit (w : World) (B : Nat) (v : Value) (i : Nat) (S : Syms) (r : Nat → Int) (wc : World) (cs : Array Value) : Prop where
  later : Later w wc
  own : wc.ownsRow (B + 1) 47 3 v i (flatC symCells S)
  ints : IntsOwn wc (B + 1) S
  box : wc.heap[B]? = some (.cells #[v, .slice none 0 0] 27)
  opd : wc.heap[w.heap.size]? = some (.cells cs 41)
  regs : wc.heap[w.heap.size + 1]? = some (.cells #[.int .i64 (r 0), .int .i64 (r 1), .int .i64 (r 2), .int .i64 (r 3), .int .i64 (r 4), .int .i64 (r 5), .int .i64 (r 6), .int .i64 (r 7)] 49)
  lt : w.heap.size < B

theorem Sit.set {w : World} {B : Nat} {v : Value} {i : Nat} {S : Syms} {r : Nat → Int} {wc : World} {cs : Array Value} (h : Sit w B v i S r wc cs) (j : Nat) (u : Value) : Sit w B v i S r (wc.setCell ⟨w.heap.size, j, none⟩ u) (cs.setIfInBounds j u) :=
  ⟨Later.setCell h.later (Nat.le_refl _) j u, ownsRow_setCell_below h.own (show w.heap.size < B + 1 by have := h.lt; omega) _, IntsOwn.set h.ints (by have := h.lt; omega) j u, set_kept h.box (by have := h.lt; omega), setCell_block h.opd j u, set_kept h.regs (by omega), h.lt⟩
theorem Sit.drew {w : World} {B : Nat} {v : Value} {i : Nat} {S : Syms} {r : Nat → Int} {wc : World} {cs : Array Value} (h : Sit w B v i S r wc cs) : Sit w B v i S r wc.drew cs :=
  ⟨Later.drew h.later, h.own, h.ints, h.box, h.opd, h.regs, h.lt⟩

theorem bits_i64 (op : BinOp) (x y : Int) : I64 (bits op .i64 x y) := int64_of_wf (wf_bits op .i64 x y)

theorem ints_src2 {w : World} {p : Option Addr} {n cap : Nat} {L : List Int} (h : IntsIn w (.slice p n cap) L) : L ≠ [] → ∃ g o, p = some ⟨g, o, none⟩ ∧ ∀ j v, (intsV L)[j]? = some v → w.cell? ((⟨g, o, none⟩ : Addr).add j) = some v := by
  intro hn
  obtain ⟨p', cap', e, -, -, h4⟩ := h
  cases e
  obtain ⟨g, o, rfl, h5⟩ := h4 hn
  refine ⟨g, o, rfl, fun j v hj => ?_⟩
  unfold intsV at hj
  rw [List.getElem?_map, Option.map_eq_some_iff] at hj
  obtain ⟨a, ha, rfl⟩ := hj
  obtain ⟨cs, ⟨rfl, -⟩, h6⟩ := h5 j a ha
  have := h6 0 _ rfl
  rw [Go.WideShapes.add_plain]
  rwa [Nat.mul_one] at this

theorem own_cast {w : World} {base : Nat} {e : TypeId} {size : Nat} {v : Value} {n m : Nat} {xs : List Value} (h : n = m) (ho : w.ownsRow base e size v m xs) : w.ownsRow base e size v n xs := by
  rw [h]; exact ho
theorem hid_mk {p : Prop} (h : p) : Hid p := h
theorem ownsH_later {w w' : World} {base : Nat} {e : TypeId} {size : Nat} {v : Value} {n : Nat} {xs : List Value} (h : Hid (w.ownsRow base e size v n xs)) (hl : Later w w') : Hid (w'.ownsRow base e size v n xs) := ownsC_later h.out hl
theorem heapH_later {w w' : World} {B : Nat} {o : Obj} (h : Hid (w.heap[B]? = some o)) (hl : Later w w') : Hid (w'.heap[B]? = some o) := heap_later hl h.out
theorem intsH_later {w w' : World} {base : Nat} {S : Syms} (h : Hid (IntsOwn w base S)) (hl : Later w w') : Hid (IntsOwn w' base S) := IntsOwn.later h.out hl

theorem later_none {w w' : World} (h : w.grownBy w' none) : Later w w' := Below.grown (Below.refl _ _) h (Nat.le_refl _) (fun j hj => by cases hj)

/-- The relation between the rounds that make the symbols. -/
def MadeRel (W1 : World) (i : Nat) (wr : World) : Prop := ∃ (v : Value) (S : Syms), Later W1 wr ∧ wr.heap[W1.heap.size]? = some (.cells #[v, .slice none 0 0] 27) ∧ wr.ownsRow (W1.heap.size + 1) 47 3 v i (flatC symCells S) ∧ IntsOwn wr (W1.heap.size + 1) S ∧ Five S ∧ S.length = i

/-- One symbol more, as one step of a region that draws. -/
theorem step_sym {o : Oper} {a : Act} {w1 : World} {K : Act → World → Prop} {Q : Exit → Act → World → Prop} (hg : o.guard = none)
    (ho : o.op = .call { callee := .builtin .append, args := #[.tmp 32, .tmp 53], argTypes := #[24, 24] }) {W1 : World} {i z : Nat} {vp : Option Addr} {vcap : Nat} {S : Syms} {v : Value} {M : List Int}
    (hs : a.eval (.tmp 32) = .slice vp i vcap) (hx : a.eval (.tmp 53) = .slice (some ⟨w1.heap.size, 0, none⟩) 1 1)
    (LW : Later W1 w1) (HO : Hid (w1.ownsRow (W1.heap.size + 1) 47 3 (.slice vp i vcap) i (flatC symCells S))) (HB : Hid (w1.heap[W1.heap.size]? = some (.cells #[.slice vp i vcap, .slice none 0 0] 27)))
    (HI : Hid (IntsOwn w1 (W1.heap.size + 1) S)) (HJ : w1.ownsRow (W1.heap.size + 1) 2 1 v M.length (intsV M)) (HA : ∀ a ∈ M, I64 a) (hi : i < 6) (HN : Hid (Five S ∧ S.length = i)) (hz : z ≤ 4) (hM : M.length ≤ 1 + z) (hv : v.oneCell' = true)
    (h : ∀ p3 q3 w3, Later W1 w3 → w3.cell? ⟨W1.heap.size, 0, none⟩ = some (.slice vp i vcap) → w3.frozen? ⟨W1.heap.size, 0, none⟩ = false → Hid (MadeRel W1 (i + 1) (w3.setCell ⟨W1.heap.size, 0, none⟩ (.slice p3 (i + 1) q3))) → K (a.put o.dst (.slice p3 (i + 1) q3)) w3) :
    Oper.wp Tryd.prog o a (w1.alloc (.cells #[.string (⟨#[115]⟩ ++ txt (i : Int)), .int .i64 (1 + (z : Int)), v] 47)) K Q := by
  suffices h0 : (if Region.wanted o (yielded #[] a.tmps) = true then Oper.wp Tryd.prog o a (w1.alloc (.cells #[.string (⟨#[115]⟩ ++ txt (i : Int)), .int .i64 (1 + (z : Int)), v] 47)) K Q else True) by rwa [if_pos (by simp [Region.wanted, hg])] at h0
  obtain ⟨i0, hi0, hz0, hz1, hz2⟩ := info_parts infoSym
  have hBl := lt_block HB.out
  refine step_append_own hg (.tmp 32) (.tmp 53) 24 ho (W1.heap.size + 1) 47 i0 (.agg #[.string ⟨#[]⟩, .int .i64 0, .slice none 0 0]) 3 48 Tryd.underlying24 hi0 hz0 hz1 hz2 rfl (by decide) (.slice vp i vcap) i (flatC symCells S) hs (HO.out.alloc _) ⟨w1.heap.size, 0, none⟩ 1 1 [.string (⟨#[115]⟩ ++ txt (i : Int)), .int .i64 (1 + (z : Int)), v] hx rfl (news_at2 w1 _ _ rfl)
    (fun u hu => by
      simp only [List.mem_cons, List.not_mem_nil, or_false] at hu
      rcases hu with rfl | rfl | rfl
      · rfl
      · rfl
      · exact hv) (by unfold maxLen; omega) (by omega) (by simp; omega) ?_
  intro v3 w3 hown3 hgrow3
  obtain ⟨p3, q3, rfl⟩ := owns_slice hown3
  have X3 := after_five (s := (⟨⟨#[115]⟩ ++ txt (i : Int), 1 + (z : Int), v⟩, M)) LW rfl HO.out HB.out (IntsOwn.snoc HI.out HJ HA) hgrow3 hown3
  obtain ⟨f0, f1, f2, f3⟩ := box2_facts X3.out.2.1
  refine h p3 q3 w3 X3.out.1 f0 f2 ⟨_, _, Later.setCell X3.out.1 (Nat.le_refl _) 0 _, setCell_block X3.out.2.1 0 _, ownsRow_setCell_below X3.out.2.2.1 (Nat.lt_succ_self _) _, IntsOwn.set X3.out.2.2.2 (Nat.lt_succ_self _) 0 _, HN.out.1.snoc HN.out.2 rfl ⟨?_, ?_, ?_⟩, by rw [List.length_append, HN.out.2]; rfl⟩
  · show (1 : Int) ≤ 1 + (z : Int); omega
  · show 1 + (z : Int) ≤ 5; omega
  · show (M.length : Int) ≤ 1 + (z : Int); omega

theorem MadeRel.drew {W1 : World} {i : Nat} {wr : World} (h : MadeRel W1 i wr) : MadeRel W1 i wr.drew := by
  obtain ⟨v, S, h1, h2, h3, h4, h5⟩ := h
  exact ⟨v, S, Later.drew h1, h2, h3, h4, h5⟩

/-- A symbol's numbers, as one step of a region that draws. -/
theorem step_init {o : Oper} {a : Act} {w0 : World} {K : Act → World → Prop} {Q : Exit → Act → World → Prop} (hg : o.guard = none)
    (ho : o.op = .call { callee := .builtin .append, args := #[.const (.slice none 0 0), .tmp 50], argTypes := #[45, 45] }) {W1 : World} {g' o' m dap : Nat} {M : List Int}
    (hx : a.eval (.tmp 50) = .slice (some ⟨g', o', none⟩) m dap) (LW : Later W1 w0) (HSrc : Hid (∀ j u, (intsV M)[j]? = some u → W1.cell? ((⟨g', o', none⟩ : Addr).add j) = some u)) (HM : Hid (M.length = m)) (hm : m ≤ 10) (hlt : W1.heap.size < w0.heap.size)
    (h : ∀ p2 q2 w2, Later w0 w2 → Hid (w2.ownsRow (W1.heap.size + 1) 2 1 (.slice p2 m q2) m (intsV M)) → K (a.put o.dst (.slice p2 m q2)) w2) :
    Oper.wp Tryd.prog o a w0 K Q := by
  suffices h0 : (if Region.wanted o (yielded #[] a.tmps) = true then Oper.wp Tryd.prog o a w0 K Q else True) by rwa [if_pos (by simp [Region.wanted, hg])] at h0
  obtain ⟨j0, hj0, hy0, hy1, hy2⟩ := info_parts infoInt64
  refine step_append_own hg (.const (.slice none 0 0)) (.tmp 50) 45 ho (W1.heap.size + 1) 2 j0 (.int .i64 0) 1 8 Tryd.underlying45 hj0 hy0 hy1 hy2 rfl (by decide) (.slice none 0 0) 0 [] rfl (World.ownsRow_nil _ _ _ _) ⟨g', o', none⟩ m dap (intsV M) hx (by rw [intsV_length, HM.out]; omega) (fun j u hj => cell_later (HSrc.out j u hj) LW) ints_one (by unfold maxLen; omega) (by omega) (by omega) ?_
  intro v2 w2 hown2 hgrow2
  obtain ⟨p2, q2, rfl⟩ := owns_slice hown2
  rw [List.nil_append] at hown2
  have e : 0 + m = m := by omega
  rw [e] at hown2 ⊢
  exact h p2 q2 w2 (later_none hgrow2) hown2

set_option maxRecDepth 1000000 in
set_option maxHeartbeats 16000000 in
theorem walk (w : World) (g : Good w) (u : Value) (S0 : Syms) (hS0 : SymRow w u S0) (sym : Int) (hsy : I64 sym) (addr : Int) (had : I64 addr) (o : Opd) (ho : o.Ok) (r : Nat → Int) (hr : ∀ j, I64 (r j)) :
    Calls Tryd.prog 6 #[u, .int .i64 sym, .int .i64 addr, o.val, regsV r] w fun e w' => e = .returned (.bool true) ∧ Later w w' := by
  obtain ⟨i0, hi0, hz0, hz1, hz2⟩ := info_parts infoSym
  obtain ⟨j0, hj0, hy0, hy1, hy2⟩ := info_parts infoInt64
  obtain ⟨lp, lcap, rfl, hl1, hl2⟩ := hS0.slice
  unfold maxLen at hl2
  have HL : Hid (SymRow w (.slice lp S0.length lcap) S0) := hS0
  have HG : Hid (Good w) := g
  obtain ⟨k, a, s, d⟩ := o
  unfold Opd.val regsV
  have HOK : Hid (Opd.Ok ⟨k, a, s, d⟩) := ho
  have HR : Hid (∀ j, I64 (r j)) := hr
  have L0 := Later.alloc (Later.alloc (Later.refl w) (.cells #[.int .i64 k, .int .i64 a, .int .i64 s, .int .i64 d] 41)) (.cells #[.int .i64 (r 0), .int .i64 (r 1), .int .i64 (r 2), .int .i64 (r 3), .int .i64 (r 4), .int .i64 (r 5), .int .i64 (r 6), .int .i64 (r 7)] 49)
  obtain ⟨HBB, HC⟩ := two_new2 w (.cells #[.int .i64 k, .int .i64 a, .int .i64 s, .int .i64 d] 41) (.cells #[.int .i64 (r 0), .int .i64 (r 1), .int .i64 (r 2), .int .i64 (r 3), .int .i64 (r 4), .int .i64 (r 5), .int .i64 (r 6), .int .i64 (r 7)] 49)
  clear g hS0 ho hr
  dsimp only at *
  go_enter Tryd.func6, Tryd.ntmps6
  go_upto_region 1 with (fail)
  have hW1 : w.heap.size < ((w.alloc (.cells #[.int .i64 k, .int .i64 a, .int .i64 s, .int .i64 d] 41)).alloc (.cells #[.int .i64 (r 0), .int .i64 (r 1), .int .i64 (r 2), .int .i64 (r 3), .int .i64 (r 4), .int .i64 (r 5), .int .i64 (r 6), .int .i64 (r 7)] 49)).heap.size := by simp; omega
  generalize (w.alloc (.cells #[.int .i64 k, .int .i64 a, .int .i64 s, .int .i64 d] 41)).alloc (.cells #[.int .i64 (r 0), .int .i64 (r 1), .int .i64 (r 2), .int .i64 (r 3), .int .i64 (r 4), .int .i64 (r 5), .int .i64 (r 6), .int .i64 (r 7)] 49) = W1 at *
  have HP0 : Hid ((W1.alloc (.cells #[.slice none 0 0, .slice none 0 0] 27)).heap[W1.heap.size]? = some (.cells #[.slice none 0 0, .slice none 0 0] 27)) := at_new _ _
  have HO0 : Hid ((W1.alloc (.cells #[.slice none 0 0, .slice none 0 0] 27)).ownsRow (W1.heap.size + 1) 47 3 (.slice none 0 0) 0 (flatC symCells [])) := World.ownsRow_nil _ _ _ _
  have L1 := Later.alloc (Later.refl W1) (.cells #[.slice none 0 0, .slice none 0 0] 27)
  go_upto_region 2 with (fail)
  generalize W1.alloc (.cells #[.slice none 0 0, .slice none 0 0] 27) = W at *
  go_wp2
  go_loopw [12] (fun vi wr => ∃ (i : Nat), vi = .int .i64 (i : Nat) ∧ i ≤ S0.length ∧ i ≤ 6 ∧ Hid (MadeRel W1 i wr)) (fun vi _ => S0.length - (intOf vi).toNat)
  case atStart => exact ⟨0, rfl, by omega, by omega, ⟨_, [], L1, HP0.out, HO0.out, IntsOwn.nil _ _, Five.nil, rfl⟩⟩
  case round =>
    clear HP0 HO0 L1
    obtain ⟨i, rfl, hi, hi6, hrr⟩ := hrel
    obtain ⟨v, S, hlw, hBk0, hOw0, hIn0, hNm0⟩ := hrr.out
    have hBk := hid_mk hBk0
    have hOw := hid_mk hOw0
    have hIn := hid_mk hIn0
    have hNm := hid_mk hNm0
    clear hBk0 hOw0 hIn0 hNm0 hrr
    obtain ⟨vp, vcap, rfl⟩ := owns_slice hOw.out
    by_cases h8 : i < S0.length ∧ i < 6
    · obtain ⟨h8, h6⟩ := h8
      obtain ⟨⟨x, L⟩, ht⟩ : ∃ t, S0[i]? = some t := ⟨_, List.getElem?_eq_getElem h8⟩
      obtain ⟨g, o, rfl, -, hxs, hin, x0, x1, x2⟩ := (SymRow.kept HL.out L0.kept).get ht
      have cP := fun w' => pick_any x.size 5 hxs (by omega) w'
      obtain ⟨z, hz, hzz⟩ : ∃ z : Nat, pick x.size 5 = z ∧ z ≤ 4 := ⟨(pick x.size 5).toNat, by unfold pick; omega, by unfold pick; omega⟩
      rw [hz] at cP
      have cT := fun w' => refText_any (i : Int) (by omega) (by omega) w'
      obtain ⟨lq, dap, hlb, hq1, hq2⟩ := hin.slice
      rw [hlb] at x2 hin
      unfold maxLen at hq2
      have HII := ints_i64 hin
      have hsrc := ints_src2 hin
      have y1 := cell_later x1 hlw
      have hts := txt_size (i : Int) (by omega) (by omega)
      have hcat : ¬ 9223372036854775807 < 1 + (txt (i : Int)).size := by omega
      have hwz := wrap_few (1 + (z : Int)) (by omega) (by omega)
      clear ht x0 hz hxs HL hlb hin
      go_upto_region 6 with (go_simp; go_at_call 22; apply Calls.mono; (focus (with_reducible (exact cP _))); rintro e w' ⟨rfl, hw1⟩; have hw2 := hw1.symm; subst hw2)
      clear y1 cP x1
      have LW : Later W1 wr.drew := Later.drew hlw
      have HB : Hid (wr.drew.heap[W1.heap.size]? = some (.cells #[.slice vp i vcap, .slice none 0 0] 27)) := hBk
      have HO : Hid (wr.drew.ownsRow (W1.heap.size + 1) 47 3 (.slice vp i vcap) i (flatC symCells S)) := hOw
      have HI : Hid (IntsOwn wr.drew (W1.heap.size + 1) S) := hIn
      obtain ⟨c0, -⟩ := box2_facts HB.out
      clear hBk hOw hIn hlw
      by_cases hL0 : L.length = 0
      · obtain rfl := List.eq_nil_of_length_eq_zero hL0
        have x2z : W1.cell? ⟨g, o + i * 3 + 2, none⟩ = some (.slice lq 0 dap) := x2
        clear x2
        have x2 := x2z
        clear x2z
        have x2c := cell_later x2 LW
        have s1 : (0 : Int) ≤ (dap : Int) := by omega
        have s3 : min (0 : Int) (1 + (z : Int)) = 0 := by omega
        have HA2 : Hid (∀ a ∈ ([] : List Int), I64 a) := fun a ha => by simp at ha
        clear hsrc HII hL0 hq1
        rcases lq with _ | aq
        · refine wp_region_off (fun w' => w'.cell? ⟨g, o + i * 3 + 2, none⟩ = some ((.slice none 0 dap)) ∧ w'.cell? ⟨W1.heap.size, 0, none⟩ = some (.slice vp i vcap)) 25 rfl rfl (by kernel_rfl) (by kernel_rfl) rfl (by kernel_rfl) (by kernel_rfl) (by kernel_rfl) (fun hHeld => ?_) ⟨x2c, c0⟩
          simp only [List.take_succ_cons, List.take_zero]
          refine wpAnyH_take (i := 0) (v := ?_) rfl (by kernel_rfl) (by kernel_rfl) (by kernel_rfl) (fun _ _ _ h => h) (Or.inl ⟨by rfl, ?_⟩) (by assumption) ?_
          rotate_left
          · intro w hSw
            (try dsimp only at hSw)
            obtain ⟨hSa, hSb⟩ := hSw
            simp only [List.getElem_toArray, List.getElem_cons_zero, List.getElem_cons_succ]
            go_simp
            all_goals with_reducible rfl
          simp only [List.getElem_toArray, List.getElem_cons_zero, List.getElem_cons_succ, Act.put, List.setIfInBounds_toArray, List.set_cons_zero, List.set_cons_succ]
          refine wpAnyH_take (i := 1) (v := ?_) rfl (by kernel_rfl) (by kernel_rfl) (by kernel_rfl) (fun _ _ _ h => h) (Or.inl ⟨by rfl, ?_⟩) (by assumption) ?_
          rotate_left
          · intro w hSw
            (try dsimp only at hSw)
            obtain ⟨hSa, hSb⟩ := hSw
            simp only [List.getElem_toArray, List.getElem_cons_zero, List.getElem_cons_succ]
            go_simp
            all_goals with_reducible rfl
          simp only [List.getElem_toArray, List.getElem_cons_zero, List.getElem_cons_succ, Act.put, List.setIfInBounds_toArray, List.set_cons_zero, List.set_cons_succ]
          refine wpAnyH_take (i := 2) (v := ?_) rfl (by kernel_rfl) (by kernel_rfl) (by kernel_rfl) (fun _ _ _ h => h) (Or.inl ⟨by rfl, ?_⟩) (by assumption) ?_
          rotate_left
          · intro w hSw
            (try dsimp only at hSw)
            obtain ⟨hSa, hSb⟩ := hSw
            simp only [List.getElem_toArray, List.getElem_cons_zero, List.getElem_cons_succ]
            go_simp
            all_goals with_reducible rfl
          simp only [List.getElem_toArray, List.getElem_cons_zero, List.getElem_cons_succ, Act.put, List.setIfInBounds_toArray, List.set_cons_zero, List.set_cons_succ]
          refine wpAnyH_take (i := 5) (v := ?_) rfl (by kernel_rfl) (by kernel_rfl) (by kernel_rfl) (fun _ _ _ h => h) (Or.inl ⟨by rfl, ?_⟩) (by assumption) ?_
          rotate_left
          · intro w hSw
            (try dsimp only at hSw)
            obtain ⟨hSa, hSb⟩ := hSw
            simp only [List.getElem_toArray, List.getElem_cons_zero, List.getElem_cons_succ]
            go_simp
            all_goals with_reducible rfl
          simp only [List.getElem_toArray, List.getElem_cons_zero, List.getElem_cons_succ, Act.put, List.setIfInBounds_toArray, List.set_cons_zero, List.set_cons_succ]
          refine wpAnyH_take (i := 6) (v := ?_) rfl (by kernel_rfl) (by kernel_rfl) (by kernel_rfl) (fun _ _ _ h => h) (Or.inl ⟨by rfl, ?_⟩) (by assumption) ?_
          rotate_left
          · intro w hSw
            (try dsimp only at hSw)
            obtain ⟨hSa, hSb⟩ := hSw
            simp only [List.getElem_toArray, List.getElem_cons_zero, List.getElem_cons_succ]
            go_simp
            all_goals with_reducible rfl
          simp only [List.getElem_toArray, List.getElem_cons_zero, List.getElem_cons_succ, Act.put, List.setIfInBounds_toArray, List.set_cons_zero, List.set_cons_succ]
          refine wpAnyH_take (i := 7) (v := ?_) rfl (by kernel_rfl) (by kernel_rfl) (by kernel_rfl) (fun _ _ _ h => h) (Or.inl ⟨by rfl, ?_⟩) (by assumption) ?_
          rotate_left
          · intro w hSw
            (try dsimp only at hSw)
            obtain ⟨hSa, hSb⟩ := hSw
            simp only [List.getElem_toArray, List.getElem_cons_zero, List.getElem_cons_succ]
            go_simp
            all_goals with_reducible rfl
          simp only [List.getElem_toArray, List.getElem_cons_zero, List.getElem_cons_succ, Act.put, List.setIfInBounds_toArray, List.set_cons_zero, List.set_cons_succ]
          refine wpAnyH_take (i := 8) (v := ?_) rfl (by kernel_rfl) (by kernel_rfl) (by kernel_rfl) (fun _ _ _ h => h) (Or.inl ⟨by rfl, ?_⟩) (by assumption) ?_
          rotate_left
          · intro w hSw
            (try dsimp only at hSw)
            obtain ⟨hSa, hSb⟩ := hSw
            simp only [List.getElem_toArray, List.getElem_cons_zero, List.getElem_cons_succ]
            go_simp
            all_goals with_reducible rfl
          simp only [List.getElem_toArray, List.getElem_cons_zero, List.getElem_cons_succ, Act.put, List.setIfInBounds_toArray, List.set_cons_zero, List.set_cons_succ]
          refine wpAnyH_take (i := 9) (v := ?_) rfl (by kernel_rfl) (by kernel_rfl) (by kernel_rfl) (fun _ _ _ h => h) (Or.inl ⟨by rfl, ?_⟩) (by assumption) ?_
          rotate_left
          · intro w hSw
            (try dsimp only at hSw)
            obtain ⟨hSa, hSb⟩ := hSw
            simp only [List.getElem_toArray, List.getElem_cons_zero, List.getElem_cons_succ]
            go_simp
            all_goals with_reducible rfl
          simp only [List.getElem_toArray, List.getElem_cons_zero, List.getElem_cons_succ, Act.put, List.setIfInBounds_toArray, List.set_cons_zero, List.set_cons_succ]
          refine wpAnyH_take (i := 10) (v := ?_) rfl (by kernel_rfl) (by kernel_rfl) (by kernel_rfl) (fun _ _ _ h => h) (Or.inl ⟨by rfl, ?_⟩) (by assumption) ?_
          rotate_left
          · intro w hSw
            (try dsimp only at hSw)
            obtain ⟨hSa, hSb⟩ := hSw
            simp only [List.getElem_toArray, List.getElem_cons_zero, List.getElem_cons_succ]
            go_simp
            all_goals with_reducible rfl
          simp only [List.getElem_toArray, List.getElem_cons_zero, List.getElem_cons_succ, Act.put, List.setIfInBounds_toArray, List.set_cons_zero, List.set_cons_succ]
          refine wpAnyH_take (i := 11) (v := ?_) rfl (by kernel_rfl) (by kernel_rfl) (by kernel_rfl) (fun _ _ _ h => h) (Or.inl ⟨by rfl, ?_⟩) (by assumption) ?_
          rotate_left
          · intro w hSw
            (try dsimp only at hSw)
            obtain ⟨hSa, hSb⟩ := hSw
            simp only [List.getElem_toArray, List.getElem_cons_zero, List.getElem_cons_succ]
            go_simp
            all_goals with_reducible rfl
          simp only [List.getElem_toArray, List.getElem_cons_zero, List.getElem_cons_succ, Act.put, List.setIfInBounds_toArray, List.set_cons_zero, List.set_cons_succ]
          refine wpAnyH_take (i := 12) (v := ?_) rfl (by kernel_rfl) (by kernel_rfl) (by kernel_rfl) (fun _ _ _ h => h) (Or.inl ⟨by rfl, ?_⟩) (by assumption) ?_
          rotate_left
          · intro w hSw
            (try dsimp only at hSw)
            obtain ⟨hSa, hSb⟩ := hSw
            simp only [List.getElem_toArray, List.getElem_cons_zero, List.getElem_cons_succ]
            go_simp
            all_goals with_reducible rfl
          simp only [List.getElem_toArray, List.getElem_cons_zero, List.getElem_cons_succ, Act.put, List.setIfInBounds_toArray, List.set_cons_zero, List.set_cons_succ]
          refine wpAnyH_take (i := 13) (v := ?_) rfl (by kernel_rfl) (by kernel_rfl) (by kernel_rfl) (fun _ _ _ h => h) (Or.inl ⟨by rfl, ?_⟩) (by assumption) ?_
          rotate_left
          · intro w hSw
            (try dsimp only at hSw)
            obtain ⟨hSa, hSb⟩ := hSw
            simp only [List.getElem_toArray, List.getElem_cons_zero, List.getElem_cons_succ]
            go_simp
            all_goals with_reducible rfl
          simp only [List.getElem_toArray, List.getElem_cons_zero, List.getElem_cons_succ, Act.put, List.setIfInBounds_toArray, List.set_cons_zero, List.set_cons_succ]
          refine wpAnyH_take (i := 14) (v := ?_) rfl (by kernel_rfl) (by kernel_rfl) (by kernel_rfl) (fun _ _ _ h => h) (Or.inl ⟨by rfl, ?_⟩) (by assumption) ?_
          rotate_left
          · intro w hSw
            (try dsimp only at hSw)
            obtain ⟨hSa, hSb⟩ := hSw
            simp only [List.getElem_toArray, List.getElem_cons_zero, List.getElem_cons_succ]
            go_simp
            all_goals with_reducible rfl
          simp only [List.getElem_toArray, List.getElem_cons_zero, List.getElem_cons_succ, Act.put, List.setIfInBounds_toArray, List.set_cons_zero, List.set_cons_succ]
          refine wpAnyH_take (i := 15) (v := ?_) rfl (by kernel_rfl) (by kernel_rfl) (by kernel_rfl) (fun _ _ _ h => h) (Or.inl ⟨by rfl, ?_⟩) (by assumption) ?_
          rotate_left
          · intro w hSw
            (try dsimp only at hSw)
            obtain ⟨hSa, hSb⟩ := hSw
            simp only [List.getElem_toArray, List.getElem_cons_zero, List.getElem_cons_succ]
            go_simp
            all_goals with_reducible rfl
          simp only [List.getElem_toArray, List.getElem_cons_zero, List.getElem_cons_succ, Act.put, List.setIfInBounds_toArray, List.set_cons_zero, List.set_cons_succ]
          refine wpAnyH_take (i := 16) (v := ?_) rfl (by kernel_rfl) (by kernel_rfl) (by kernel_rfl) (fun _ _ _ h => h) (Or.inl ⟨by rfl, ?_⟩) (by assumption) ?_
          rotate_left
          · intro w hSw
            (try dsimp only at hSw)
            obtain ⟨hSa, hSb⟩ := hSw
            simp only [List.getElem_toArray, List.getElem_cons_zero, List.getElem_cons_succ]
            go_simp
            all_goals with_reducible rfl
          simp only [List.getElem_toArray, List.getElem_cons_zero, List.getElem_cons_succ, Act.put, List.setIfInBounds_toArray, List.set_cons_zero, List.set_cons_succ]
          refine wpAnyH_take (i := 17) (v := ?_) rfl (by kernel_rfl) (by kernel_rfl) (by kernel_rfl) (fun _ _ _ h => h) (Or.inl ⟨by rfl, ?_⟩) (by assumption) ?_
          rotate_left
          · intro w hSw
            (try dsimp only at hSw)
            obtain ⟨hSa, hSb⟩ := hSw
            simp only [List.getElem_toArray, List.getElem_cons_zero, List.getElem_cons_succ]
            go_simp
            all_goals with_reducible rfl
          simp only [List.getElem_toArray, List.getElem_cons_zero, List.getElem_cons_succ, Act.put, List.setIfInBounds_toArray, List.set_cons_zero, List.set_cons_succ]
          refine wpAnyH_take (i := 18) (v := ?_) rfl (by kernel_rfl) (by kernel_rfl) (by kernel_rfl) (fun _ _ _ h => h) (Or.inl ⟨by rfl, ?_⟩) (by assumption) ?_
          rotate_left
          · intro w hSw
            (try dsimp only at hSw)
            obtain ⟨hSa, hSb⟩ := hSw
            simp only [List.getElem_toArray, List.getElem_cons_zero, List.getElem_cons_succ]
            go_simp
            all_goals with_reducible rfl
          simp only [List.getElem_toArray, List.getElem_cons_zero, List.getElem_cons_succ, Act.put, List.setIfInBounds_toArray, List.set_cons_zero, List.set_cons_succ]
          refine wpAnyH_take (i := 19) (v := ?_) rfl (by kernel_rfl) (by kernel_rfl) (by kernel_rfl) (fun _ _ _ h => h) (Or.inl ⟨by rfl, ?_⟩) (by assumption) ?_
          rotate_left
          · intro w hSw
            (try dsimp only at hSw)
            obtain ⟨hSa, hSb⟩ := hSw
            simp only [List.getElem_toArray, List.getElem_cons_zero, List.getElem_cons_succ]
            go_simp
            all_goals with_reducible rfl
          simp only [List.getElem_toArray, List.getElem_cons_zero, List.getElem_cons_succ, Act.put, List.setIfInBounds_toArray, List.set_cons_zero, List.set_cons_succ]
          refine wpAnyH_ready (rs := [3]) (by kernel_rfl) (by simp) ?_
          refine AllReadyH.cons (i := 3) rfl (fun K hK => ?_) AllReadyH.nil
          rw [if_pos (by rfl)]
          go_simp
          go_at_call 23
          apply Calls.mono
          (focus (with_reducible (exact cT _)))
          rintro e w1 ⟨rfl, hl⟩
          (replace LW := Later.trans LW hl; replace HO := ownsH_later HO hl; replace HB := heapH_later HB hl; replace HI := intsH_later HI hl; replace c0 := cell_later c0 hl; replace x2c := cell_later x2c hl; clear hl)
          refine hK.out _ _ ⟨x2c, c0⟩ (fun hHeld => ?_)
          clear hK
          (try simp only [List.getElem_toArray, List.getElem_cons_zero, List.getElem_cons_succ, Act.put, List.setIfInBounds_toArray, List.set_cons_zero, List.set_cons_succ])
          refine wpAnyH_take (i := 4) (v := ?_) rfl (by kernel_rfl) (by kernel_rfl) (by kernel_rfl) (fun _ _ _ h => h) (Or.inl ⟨by rfl, ?_⟩) (by assumption) ?_
          rotate_left
          · intro w hSw
            (try dsimp only at hSw)
            obtain ⟨hSa, hSb⟩ := hSw
            simp only [List.getElem_toArray, List.getElem_cons_zero, List.getElem_cons_succ]
            go_simp
            all_goals with_reducible rfl
          simp only [List.getElem_toArray, List.getElem_cons_zero, List.getElem_cons_succ, Act.put, List.setIfInBounds_toArray, List.set_cons_zero, List.set_cons_succ]
          refine wpAnyH_take (i := 20) (v := ?_) rfl (by kernel_rfl) (by kernel_rfl) (by kernel_rfl) (fun _ _ _ h => h) (Or.inl ⟨by rfl, ?_⟩) (by assumption) ?_
          rotate_left
          · intro w hSw
            (try dsimp only at hSw)
            obtain ⟨hSa, hSb⟩ := hSw
            simp only [List.getElem_toArray, List.getElem_cons_zero, List.getElem_cons_succ]
            go_simp
            all_goals with_reducible rfl
          simp only [List.getElem_toArray, List.getElem_cons_zero, List.getElem_cons_succ, Act.put, List.setIfInBounds_toArray, List.set_cons_zero, List.set_cons_succ]
          refine wpAnyH_take (i := 21) (v := ?_) rfl (by kernel_rfl) (by kernel_rfl) (by kernel_rfl) (fun _ _ _ h => h) (Or.inl ⟨by rfl, ?_⟩) (by assumption) ?_
          rotate_left
          · intro w hSw
            (try dsimp only at hSw)
            obtain ⟨hSa, hSb⟩ := hSw
            simp only [List.getElem_toArray, List.getElem_cons_zero, List.getElem_cons_succ]
            go_simp
            all_goals with_reducible rfl
          simp only [List.getElem_toArray, List.getElem_cons_zero, List.getElem_cons_succ, Act.put, List.setIfInBounds_toArray, List.set_cons_zero, List.set_cons_succ]
          refine wpAnyH_ready (rs := [22]) (by kernel_rfl) (by simp) ?_
          refine AllReadyH.cons (i := 22) rfl (fun K hK => ?_) AllReadyH.nil
          rw [if_pos (by rfl)]
          go_simp
          refine hK.out _ _ ⟨cell_later x2c (Later.alloc (Later.refl _) _), cell_later c0 (Later.alloc (Later.refl _) _)⟩ (fun hHeld => ?_)
          clear hK
          (try simp only [List.getElem_toArray, List.getElem_cons_zero, List.getElem_cons_succ, Act.put, List.setIfInBounds_toArray, List.set_cons_zero, List.set_cons_succ])
          refine wpAnyH_ready (rs := [23]) (by kernel_rfl) (by simp) ?_
          refine AllReadyH.cons (i := 23) rfl (fun K hK => ?_) AllReadyH.nil
          rw [if_pos (by rfl)]
          refine step_sym (W1 := W1) (i := i) (z := z) (vp := vp) (vcap := vcap) (S := S) (v := .slice none 0 0) (M := []) ?_ ?_ ?_ ?_ LW HO HB HI (World.ownsRow_nil _ _ _ _) HA2.out h6 hNm hzz (Nat.zero_le _) rfl ?_
          · rfl
          · rfl
          · simp [Act.eval]
          · simp [Act.eval]
          intro p3 q3 w3 hl3 f0 f2 HX3
          refine hK.out _ _ ⟨cell_later x2 hl3, f0⟩ (fun hHeld => ?_)
          clear hK
          (try simp only [List.getElem_toArray, List.getElem_cons_zero, List.getElem_cons_succ, Act.put, List.setIfInBounds_toArray, List.set_cons_zero, List.set_cons_succ])
          refine wpAnyH_take (i := 24) (v := ?_) rfl (by kernel_rfl) (by kernel_rfl) (by kernel_rfl) (fun _ _ _ h => h) (Or.inl ⟨by rfl, ?_⟩) (by assumption) ?_
          rotate_left
          · intro w hSw
            (try dsimp only at hSw)
            obtain ⟨hSa, hSb⟩ := hSw
            simp only [List.getElem_toArray, List.getElem_cons_zero, List.getElem_cons_succ]
            go_simp
            all_goals with_reducible rfl
          simp only [List.getElem_toArray, List.getElem_cons_zero, List.getElem_cons_succ, Act.put, List.setIfInBounds_toArray, List.set_cons_zero, List.set_cons_succ]
          refine wpAnyH_done (by kernel_rfl) ?_ _
          show Oper.wp _ _ _ _ _ _
          go_simp
          go_wp2
          go_roundw
          case rel => exact ⟨i + 1, by go_num, by omega, by omega, (by first | exact HX3 | exact hid_mk (MadeRel.drew HX3.out))⟩
          case measure => simp [intOf]; omega
        · refine wp_region_off (fun w' => w'.cell? ⟨g, o + i * 3 + 2, none⟩ = some ((.slice (some aq) 0 dap)) ∧ w'.cell? ⟨W1.heap.size, 0, none⟩ = some (.slice vp i vcap)) 25 rfl rfl (by kernel_rfl) (by kernel_rfl) rfl (by kernel_rfl) (by kernel_rfl) (by kernel_rfl) (fun hHeld => ?_) ⟨x2c, c0⟩
          simp only [List.take_succ_cons, List.take_zero]
          refine wpAnyH_take (i := 0) (v := ?_) rfl (by kernel_rfl) (by kernel_rfl) (by kernel_rfl) (fun _ _ _ h => h) (Or.inl ⟨by rfl, ?_⟩) (by assumption) ?_
          rotate_left
          · intro w hSw
            (try dsimp only at hSw)
            obtain ⟨hSa, hSb⟩ := hSw
            simp only [List.getElem_toArray, List.getElem_cons_zero, List.getElem_cons_succ]
            go_simp
            all_goals with_reducible rfl
          simp only [List.getElem_toArray, List.getElem_cons_zero, List.getElem_cons_succ, Act.put, List.setIfInBounds_toArray, List.set_cons_zero, List.set_cons_succ]
          refine wpAnyH_take (i := 1) (v := ?_) rfl (by kernel_rfl) (by kernel_rfl) (by kernel_rfl) (fun _ _ _ h => h) (Or.inl ⟨by rfl, ?_⟩) (by assumption) ?_
          rotate_left
          · intro w hSw
            (try dsimp only at hSw)
            obtain ⟨hSa, hSb⟩ := hSw
            simp only [List.getElem_toArray, List.getElem_cons_zero, List.getElem_cons_succ]
            go_simp
            all_goals with_reducible rfl
          simp only [List.getElem_toArray, List.getElem_cons_zero, List.getElem_cons_succ, Act.put, List.setIfInBounds_toArray, List.set_cons_zero, List.set_cons_succ]
          refine wpAnyH_take (i := 2) (v := ?_) rfl (by kernel_rfl) (by kernel_rfl) (by kernel_rfl) (fun _ _ _ h => h) (Or.inl ⟨by rfl, ?_⟩) (by assumption) ?_
          rotate_left
          · intro w hSw
            (try dsimp only at hSw)
            obtain ⟨hSa, hSb⟩ := hSw
            simp only [List.getElem_toArray, List.getElem_cons_zero, List.getElem_cons_succ]
            go_simp
            all_goals with_reducible rfl
          simp only [List.getElem_toArray, List.getElem_cons_zero, List.getElem_cons_succ, Act.put, List.setIfInBounds_toArray, List.set_cons_zero, List.set_cons_succ]
          refine wpAnyH_take (i := 5) (v := ?_) rfl (by kernel_rfl) (by kernel_rfl) (by kernel_rfl) (fun _ _ _ h => h) (Or.inl ⟨by rfl, ?_⟩) (by assumption) ?_
          rotate_left
          · intro w hSw
            (try dsimp only at hSw)
            obtain ⟨hSa, hSb⟩ := hSw
            simp only [List.getElem_toArray, List.getElem_cons_zero, List.getElem_cons_succ]
            go_simp
            all_goals with_reducible rfl
          simp only [List.getElem_toArray, List.getElem_cons_zero, List.getElem_cons_succ, Act.put, List.setIfInBounds_toArray, List.set_cons_zero, List.set_cons_succ]
          refine wpAnyH_take (i := 6) (v := ?_) rfl (by kernel_rfl) (by kernel_rfl) (by kernel_rfl) (fun _ _ _ h => h) (Or.inl ⟨by rfl, ?_⟩) (by assumption) ?_
          rotate_left
          · intro w hSw
            (try dsimp only at hSw)
            obtain ⟨hSa, hSb⟩ := hSw
            simp only [List.getElem_toArray, List.getElem_cons_zero, List.getElem_cons_succ]
            go_simp
            all_goals with_reducible rfl
          simp only [List.getElem_toArray, List.getElem_cons_zero, List.getElem_cons_succ, Act.put, List.setIfInBounds_toArray, List.set_cons_zero, List.set_cons_succ]
          refine wpAnyH_take (i := 7) (v := ?_) rfl (by kernel_rfl) (by kernel_rfl) (by kernel_rfl) (fun _ _ _ h => h) (Or.inl ⟨by rfl, ?_⟩) (by assumption) ?_
          rotate_left
          · intro w hSw
            (try dsimp only at hSw)
            obtain ⟨hSa, hSb⟩ := hSw
            simp only [List.getElem_toArray, List.getElem_cons_zero, List.getElem_cons_succ]
            go_simp
            all_goals with_reducible rfl
          simp only [List.getElem_toArray, List.getElem_cons_zero, List.getElem_cons_succ, Act.put, List.setIfInBounds_toArray, List.set_cons_zero, List.set_cons_succ]
          refine wpAnyH_take (i := 8) (v := ?_) rfl (by kernel_rfl) (by kernel_rfl) (by kernel_rfl) (fun _ _ _ h => h) (Or.inl ⟨by rfl, ?_⟩) (by assumption) ?_
          rotate_left
          · intro w hSw
            (try dsimp only at hSw)
            obtain ⟨hSa, hSb⟩ := hSw
            simp only [List.getElem_toArray, List.getElem_cons_zero, List.getElem_cons_succ]
            go_simp
            all_goals with_reducible rfl
          simp only [List.getElem_toArray, List.getElem_cons_zero, List.getElem_cons_succ, Act.put, List.setIfInBounds_toArray, List.set_cons_zero, List.set_cons_succ]
          refine wpAnyH_take (i := 9) (v := ?_) rfl (by kernel_rfl) (by kernel_rfl) (by kernel_rfl) (fun _ _ _ h => h) (Or.inl ⟨by rfl, ?_⟩) (by assumption) ?_
          rotate_left
          · intro w hSw
            (try dsimp only at hSw)
            obtain ⟨hSa, hSb⟩ := hSw
            simp only [List.getElem_toArray, List.getElem_cons_zero, List.getElem_cons_succ]
            go_simp
            all_goals with_reducible rfl
          simp only [List.getElem_toArray, List.getElem_cons_zero, List.getElem_cons_succ, Act.put, List.setIfInBounds_toArray, List.set_cons_zero, List.set_cons_succ]
          refine wpAnyH_take (i := 10) (v := ?_) rfl (by kernel_rfl) (by kernel_rfl) (by kernel_rfl) (fun _ _ _ h => h) (Or.inl ⟨by rfl, ?_⟩) (by assumption) ?_
          rotate_left
          · intro w hSw
            (try dsimp only at hSw)
            obtain ⟨hSa, hSb⟩ := hSw
            simp only [List.getElem_toArray, List.getElem_cons_zero, List.getElem_cons_succ]
            go_simp
            all_goals with_reducible rfl
          simp only [List.getElem_toArray, List.getElem_cons_zero, List.getElem_cons_succ, Act.put, List.setIfInBounds_toArray, List.set_cons_zero, List.set_cons_succ]
          refine wpAnyH_take (i := 11) (v := ?_) rfl (by kernel_rfl) (by kernel_rfl) (by kernel_rfl) (fun _ _ _ h => h) (Or.inl ⟨by rfl, ?_⟩) (by assumption) ?_
          rotate_left
          · intro w hSw
            (try dsimp only at hSw)
            obtain ⟨hSa, hSb⟩ := hSw
            simp only [List.getElem_toArray, List.getElem_cons_zero, List.getElem_cons_succ]
            go_simp
            all_goals with_reducible rfl
          simp only [List.getElem_toArray, List.getElem_cons_zero, List.getElem_cons_succ, Act.put, List.setIfInBounds_toArray, List.set_cons_zero, List.set_cons_succ]
          refine wpAnyH_take (i := 12) (v := ?_) rfl (by kernel_rfl) (by kernel_rfl) (by kernel_rfl) (fun _ _ _ h => h) (Or.inl ⟨by rfl, ?_⟩) (by assumption) ?_
          rotate_left
          · intro w hSw
            (try dsimp only at hSw)
            obtain ⟨hSa, hSb⟩ := hSw
            simp only [List.getElem_toArray, List.getElem_cons_zero, List.getElem_cons_succ]
            go_simp
            all_goals with_reducible rfl
          simp only [List.getElem_toArray, List.getElem_cons_zero, List.getElem_cons_succ, Act.put, List.setIfInBounds_toArray, List.set_cons_zero, List.set_cons_succ]
          refine wpAnyH_take (i := 13) (v := ?_) rfl (by kernel_rfl) (by kernel_rfl) (by kernel_rfl) (fun _ _ _ h => h) (Or.inl ⟨by rfl, ?_⟩) (by assumption) ?_
          rotate_left
          · intro w hSw
            (try dsimp only at hSw)
            obtain ⟨hSa, hSb⟩ := hSw
            simp only [List.getElem_toArray, List.getElem_cons_zero, List.getElem_cons_succ]
            go_simp
            all_goals with_reducible rfl
          simp only [List.getElem_toArray, List.getElem_cons_zero, List.getElem_cons_succ, Act.put, List.setIfInBounds_toArray, List.set_cons_zero, List.set_cons_succ]
          refine wpAnyH_take (i := 14) (v := ?_) rfl (by kernel_rfl) (by kernel_rfl) (by kernel_rfl) (fun _ _ _ h => h) (Or.inl ⟨by rfl, ?_⟩) (by assumption) ?_
          rotate_left
          · intro w hSw
            (try dsimp only at hSw)
            obtain ⟨hSa, hSb⟩ := hSw
            simp only [List.getElem_toArray, List.getElem_cons_zero, List.getElem_cons_succ]
            go_simp
            all_goals with_reducible rfl
          simp only [List.getElem_toArray, List.getElem_cons_zero, List.getElem_cons_succ, Act.put, List.setIfInBounds_toArray, List.set_cons_zero, List.set_cons_succ]
          refine wpAnyH_take (i := 15) (v := ?_) rfl (by kernel_rfl) (by kernel_rfl) (by kernel_rfl) (fun _ _ _ h => h) (Or.inl ⟨by rfl, ?_⟩) (by assumption) ?_
          rotate_left
          · intro w hSw
            (try dsimp only at hSw)
            obtain ⟨hSa, hSb⟩ := hSw
            simp only [List.getElem_toArray, List.getElem_cons_zero, List.getElem_cons_succ]
            go_simp
            all_goals with_reducible rfl
          simp only [List.getElem_toArray, List.getElem_cons_zero, List.getElem_cons_succ, Act.put, List.setIfInBounds_toArray, List.set_cons_zero, List.set_cons_succ]
          refine wpAnyH_take (i := 16) (v := ?_) rfl (by kernel_rfl) (by kernel_rfl) (by kernel_rfl) (fun _ _ _ h => h) (Or.inl ⟨by rfl, ?_⟩) (by assumption) ?_
          rotate_left
          · intro w hSw
            (try dsimp only at hSw)
            obtain ⟨hSa, hSb⟩ := hSw
            simp only [List.getElem_toArray, List.getElem_cons_zero, List.getElem_cons_succ]
            go_simp
            all_goals with_reducible rfl
          simp only [List.getElem_toArray, List.getElem_cons_zero, List.getElem_cons_succ, Act.put, List.setIfInBounds_toArray, List.set_cons_zero, List.set_cons_succ]
          refine wpAnyH_take (i := 17) (v := ?_) rfl (by kernel_rfl) (by kernel_rfl) (by kernel_rfl) (fun _ _ _ h => h) (Or.inl ⟨by rfl, ?_⟩) (by assumption) ?_
          rotate_left
          · intro w hSw
            (try dsimp only at hSw)
            obtain ⟨hSa, hSb⟩ := hSw
            simp only [List.getElem_toArray, List.getElem_cons_zero, List.getElem_cons_succ]
            go_simp
            all_goals with_reducible rfl
          simp only [List.getElem_toArray, List.getElem_cons_zero, List.getElem_cons_succ, Act.put, List.setIfInBounds_toArray, List.set_cons_zero, List.set_cons_succ]
          refine wpAnyH_take (i := 18) (v := ?_) rfl (by kernel_rfl) (by kernel_rfl) (by kernel_rfl) (fun _ _ _ h => h) (Or.inl ⟨by rfl, ?_⟩) (by assumption) ?_
          rotate_left
          · intro w hSw
            (try dsimp only at hSw)
            obtain ⟨hSa, hSb⟩ := hSw
            simp only [List.getElem_toArray, List.getElem_cons_zero, List.getElem_cons_succ]
            go_simp
            all_goals with_reducible rfl
          simp only [List.getElem_toArray, List.getElem_cons_zero, List.getElem_cons_succ, Act.put, List.setIfInBounds_toArray, List.set_cons_zero, List.set_cons_succ]
          refine wpAnyH_take (i := 19) (v := ?_) rfl (by kernel_rfl) (by kernel_rfl) (by kernel_rfl) (fun _ _ _ h => h) (Or.inl ⟨by rfl, ?_⟩) (by assumption) ?_
          rotate_left
          · intro w hSw
            (try dsimp only at hSw)
            obtain ⟨hSa, hSb⟩ := hSw
            simp only [List.getElem_toArray, List.getElem_cons_zero, List.getElem_cons_succ]
            go_simp
            all_goals with_reducible rfl
          simp only [List.getElem_toArray, List.getElem_cons_zero, List.getElem_cons_succ, Act.put, List.setIfInBounds_toArray, List.set_cons_zero, List.set_cons_succ]
          refine wpAnyH_ready (rs := [3]) (by kernel_rfl) (by simp) ?_
          refine AllReadyH.cons (i := 3) rfl (fun K hK => ?_) AllReadyH.nil
          rw [if_pos (by rfl)]
          go_simp
          go_at_call 23
          apply Calls.mono
          (focus (with_reducible (exact cT _)))
          rintro e w1 ⟨rfl, hl⟩
          (replace LW := Later.trans LW hl; replace HO := ownsH_later HO hl; replace HB := heapH_later HB hl; replace HI := intsH_later HI hl; replace c0 := cell_later c0 hl; replace x2c := cell_later x2c hl; clear hl)
          refine hK.out _ _ ⟨x2c, c0⟩ (fun hHeld => ?_)
          clear hK
          (try simp only [List.getElem_toArray, List.getElem_cons_zero, List.getElem_cons_succ, Act.put, List.setIfInBounds_toArray, List.set_cons_zero, List.set_cons_succ])
          refine wpAnyH_take (i := 4) (v := ?_) rfl (by kernel_rfl) (by kernel_rfl) (by kernel_rfl) (fun _ _ _ h => h) (Or.inl ⟨by rfl, ?_⟩) (by assumption) ?_
          rotate_left
          · intro w hSw
            (try dsimp only at hSw)
            obtain ⟨hSa, hSb⟩ := hSw
            simp only [List.getElem_toArray, List.getElem_cons_zero, List.getElem_cons_succ]
            go_simp
            all_goals with_reducible rfl
          simp only [List.getElem_toArray, List.getElem_cons_zero, List.getElem_cons_succ, Act.put, List.setIfInBounds_toArray, List.set_cons_zero, List.set_cons_succ]
          refine wpAnyH_take (i := 20) (v := ?_) rfl (by kernel_rfl) (by kernel_rfl) (by kernel_rfl) (fun _ _ _ h => h) (Or.inl ⟨by rfl, ?_⟩) (by assumption) ?_
          rotate_left
          · intro w hSw
            (try dsimp only at hSw)
            obtain ⟨hSa, hSb⟩ := hSw
            simp only [List.getElem_toArray, List.getElem_cons_zero, List.getElem_cons_succ]
            go_simp
            all_goals with_reducible rfl
          simp only [List.getElem_toArray, List.getElem_cons_zero, List.getElem_cons_succ, Act.put, List.setIfInBounds_toArray, List.set_cons_zero, List.set_cons_succ]
          refine wpAnyH_take (i := 21) (v := ?_) rfl (by kernel_rfl) (by kernel_rfl) (by kernel_rfl) (fun _ _ _ h => h) (Or.inl ⟨by rfl, ?_⟩) (by assumption) ?_
          rotate_left
          · intro w hSw
            (try dsimp only at hSw)
            obtain ⟨hSa, hSb⟩ := hSw
            simp only [List.getElem_toArray, List.getElem_cons_zero, List.getElem_cons_succ]
            go_simp
            all_goals with_reducible rfl
          simp only [List.getElem_toArray, List.getElem_cons_zero, List.getElem_cons_succ, Act.put, List.setIfInBounds_toArray, List.set_cons_zero, List.set_cons_succ]
          refine wpAnyH_ready (rs := [22]) (by kernel_rfl) (by simp) ?_
          refine AllReadyH.cons (i := 22) rfl (fun K hK => ?_) AllReadyH.nil
          rw [if_pos (by rfl)]
          go_simp
          refine hK.out _ _ ⟨cell_later x2c (Later.alloc (Later.refl _) _), cell_later c0 (Later.alloc (Later.refl _) _)⟩ (fun hHeld => ?_)
          clear hK
          (try simp only [List.getElem_toArray, List.getElem_cons_zero, List.getElem_cons_succ, Act.put, List.setIfInBounds_toArray, List.set_cons_zero, List.set_cons_succ])
          refine wpAnyH_ready (rs := [23]) (by kernel_rfl) (by simp) ?_
          refine AllReadyH.cons (i := 23) rfl (fun K hK => ?_) AllReadyH.nil
          rw [if_pos (by rfl)]
          refine step_sym (W1 := W1) (i := i) (z := z) (vp := vp) (vcap := vcap) (S := S) (v := .slice none 0 0) (M := []) ?_ ?_ ?_ ?_ LW HO HB HI (World.ownsRow_nil _ _ _ _) HA2.out h6 hNm hzz (Nat.zero_le _) rfl ?_
          · rfl
          · rfl
          · simp [Act.eval]
          · simp [Act.eval]
          intro p3 q3 w3 hl3 f0 f2 HX3
          refine hK.out _ _ ⟨cell_later x2 hl3, f0⟩ (fun hHeld => ?_)
          clear hK
          (try simp only [List.getElem_toArray, List.getElem_cons_zero, List.getElem_cons_succ, Act.put, List.setIfInBounds_toArray, List.set_cons_zero, List.set_cons_succ])
          refine wpAnyH_take (i := 24) (v := ?_) rfl (by kernel_rfl) (by kernel_rfl) (by kernel_rfl) (fun _ _ _ h => h) (Or.inl ⟨by rfl, ?_⟩) (by assumption) ?_
          rotate_left
          · intro w hSw
            (try dsimp only at hSw)
            obtain ⟨hSa, hSb⟩ := hSw
            simp only [List.getElem_toArray, List.getElem_cons_zero, List.getElem_cons_succ]
            go_simp
            all_goals with_reducible rfl
          simp only [List.getElem_toArray, List.getElem_cons_zero, List.getElem_cons_succ, Act.put, List.setIfInBounds_toArray, List.set_cons_zero, List.set_cons_succ]
          refine wpAnyH_done (by kernel_rfl) ?_ _
          show Oper.wp _ _ _ _ _ _
          go_simp
          go_wp2
          go_roundw
          case rel => exact ⟨i + 1, by go_num, by omega, by omega, (by first | exact HX3 | exact hid_mk (MadeRel.drew HX3.out))⟩
          case measure => simp [intOf]; omega
      · obtain ⟨g', o', rfl, hsrc2⟩ := hsrc (by rintro rfl; simp at hL0)
        obtain ⟨m, hm, hmz, hml, hm0⟩ : ∃ m : Nat, min (L.length : Int) (1 + (z : Int)) = (m : Int) ∧ m ≤ 1 + z ∧ m ≤ L.length ∧ 0 < m := by
          by_cases h : (L.length : Int) ≤ 1 + (z : Int)
          · exact ⟨L.length, by omega, by omega, Nat.le_refl _, by omega⟩
          · exact ⟨1 + z, by omega, Nat.le_refl _, by omega, by omega⟩
        have HM : Hid ((L.take m).length = m) := by show _ = _; rw [List.length_take]; omega
        have HA2 : Hid (∀ a ∈ L.take m, I64 a) := fun a ha => HII a (List.mem_of_mem_take ha)
        have HSrc : Hid (∀ j u, (intsV (L.take m))[j]? = some u → W1.cell? ((⟨g', o', none⟩ : Addr).add j) = some u) := fun j u hj => hsrc2 j u (by
          unfold intsV at hj ⊢
          rw [List.map_take, List.getElem?_take] at hj
          split at hj
          · exact hj
          · cases hj)
        generalize hMM : L.take m = M at *
        clear hMM hsrc2 HII
        have s0 : (0 : Int) ≤ (m : Int) := by omega
        have s1 : (m : Int) ≤ (dap : Int) := by omega
        have s3 : min (L.length : Int) (1 + (z : Int)) = (m : Int) := hm
        have x2c := cell_later x2 LW
        have hm10 : m ≤ 10 := by omega
        have hmz2 : M.length ≤ 1 + z := by rw [HM.out]; exact hmz
        clear hm
        refine wp_region_off (fun w' => w'.cell? ⟨g, o + i * 3 + 2, none⟩ = some ((.slice (some ⟨g', o', none⟩) L.length dap)) ∧ w'.cell? ⟨W1.heap.size, 0, none⟩ = some (.slice vp i vcap)) 25 rfl rfl (by kernel_rfl) (by kernel_rfl) rfl (by kernel_rfl) (by kernel_rfl) (by kernel_rfl) (fun hHeld => ?_) ⟨x2c, c0⟩
        simp only [List.take_succ_cons, List.take_zero]
        refine wpAnyH_take (i := 0) (v := ?_) rfl (by kernel_rfl) (by kernel_rfl) (by kernel_rfl) (fun _ _ _ h => h) (Or.inl ⟨by rfl, ?_⟩) (by assumption) ?_
        rotate_left
        · intro w hSw
          (try dsimp only at hSw)
          obtain ⟨hSa, hSb⟩ := hSw
          simp only [List.getElem_toArray, List.getElem_cons_zero, List.getElem_cons_succ]
          go_simp
          all_goals with_reducible rfl
        simp only [List.getElem_toArray, List.getElem_cons_zero, List.getElem_cons_succ, Act.put, List.setIfInBounds_toArray, List.set_cons_zero, List.set_cons_succ]
        refine wpAnyH_take (i := 1) (v := ?_) rfl (by kernel_rfl) (by kernel_rfl) (by kernel_rfl) (fun _ _ _ h => h) (Or.inl ⟨by rfl, ?_⟩) (by assumption) ?_
        rotate_left
        · intro w hSw
          (try dsimp only at hSw)
          obtain ⟨hSa, hSb⟩ := hSw
          simp only [List.getElem_toArray, List.getElem_cons_zero, List.getElem_cons_succ]
          go_simp
          all_goals with_reducible rfl
        simp only [List.getElem_toArray, List.getElem_cons_zero, List.getElem_cons_succ, Act.put, List.setIfInBounds_toArray, List.set_cons_zero, List.set_cons_succ]
        refine wpAnyH_take (i := 2) (v := ?_) rfl (by kernel_rfl) (by kernel_rfl) (by kernel_rfl) (fun _ _ _ h => h) (Or.inl ⟨by rfl, ?_⟩) (by assumption) ?_
        rotate_left
        · intro w hSw
          (try dsimp only at hSw)
          obtain ⟨hSa, hSb⟩ := hSw
          simp only [List.getElem_toArray, List.getElem_cons_zero, List.getElem_cons_succ]
          go_simp
          all_goals with_reducible rfl
        simp only [List.getElem_toArray, List.getElem_cons_zero, List.getElem_cons_succ, Act.put, List.setIfInBounds_toArray, List.set_cons_zero, List.set_cons_succ]
        refine wpAnyH_take (i := 5) (v := ?_) rfl (by kernel_rfl) (by kernel_rfl) (by kernel_rfl) (fun _ _ _ h => h) (Or.inl ⟨by rfl, ?_⟩) (by assumption) ?_
        rotate_left
        · intro w hSw
          (try dsimp only at hSw)
          obtain ⟨hSa, hSb⟩ := hSw
          simp only [List.getElem_toArray, List.getElem_cons_zero, List.getElem_cons_succ]
          go_simp
          all_goals with_reducible rfl
        simp only [List.getElem_toArray, List.getElem_cons_zero, List.getElem_cons_succ, Act.put, List.setIfInBounds_toArray, List.set_cons_zero, List.set_cons_succ]
        refine wpAnyH_take (i := 6) (v := ?_) rfl (by kernel_rfl) (by kernel_rfl) (by kernel_rfl) (fun _ _ _ h => h) (Or.inl ⟨by rfl, ?_⟩) (by assumption) ?_
        rotate_left
        · intro w hSw
          (try dsimp only at hSw)
          obtain ⟨hSa, hSb⟩ := hSw
          simp only [List.getElem_toArray, List.getElem_cons_zero, List.getElem_cons_succ]
          go_simp
          all_goals with_reducible rfl
        simp only [List.getElem_toArray, List.getElem_cons_zero, List.getElem_cons_succ, Act.put, List.setIfInBounds_toArray, List.set_cons_zero, List.set_cons_succ]
        refine wpAnyH_take (i := 7) (v := ?_) rfl (by kernel_rfl) (by kernel_rfl) (by kernel_rfl) (fun _ _ _ h => h) (Or.inl ⟨by rfl, ?_⟩) (by assumption) ?_
        rotate_left
        · intro w hSw
          (try dsimp only at hSw)
          obtain ⟨hSa, hSb⟩ := hSw
          simp only [List.getElem_toArray, List.getElem_cons_zero, List.getElem_cons_succ]
          go_simp
          all_goals with_reducible rfl
        simp only [List.getElem_toArray, List.getElem_cons_zero, List.getElem_cons_succ, Act.put, List.setIfInBounds_toArray, List.set_cons_zero, List.set_cons_succ]
        refine wpAnyH_take (i := 8) (v := ?_) rfl (by kernel_rfl) (by kernel_rfl) (by kernel_rfl) (fun _ _ _ h => h) (Or.inl ⟨by rfl, ?_⟩) (by assumption) ?_
        rotate_left
        · intro w hSw
          (try dsimp only at hSw)
          obtain ⟨hSa, hSb⟩ := hSw
          simp only [List.getElem_toArray, List.getElem_cons_zero, List.getElem_cons_succ]
          go_simp
          all_goals with_reducible rfl
        simp only [List.getElem_toArray, List.getElem_cons_zero, List.getElem_cons_succ, Act.put, List.setIfInBounds_toArray, List.set_cons_zero, List.set_cons_succ]
        refine wpAnyH_take (i := 9) (v := ?_) rfl (by kernel_rfl) (by kernel_rfl) (by kernel_rfl) (fun _ _ _ h => h) (Or.inl ⟨by rfl, ?_⟩) (by assumption) ?_
        rotate_left
        · intro w hSw
          (try dsimp only at hSw)
          obtain ⟨hSa, hSb⟩ := hSw
          simp only [List.getElem_toArray, List.getElem_cons_zero, List.getElem_cons_succ]
          go_simp
          all_goals with_reducible rfl
        simp only [List.getElem_toArray, List.getElem_cons_zero, List.getElem_cons_succ, Act.put, List.setIfInBounds_toArray, List.set_cons_zero, List.set_cons_succ]
        refine wpAnyH_take (i := 10) (v := ?_) rfl (by kernel_rfl) (by kernel_rfl) (by kernel_rfl) (fun _ _ _ h => h) (Or.inl ⟨by rfl, ?_⟩) (by assumption) ?_
        rotate_left
        · intro w hSw
          (try dsimp only at hSw)
          obtain ⟨hSa, hSb⟩ := hSw
          simp only [List.getElem_toArray, List.getElem_cons_zero, List.getElem_cons_succ]
          go_simp
          all_goals with_reducible rfl
        simp only [List.getElem_toArray, List.getElem_cons_zero, List.getElem_cons_succ, Act.put, List.setIfInBounds_toArray, List.set_cons_zero, List.set_cons_succ]
        refine wpAnyH_take (i := 11) (v := ?_) rfl (by kernel_rfl) (by kernel_rfl) (by kernel_rfl) (fun _ _ _ h => h) (Or.inl ⟨by rfl, ?_⟩) (by assumption) ?_
        rotate_left
        · intro w hSw
          (try dsimp only at hSw)
          obtain ⟨hSa, hSb⟩ := hSw
          simp only [List.getElem_toArray, List.getElem_cons_zero, List.getElem_cons_succ]
          go_simp
          all_goals with_reducible rfl
        simp only [List.getElem_toArray, List.getElem_cons_zero, List.getElem_cons_succ, Act.put, List.setIfInBounds_toArray, List.set_cons_zero, List.set_cons_succ]
        refine wpAnyH_take (i := 12) (v := ?_) rfl (by kernel_rfl) (by kernel_rfl) (by kernel_rfl) (fun _ _ _ h => h) (Or.inl ⟨by rfl, ?_⟩) (by assumption) ?_
        rotate_left
        · intro w hSw
          (try dsimp only at hSw)
          obtain ⟨hSa, hSb⟩ := hSw
          simp only [List.getElem_toArray, List.getElem_cons_zero, List.getElem_cons_succ]
          go_simp
          all_goals with_reducible rfl
        simp only [List.getElem_toArray, List.getElem_cons_zero, List.getElem_cons_succ, Act.put, List.setIfInBounds_toArray, List.set_cons_zero, List.set_cons_succ]
        refine wpAnyH_take (i := 13) (v := ?_) rfl (by kernel_rfl) (by kernel_rfl) (by kernel_rfl) (fun _ _ _ h => h) (Or.inl ⟨by rfl, ?_⟩) (by assumption) ?_
        rotate_left
        · intro w hSw
          (try dsimp only at hSw)
          obtain ⟨hSa, hSb⟩ := hSw
          simp only [List.getElem_toArray, List.getElem_cons_zero, List.getElem_cons_succ]
          go_simp
          all_goals with_reducible rfl
        simp only [List.getElem_toArray, List.getElem_cons_zero, List.getElem_cons_succ, Act.put, List.setIfInBounds_toArray, List.set_cons_zero, List.set_cons_succ]
        refine wpAnyH_take (i := 14) (v := ?_) rfl (by kernel_rfl) (by kernel_rfl) (by kernel_rfl) (fun _ _ _ h => h) (Or.inl ⟨by rfl, ?_⟩) (by assumption) ?_
        rotate_left
        · intro w hSw
          (try dsimp only at hSw)
          obtain ⟨hSa, hSb⟩ := hSw
          simp only [List.getElem_toArray, List.getElem_cons_zero, List.getElem_cons_succ]
          go_simp
          all_goals with_reducible rfl
        simp only [List.getElem_toArray, List.getElem_cons_zero, List.getElem_cons_succ, Act.put, List.setIfInBounds_toArray, List.set_cons_zero, List.set_cons_succ]
        refine wpAnyH_take (i := 15) (v := ?_) rfl (by kernel_rfl) (by kernel_rfl) (by kernel_rfl) (fun _ _ _ h => h) (Or.inl ⟨by rfl, ?_⟩) (by assumption) ?_
        rotate_left
        · intro w hSw
          (try dsimp only at hSw)
          obtain ⟨hSa, hSb⟩ := hSw
          simp only [List.getElem_toArray, List.getElem_cons_zero, List.getElem_cons_succ]
          go_simp
          all_goals with_reducible rfl
        simp only [List.getElem_toArray, List.getElem_cons_zero, List.getElem_cons_succ, Act.put, List.setIfInBounds_toArray, List.set_cons_zero, List.set_cons_succ]
        refine wpAnyH_take (i := 16) (v := ?_) rfl (by kernel_rfl) (by kernel_rfl) (by kernel_rfl) (fun _ _ _ h => h) (Or.inl ⟨by rfl, ?_⟩) (by assumption) ?_
        rotate_left
        · intro w hSw
          (try dsimp only at hSw)
          obtain ⟨hSa, hSb⟩ := hSw
          simp only [List.getElem_toArray, List.getElem_cons_zero, List.getElem_cons_succ]
          go_simp
          all_goals with_reducible rfl
        simp only [List.getElem_toArray, List.getElem_cons_zero, List.getElem_cons_succ, Act.put, List.setIfInBounds_toArray, List.set_cons_zero, List.set_cons_succ]
        refine wpAnyH_take (i := 17) (v := ?_) rfl (by kernel_rfl) (by kernel_rfl) (by kernel_rfl) (fun _ _ _ h => h) (Or.inl ⟨by rfl, ?_⟩) (by assumption) ?_
        rotate_left
        · intro w hSw
          (try dsimp only at hSw)
          obtain ⟨hSa, hSb⟩ := hSw
          simp only [List.getElem_toArray, List.getElem_cons_zero, List.getElem_cons_succ]
          go_simp
          all_goals with_reducible rfl
        simp only [List.getElem_toArray, List.getElem_cons_zero, List.getElem_cons_succ, Act.put, List.setIfInBounds_toArray, List.set_cons_zero, List.set_cons_succ]
        refine wpAnyH_take (i := 18) (v := ?_) rfl (by kernel_rfl) (by kernel_rfl) (by kernel_rfl) (fun _ _ _ h => h) (Or.inl ⟨by rfl, ?_⟩) (by assumption) ?_
        rotate_left
        · intro w hSw
          (try dsimp only at hSw)
          obtain ⟨hSa, hSb⟩ := hSw
          simp only [List.getElem_toArray, List.getElem_cons_zero, List.getElem_cons_succ]
          go_simp
          all_goals with_reducible rfl
        simp only [List.getElem_toArray, List.getElem_cons_zero, List.getElem_cons_succ, Act.put, List.setIfInBounds_toArray, List.set_cons_zero, List.set_cons_succ]
        refine wpAnyH_take (i := 19) (v := ?_) rfl (by kernel_rfl) (by kernel_rfl) (by kernel_rfl) (fun _ _ _ h => h) (Or.inl ⟨by rfl, ?_⟩) (by assumption) ?_
        rotate_left
        · intro w hSw
          (try dsimp only at hSw)
          obtain ⟨hSa, hSb⟩ := hSw
          simp only [List.getElem_toArray, List.getElem_cons_zero, List.getElem_cons_succ]
          go_simp
          all_goals with_reducible rfl
        simp only [List.getElem_toArray, List.getElem_cons_zero, List.getElem_cons_succ, Act.put, List.setIfInBounds_toArray, List.set_cons_zero, List.set_cons_succ]
        refine wpAnyH_ready (rs := [3]) (by kernel_rfl) (by simp) ?_
        refine AllReadyH.cons (i := 3) rfl (fun K hK => ?_) AllReadyH.nil
        rw [if_pos (by rfl)]
        go_simp
        go_at_call 23
        apply Calls.mono
        (focus (with_reducible (exact cT _)))
        rintro e w1 ⟨rfl, hl⟩
        (replace LW := Later.trans LW hl; replace HO := ownsH_later HO hl; replace HB := heapH_later HB hl; replace HI := intsH_later HI hl; replace c0 := cell_later c0 hl; replace x2c := cell_later x2c hl; clear hl)
        refine hK.out _ _ ⟨x2c, c0⟩ (fun hHeld => ?_)
        clear hK
        (try simp only [List.getElem_toArray, List.getElem_cons_zero, List.getElem_cons_succ, Act.put, List.setIfInBounds_toArray, List.set_cons_zero, List.set_cons_succ])
        refine wpAnyH_take (i := 4) (v := ?_) rfl (by kernel_rfl) (by kernel_rfl) (by kernel_rfl) (fun _ _ _ h => h) (Or.inl ⟨by rfl, ?_⟩) (by assumption) ?_
        rotate_left
        · intro w hSw
          (try dsimp only at hSw)
          obtain ⟨hSa, hSb⟩ := hSw
          simp only [List.getElem_toArray, List.getElem_cons_zero, List.getElem_cons_succ]
          go_simp
          all_goals with_reducible rfl
        simp only [List.getElem_toArray, List.getElem_cons_zero, List.getElem_cons_succ, Act.put, List.setIfInBounds_toArray, List.set_cons_zero, List.set_cons_succ]
        refine wpAnyH_ready (rs := [20]) (by kernel_rfl) (by simp) ?_
        refine AllReadyH.cons (i := 20) rfl (fun K hK => ?_) AllReadyH.nil
        rw [if_pos (by rfl)]
        refine step_init (W1 := W1) (g' := g') (o' := o') (m := m) (dap := dap) (M := M) ?_ ?_ ?_ LW HSrc HM hm10 (lt_block HB.out) ?_
        · rfl
        · rfl
        · simp [Act.eval]
        intro p2 q2 w2 hl HJ
        (replace LW := Later.trans LW hl; replace HO := ownsH_later HO hl; replace HB := heapH_later HB hl; replace HI := intsH_later HI hl; replace c0 := cell_later c0 hl; replace x2c := cell_later x2c hl; clear hl)
        refine hK.out _ _ ⟨x2c, c0⟩ (fun hHeld => ?_)
        clear hK
        (try simp only [List.getElem_toArray, List.getElem_cons_zero, List.getElem_cons_succ, Act.put, List.setIfInBounds_toArray, List.set_cons_zero, List.set_cons_succ])
        refine wpAnyH_take (i := 21) (v := ?_) rfl (by kernel_rfl) (by kernel_rfl) (by kernel_rfl) (fun _ _ _ h => h) (Or.inl ⟨by rfl, ?_⟩) (by assumption) ?_
        rotate_left
        · intro w hSw
          (try dsimp only at hSw)
          obtain ⟨hSa, hSb⟩ := hSw
          simp only [List.getElem_toArray, List.getElem_cons_zero, List.getElem_cons_succ]
          go_simp
          all_goals with_reducible rfl
        simp only [List.getElem_toArray, List.getElem_cons_zero, List.getElem_cons_succ, Act.put, List.setIfInBounds_toArray, List.set_cons_zero, List.set_cons_succ]
        refine wpAnyH_ready (rs := [22]) (by kernel_rfl) (by simp) ?_
        refine AllReadyH.cons (i := 22) rfl (fun K hK => ?_) AllReadyH.nil
        rw [if_pos (by rfl)]
        go_simp
        refine hK.out _ _ ⟨cell_later x2c (Later.alloc (Later.refl _) _), cell_later c0 (Later.alloc (Later.refl _) _)⟩ (fun hHeld => ?_)
        clear hK
        (try simp only [List.getElem_toArray, List.getElem_cons_zero, List.getElem_cons_succ, Act.put, List.setIfInBounds_toArray, List.set_cons_zero, List.set_cons_succ])
        refine wpAnyH_ready (rs := [23]) (by kernel_rfl) (by simp) ?_
        refine AllReadyH.cons (i := 23) rfl (fun K hK => ?_) AllReadyH.nil
        rw [if_pos (by rfl)]
        refine step_sym (W1 := W1) (i := i) (z := z) (vp := vp) (vcap := vcap) (S := S) (v := .slice p2 m q2) (M := M) ?_ ?_ ?_ ?_ LW HO HB HI (own_cast HM.out HJ.out) HA2.out h6 hNm hzz hmz2 rfl ?_
        · rfl
        · rfl
        · simp [Act.eval]
        · simp [Act.eval]
        intro p3 q3 w3 hl3 f0 f2 HX3
        refine hK.out _ _ ⟨cell_later x2 hl3, f0⟩ (fun hHeld => ?_)
        clear hK
        (try simp only [List.getElem_toArray, List.getElem_cons_zero, List.getElem_cons_succ, Act.put, List.setIfInBounds_toArray, List.set_cons_zero, List.set_cons_succ])
        refine wpAnyH_take (i := 24) (v := ?_) rfl (by kernel_rfl) (by kernel_rfl) (by kernel_rfl) (fun _ _ _ h => h) (Or.inl ⟨by rfl, ?_⟩) (by assumption) ?_
        rotate_left
        · intro w hSw
          (try dsimp only at hSw)
          obtain ⟨hSa, hSb⟩ := hSw
          simp only [List.getElem_toArray, List.getElem_cons_zero, List.getElem_cons_succ]
          go_simp
          all_goals with_reducible rfl
        simp only [List.getElem_toArray, List.getElem_cons_zero, List.getElem_cons_succ, Act.put, List.setIfInBounds_toArray, List.set_cons_zero, List.set_cons_succ]
        refine wpAnyH_done (by kernel_rfl) ?_ _
        show Oper.wp _ _ _ _ _ _
        go_simp
        go_wp2
        go_roundw
        case rel => exact ⟨i + 1, by go_num, by omega, by omega, (by first | exact HX3 | exact hid_mk (MadeRel.drew HX3.out))⟩
        case measure => simp [intOf]; omega
    · have h8c : S0.length ≤ i ∨ (i < S0.length ∧ 6 ≤ i) := by omega
      clear h8 HL
      have hsit : Sit w W1.heap.size (.slice vp i vcap) i S r wr #[.int .i64 k, .int .i64 a, .int .i64 s, .int .i64 d] := ⟨L0.trans hlw, hOw.out, hIn.out, hBk.out, heap_later hlw HBB, heap_later hlw HC, hW1⟩
      have hb4 := box4_facts hsit.opd
      have HS1 : Hid (Sit w W1.heap.size (.slice vp i vcap) i S r wr #[.int .i64 k, .int .i64 a, .int .i64 s, .int .i64 d]) := hsit
      have hok := HOK.out
      obtain ⟨hok0, hok1, hok2, hok3⟩ := hok
      dsimp only at hok0 hok1 hok2 hok3
      have q0 := fun w' => pick_any k 2 hok0 (by omega) w'
      have q1 := fun w' => pick_any s 7 hok2 (by omega) w'
      have q2 := fun w' => pick_any a 8 hok1 (by omega) w'
      obtain ⟨n0, hn0, hn0b⟩ : ∃ n : Nat, pick k 2 = n ∧ n ≤ 1 := ⟨(pick k 2).toNat, by unfold pick; omega, by unfold pick; omega⟩
      obtain ⟨n1, hn1, hn1b⟩ : ∃ n : Nat, pick s 7 = n ∧ n ≤ 6 := ⟨(pick s 7).toNat, by unfold pick; omega, by unfold pick; omega⟩
      obtain ⟨n2, hn2, hn2b⟩ : ∃ n : Nat, pick a 8 = n ∧ n ≤ 7 := ⟨(pick a 8).toNat, by unfold pick; omega, by unfold pick; omega⟩
      rw [hn0] at q0
      rw [hn1] at q1
      rw [hn2] at q2
      have hbi := bits_i64 .and d 7
      have HBI : Hid (I64 (bits .and .i64 d 7)) := hbi
      have q3 := fun w' => pick_any sym 8 hsy (by omega) w'
      have q4 := fun w' => pick_any addr 40 had (by omega) w'
      obtain ⟨n3, hn3, hn3b⟩ : ∃ n : Nat, pick sym 8 = n ∧ n ≤ 7 := ⟨(pick sym 8).toNat, by unfold pick; omega, by unfold pick; omega⟩
      obtain ⟨n4, hn4, hn4b⟩ : ∃ n : Nat, pick addr 40 = n ∧ n ≤ 39 := ⟨(pick addr 40).toNat, by unfold pick; omega, by unfold pick; omega⟩
      rw [hn3] at q3
      rw [hn4] at q4
      have HQ3 := hid_mk q3
      have HQ4 := hid_mk q4
      have hw3 := wrap_few ((n3 : Int) - 1) (by omega) (by omega)
      have hw4 := wrap_few ((n4 : Int) - 1) (by omega) (by omega)
      have HFF := hNm
      clear hn3 hn4 q3 q4 hNm hsy had
      clear hn0 hn1 hn2 hOw hIn hBk hlw HBB HC hsit hok0 hok1 hok2 hok3 hbi
      obtain ⟨t0, t1, t2, t3, t4, t5, t6, t7⟩ := hb4
      rcases h8c with h8c | ⟨h8c, h8d⟩
      all_goals
        go_upto_region 8 with (go_at_call 22; apply Calls.mono; (focus (with_reducible (exact q0 _))); rintro e w' ⟨rfl, hw1⟩; have hw2 := hw1.symm; subst hw2)
        clear t0 t1 t2 t3 t4 t5 t6 t7 q0
        have HS2 := hid_mk (HS1.out.set 0 (.int .i64 (3 + (n0 : Int))))
        clear HS1
        generalize wr.setCell ⟨w.heap.size, 0, none⟩ (.int .i64 (3 + (n0 : Int))) = W7 at *
        have HS8 := hid_mk (((((HS2.out.set 2 (.int .i64 n1)).set 3 (.int .i64 (bits .and .i64 d 7))).set 1 (.int .i64 n2))).drew)
        obtain ⟨t0, t1, t2, t3, t4, t5, t6, t7⟩ := box4_facts (a := .int .i64 (3 + (n0 : Int))) (b := .int .i64 a) (c := .int .i64 s) (d := .int .i64 d) HS2.out.opd
        go_cut [] from 61 to 72 (fun wc => Hid (Sit w W1.heap.size (.slice vp i vcap) i S r wc #[.int .i64 (3 + (n0 : Int)), .int .i64 n2, .int .i64 n1, .int .i64 (bits .and .i64 d 7)]))
        case first =>
          go_region_with (first | (go_at_call 22; apply Calls.mono; (focus (with_reducible (exact q1 _))); rintro e w' ⟨rfl, hw1⟩; have hw2 := hw1.symm; subst hw2) | (go_at_call 22; apply Calls.mono; (focus (with_reducible (exact q2 _))); rintro e w' ⟨rfl, hw1⟩; have hw2 := hw1.symm; subst hw2))
          all_goals go_wp2
          all_goals go_meet
          all_goals exact HS8
        case rest =>
          clear HS2 HS8 t0 t1 t2 t3 t4 t5 t6 t7 q1 q2 h8c
          have HC8 := hcut
          clear hcut
          obtain ⟨u0, u1, u2, u3, u4, u5, u6, u7⟩ := box4_facts HC8.out.opd
          by_cases hk : n0 = 0
          · have hkk : ((3 + (n0 : Int)) == 3) = true := by simp; omega
            clear hk
            have HS9 := hid_mk (HC8.out.set 1 (.int .i64 0))
            go_upto_region 12 with (fail)
            clear u0 u1 u2 u3 u4 u5 u6 u7
            generalize wc.setCell ⟨w.heap.size, 1, none⟩ (.int .i64 0) = W9 at *
            have L9 := HS9.out.later
            have sy : SymRow W9 (.slice vp i vcap) S := five_row HFF.out.1 HFF.out.2 (by omega) HS9.out.own HS9.out.ints
            obtain ⟨e0, e1, -⟩ := box2_facts HS9.out.box
            obtain ⟨f0, f1, f2, f3, -⟩ := box4_facts (a := .int .i64 (3 + (n0 : Int))) (b := .int .i64 0) (c := .int .i64 n1) (d := .int .i64 (bits .and .i64 d 7)) HS9.out.opd
            obtain ⟨g0, g1, g2, g3, g4, g5, g6, g7⟩ := box8_facts HS9.out.regs
            have cT : ∀ p : After W9, Calls Tryd.prog 21 #[.agg #[.slice vp i vcap, .slice none 0 0], .int .i64 ((n3 : Int) - 1), .int .i64 ((n4 : Int) - 1), .agg #[.int .i64 (3 + (n0 : Int)), .int .i64 0, .int .i64 n1, .int .i64 (bits .and .i64 d 7)], .agg #[.int .i64 (r 0), .int .i64 (r 1), .int .i64 (r 2), .int .i64 (r 3), .int .i64 (r 4), .int .i64 (r 5), .int .i64 (r 6), .int .i64 (r 7)]] p.world fun e w' => e = .returned (.bool true) ∧ ∃ q : After W9, w' = q.world := fun p =>
              Calls.after_of (tells_cells_any (.slice vp i vcap) (.slice none 0 0) S [] ((n3 : Int) - 1) ((n4 : Int) - 1) (by unfold I64; omega) (by unfold I64; omega) ⟨3 + (n0 : Int), 0, n1, bits .and .i64 d 7⟩ r HBI.out (by unfold I64; dsimp only; omega) HR.out p.world (NamesGood.later HG.out (L9.trans p.later)) (sy.kept p.later.kept) (RowIn.nil _ _ _) (HFF.out.1.fine (by have := HFF.out.2; omega)))
            have cA : ∀ p : After W9, Calls Tryd.prog 20 #[] p.world fun e w' => e = .returned (.bool true) ∧ ∃ q : After W9, w' = q.world := fun p => Calls.after_of (cellsAlive_any p.world (NamesGood.later HG.out (L9.trans p.later)))
            have q3 : ∀ p : After W9, Calls Tryd.prog 22 #[.int .i64 sym, .int .i64 8] p.world fun e w' => e = .returned (.int .i64 n3) ∧ ∃ q : After W9, w' = q.world := fun p => (HQ3.out p.world).mono fun e w' ⟨h1, h2⟩ => ⟨h1, p, h2⟩
            have q4 : ∀ p : After W9, Calls Tryd.prog 22 #[.int .i64 addr, .int .i64 40] p.world fun e w' => e = .returned (.int .i64 n4) ∧ ∃ q : After W9, w' = q.world := fun p => (HQ4.out p.world).mono fun e w' ⟨h1, h2⟩ => ⟨h1, p, h2⟩
            have k0 := fun p : After W9 => cell_after e0 p
            have k1 := fun p : After W9 => cell_after e1 p
            have m0 := fun p : After W9 => cell_after f0 p
            have m1 := fun p : After W9 => cell_after f1 p
            have m2 := fun p : After W9 => cell_after f2 p
            have m3 := fun p : After W9 => cell_after f3 p
            have o0 := fun p : After W9 => cell_after g0 p
            have o1 := fun p : After W9 => cell_after g1 p
            have o2 := fun p : After W9 => cell_after g2 p
            have o3 := fun p : After W9 => cell_after g3 p
            have o4 := fun p : After W9 => cell_after g4 p
            have o5 := fun p : After W9 => cell_after g5 p
            have o6 := fun p : After W9 => cell_after g6 p
            have o7 := fun p : After W9 => cell_after g7 p
            have ne : Nonempty (After W9) := ⟨⟨W9, Later.refl _⟩⟩
            clear sy e0 e1 f0 f1 f2 f3 g0 g1 g2 g3 g4 g5 g6 g7 HQ3 HQ4
            refine wp_region_later (by kernel_rfl) (by kernel_rfl) ?_
            repeat (first | go_big_quiet_step ((first | (go_at_call 22; with_reducible (exact q3 _)) | (go_at_call 22; with_reducible (exact q4 _)) | (go_at_call 21; with_reducible (exact cT _)) | (go_at_call 20; with_reducible (exact cA _)))) | quiet_step ((first | (go_at_call 22; with_reducible (exact q3 _)) | (go_at_call 22; with_reducible (exact q4 _)) | (go_at_call 21; with_reducible (exact cT _)) | (go_at_call 20; with_reducible (exact cA _)))))
            refine wpQuiet_nil ?_
            intro _ hw'
            obtain ⟨q, hw''⟩ := hw'
            subst hw''
            go_wp2
            go_ret
            exact ⟨rfl, L9.trans q.later⟩
          · have hkk : ((3 + (n0 : Int)) == 3) = false := by simp; omega
            clear hk
            have HS9 := hid_mk (HC8.out.set 3 (.int .i64 0))
            go_upto_region 12 with (fail)
            clear u0 u1 u2 u3 u4 u5 u6 u7
            generalize wc.setCell ⟨w.heap.size, 3, none⟩ (.int .i64 0) = W9 at *
            have L9 := HS9.out.later
            have sy : SymRow W9 (.slice vp i vcap) S := five_row HFF.out.1 HFF.out.2 (by omega) HS9.out.own HS9.out.ints
            obtain ⟨e0, e1, -⟩ := box2_facts HS9.out.box
            obtain ⟨f0, f1, f2, f3, -⟩ := box4_facts (a := .int .i64 (3 + (n0 : Int))) (b := .int .i64 n2) (c := .int .i64 n1) (d := .int .i64 0) HS9.out.opd
            obtain ⟨g0, g1, g2, g3, g4, g5, g6, g7⟩ := box8_facts HS9.out.regs
            have cT : ∀ p : After W9, Calls Tryd.prog 21 #[.agg #[.slice vp i vcap, .slice none 0 0], .int .i64 ((n3 : Int) - 1), .int .i64 ((n4 : Int) - 1), .agg #[.int .i64 (3 + (n0 : Int)), .int .i64 n2, .int .i64 n1, .int .i64 0], .agg #[.int .i64 (r 0), .int .i64 (r 1), .int .i64 (r 2), .int .i64 (r 3), .int .i64 (r 4), .int .i64 (r 5), .int .i64 (r 6), .int .i64 (r 7)]] p.world fun e w' => e = .returned (.bool true) ∧ ∃ q : After W9, w' = q.world := fun p =>
              Calls.after_of (tells_cells_any (.slice vp i vcap) (.slice none 0 0) S [] ((n3 : Int) - 1) ((n4 : Int) - 1) (by unfold I64; omega) (by unfold I64; omega) ⟨3 + (n0 : Int), n2, n1, 0⟩ r (by unfold I64; dsimp only; omega) (by unfold I64; dsimp only; omega) HR.out p.world (NamesGood.later HG.out (L9.trans p.later)) (sy.kept p.later.kept) (RowIn.nil _ _ _) (HFF.out.1.fine (by have := HFF.out.2; omega)))
            have cA : ∀ p : After W9, Calls Tryd.prog 20 #[] p.world fun e w' => e = .returned (.bool true) ∧ ∃ q : After W9, w' = q.world := fun p => Calls.after_of (cellsAlive_any p.world (NamesGood.later HG.out (L9.trans p.later)))
            have q3 : ∀ p : After W9, Calls Tryd.prog 22 #[.int .i64 sym, .int .i64 8] p.world fun e w' => e = .returned (.int .i64 n3) ∧ ∃ q : After W9, w' = q.world := fun p => (HQ3.out p.world).mono fun e w' ⟨h1, h2⟩ => ⟨h1, p, h2⟩
            have q4 : ∀ p : After W9, Calls Tryd.prog 22 #[.int .i64 addr, .int .i64 40] p.world fun e w' => e = .returned (.int .i64 n4) ∧ ∃ q : After W9, w' = q.world := fun p => (HQ4.out p.world).mono fun e w' ⟨h1, h2⟩ => ⟨h1, p, h2⟩
            have k0 := fun p : After W9 => cell_after e0 p
            have k1 := fun p : After W9 => cell_after e1 p
            have m0 := fun p : After W9 => cell_after f0 p
            have m1 := fun p : After W9 => cell_after f1 p
            have m2 := fun p : After W9 => cell_after f2 p
            have m3 := fun p : After W9 => cell_after f3 p
            have o0 := fun p : After W9 => cell_after g0 p
            have o1 := fun p : After W9 => cell_after g1 p
            have o2 := fun p : After W9 => cell_after g2 p
            have o3 := fun p : After W9 => cell_after g3 p
            have o4 := fun p : After W9 => cell_after g4 p
            have o5 := fun p : After W9 => cell_after g5 p
            have o6 := fun p : After W9 => cell_after g6 p
            have o7 := fun p : After W9 => cell_after g7 p
            have ne : Nonempty (After W9) := ⟨⟨W9, Later.refl _⟩⟩
            clear sy e0 e1 f0 f1 f2 f3 g0 g1 g2 g3 g4 g5 g6 g7 HQ3 HQ4
            refine wp_region_later (by kernel_rfl) (by kernel_rfl) ?_
            repeat (first | go_big_quiet_step ((first | (go_at_call 22; with_reducible (exact q3 _)) | (go_at_call 22; with_reducible (exact q4 _)) | (go_at_call 21; with_reducible (exact cT _)) | (go_at_call 20; with_reducible (exact cA _)))) | quiet_step ((first | (go_at_call 22; with_reducible (exact q3 _)) | (go_at_call 22; with_reducible (exact q4 _)) | (go_at_call 21; with_reducible (exact cT _)) | (go_at_call 20; with_reducible (exact cA _)))))
            refine wpQuiet_nil ?_
            intro _ hw'
            obtain ⟨q, hw''⟩ := hw'
            subst hw''
            go_wp2
            go_ret
            exact ⟨rfl, L9.trans q.later⟩

set_option maxRecDepth 100000 in
theorem lifted (os : Os) (started : os.Started) (H : Type) (enc : TypeId × Value → H) :
    ReturnsInHanded {} Tryd.checked os 6 .any (fun w args => (Rows.cellsMadeSpec.pre enc Tryd.prog Tryd.f6 [] false w args ∧ laidMetH Tryd.prog theList w) ∧ sizedMet enc Tryd.prog Tryd.f6 (OpenSpec.ofChange Rows.cellsMadeSpec) false w args)
      (Rows.cellsMadeSpec.post enc Tryd.prog Tryd.f6 false true false false) := by
  refine returnsInHanded_of_change_and (C := Tryd.checked) (X := fun w _ => laidMetH Tryd.prog theList w) (fun _ _ _ hh h => h.of_heap hh) own started (by kernel_rfl) Tryd.func6
    (ChangeSpec.witness_shaped (enc := enc) (C := Tryd.checked) (os := os) (X := fun w _ => laidMetH Tryd.prog theList w) false (World.laidAll Tryd.prog os theList) #[.slice none 0 0, .int .i64 0, .int .i64 0, .agg #[.int .i64 0, .int .i64 0, .int .i64 0, .int .i64 0], .agg #[.int .i64 0, .int .i64 0, .int .i64 0, .int .i64 0, .int .i64 0, .int .i64 0, .int .i64 0, .int .i64 0]] 8 (World.laidAll_os _ _ _) (World.shaped_of_ZipB (by kernel_rfl) (by kernel_rfl)) (by kernel_rfl) (by kernel_rfl) (by kernel_rfl) (door_met os _)) ?_
  intro W base args ds gs before hval0 hW _ hsz0 hL _
  have hsz : (DataW.weightsEach Tryd.prog (Tryd.f6.params.toList ++ Rows.cellsMadeSpec.plain.varTypes Tryd.prog) (ds ++ gs)).all (· ≤ reachBytes) = true := hsz0
  clear hsz0
  have hval : ∀ (j : Nat) t v, Tryd.f6.params[j]? = some t → args[j]? = some v → Value.okWide Tryd.prog W .any base t v := hval0
  have hW' := hW
  obtain ⟨p, q, hA0, hV, rfl, hfz, hnd⟩ := hW
  have hA : DataW.TrodAll enc Tryd.prog W 0 (fun _ => true) true Tryd.f6.params.toList args.toList ds p := hA0
  rw [Tryd.params6] at hA hval hsz
  obtain ⟨v0, vs0, d0, ds0, p0, q0, hargs, rfl, rfl, h0, r0⟩ := trodAll_cons hA
  obtain ⟨v1, vs1, d1, ds1, p1, q1, rfl, rfl, rfl, h1, r1⟩ := trodAll_cons r0
  obtain ⟨v2, vs2, d2, ds2, p2, q2, rfl, rfl, rfl, h2, r2⟩ := trodAll_cons r1
  obtain ⟨v3, vs3, d3, ds3, p3, q3, rfl, rfl, rfl, h3, r3⟩ := trodAll_cons r2
  obtain ⟨v4, vs4, d4, ds4, p4, q4, rfl, rfl, rfl, h4, r4⟩ := trodAll_cons r3
  obtain ⟨rfl, rfl, rfl⟩ := trodAll_nil r4
  obtain rfl : args = #[v0, v1, v2, v3, v4] := by cases args; simp_all
  obtain ⟨rfl, rfl⟩ := trodVars_none hV
  simp only [List.append_nil] at hW'
  have h0k := h0
  have hlt0 : ∀ x ∈ p0, x.block < W.heap.size := fun x hx => by simpa using hW'.lt x (by simp [hx])
  obtain ⟨S0, is0⟩ := open_syms (hval 0 24 v0 rfl rfl) h0
  obtain ⟨a1, rfl, rfl, rfl, w1⟩ := open_int Tryd.underlying3 (hval 1 3 v1 rfl rfl) h1
  obtain ⟨a2, rfl, rfl, rfl, w2⟩ := open_int Tryd.underlying3 (hval 2 3 v2 rfl rfl) h2
  have h3k := h3
  have hlt3 : ∀ x ∈ p3, x.block < W.heap.size := fun x hx => by simpa using hW'.lt x (by simp [hx])
  obtain ⟨x3, rfl, ok3⟩ := open_opd (hval 3 41 v3 rfl rfl) h3
  have h4k := h4
  have hlt4 : ∀ x ∈ p4, x.block < W.heap.size := fun x hx => by simpa using hW'.lt x (by simp [hx])
  obtain ⟨x4, rfl, ok4⟩ := open_regs (hval 4 49 v4 rfl rfl) h4
  clear hA0 hval0
  refine (walk W (Good.of_laid hL) _ S0 is0 a1 (int64_of_wf w1) a2 (int64_of_wf w2) x3 ok3 x4 ok4).mono fun e W' ⟨he, hnx⟩ => ?_
  subst he
  refine ⟨_, rfl, _, _, _, [], (p0 ++ ([] ++ ([] ++ (p3 ++ (p4 ++ []))))), [], hW', ?_, ?_, rfl, Below.frame hnx _, fun h => by cases h⟩
  · exact (trodAll_cons_mk (shut_bool Tryd.underlying4 _) trodAll_mk0)
  · exact (trodAll_cons_mk (Below.trod laidOut (by kernel_rfl) (of_decide_eq_true (by kernel_rfl)) h0k hnx hlt0) (trodAll_cons_mk (shut_int Tryd.underlying3 w1) (trodAll_cons_mk (shut_int Tryd.underlying3 w2) (trodAll_cons_mk (Below.trod laidOut (by kernel_rfl) (of_decide_eq_true (by kernel_rfl)) h3k hnx hlt3) (trodAll_cons_mk (Below.trod laidOut (by kernel_rfl) (of_decide_eq_true (by kernel_rfl)) h4k hnx hlt4) trodAll_mk0)))))

theorem over : Rows.cellsMadeRow.holds Tryd.pinned (OpenSpec.ofChange Rows.cellsMadeSpec) :=
  OpenClaim.holds_of_wide 6 Tryd.f6 rfl rfl rfl rfl rfl rfl rfl ⟨rfl, rfl, rfl, rfl, rfl⟩ rfl rfl rfl rfl rfl (by kernel_rfl) Tryd.func6 (by kernel_rfl)
    (of_decide_eq_true (by kernel_rfl)) (by unfold Func.isWrapper; first | (rw [if_pos (by decide +kernel)]; kernel_rfl) | (rw [if_neg (by decide +kernel)]; exact ⟨rfl, rfl⟩))
    (fun os started H enc _ => lifted os started H enc)

end Go.Proofs.YtgkdejldpldkiaaDoor.cellsMade

namespace Go.Proofs.YtgkdejldpldkiaaDoor
open Go
/-- The statement: the row, with its listed variables tied to the program's text. -/
theorem cellsMade_holds : Rows.CellsMadeCardSaid :=
  Claim7.holds_tied_plain_at .later [] [.data, .data, .data, .data, .pinned] true Rows.cellsMadeCard.stood.harness true
    cellsMade.over (fun _ h => by cases h) (by kernel_rfl) (fun _ h => by cases h) cellsMade_row_tie rfl ⟨rfl, rfl⟩ (by kernel_rfl) rfl
    (fun f fn hf hfn => by
      obtain rfl : f = 6 := Option.some.inj ((show Tryd.prog.funcNamed Rows.cellsMadeRow.func = some 6 by kernel_rfl).symm.trans hf) |>.symm
      obtain rfl : fn = Tryd.f6 := (Option.some.inj (Tryd.func6.symm.trans hfn)).symm
      exact ⟨by kernel_rfl, fun j t ht => by
        rw [Tryd.params6] at ht
        have hm : t ∈ [24, 3, 3, 41, 49] := by simpa using Array.mem_of_getElem? ht
        have hall : ([24, 3, 3, 41, 49].all fun u => !Tryd.prog.wantsStandIn u) = true := by kernel_rfl
        exact (show Tryd.prog.wantsStandIn t = false by simpa using List.all_eq_true.1 hall t hm)⟩)
    (by kernel_rfl)
#print axioms cellsMade_holds
end Go.Proofs.YtgkdejldpldkiaaDoor
