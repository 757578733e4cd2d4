/-
  What the statements' own word for 'too great a program' returns. Nothing that was in memory turns. Conditions: the program lies in memory.
  Rows of instructions, symbols and threads that the call has made by append: what their readers find; one more behind an append and a store into the variable that holds them. Conditions: none.
  Threads of Ops alone, without labels: what the plain recursions say of them. Conditions: none.
-/
import Derived.Test.YtegogmbcjjjjjaaDoorJi
import Derived.Test.YtegogmbcjjjjjaaDoorJk
import Derived.Test.YtegogmbcjjjjjaaDoorJh
import Derived.Laws.AppendOwn
import Derived.OwnWalk
namespace Go.Proofs.YtegogmbcjjjjjaaDoor
open Go.RowKit
set_option linter.unusedVariables false
set_option linter.unusedSimpArgs false

def greatS (s : Sym × List Int) : Bool := decide (60 < s.1.name.size) || decide (66 < s.2.length)
/-- Whether a program is more than is gone through. -/
def greatPF (S : Syms) (P : List Thr) : Bool := decide (66 < S.length) || decide (66 < P.length) || S.any greatS || P.any greatTF

theorem any_false {α : Type} {l : List α} {f : α → Bool} (h : ∀ j x, j < l.length → l[j]? = some x → f x = false) : l.any f = false := by
  rw [List.any_eq_false]
  intro x hx
  obtain ⟨j, hj, rfl⟩ := List.getElem_of_mem hx
  rw [h j _ hj (List.getElem?_eq_getElem hj)]
  simp

theorem any_true {α : Type} {l : List α} {f : α → Bool} {i : Nat} {x : α} (h : l[i]? = some x) (hf : f x = true) : l.any f = true :=
  List.any_eq_true.2 ⟨x, List.mem_of_getElem? h, hf⟩

set_option maxRecDepth 1000000 in
set_option maxHeartbeats 4000000 in
theorem greatProg_any (u v : Value) (S : Syms) (P : List Thr) (w : World) (hS : SymRow w u S) (hP : ThrRow w v P) :
    Calls Tryd.prog 4 #[.agg #[u, v]] w fun e w' => e = .returned (.bool (greatPF S P)) ∧ Later w w' := by
  obtain ⟨p, cap, rfl, h1, h2⟩ := hS.slice
  obtain ⟨p', cap', rfl, h1', h2'⟩ := hP.slice
  have LL := Later.alloc (Later.refl w) (.cells #[.slice p S.length cap, .slice p' P.length cap'] 25)
  obtain ⟨hB0, hB1, -⟩ := box2_facts (at_new w (.cells #[.slice p S.length cap, .slice p' P.length cap'] 25))
  have HS : Hid (SymRow w (.slice p S.length cap) S) := hS
  have HP : Hid (ThrRow w (.slice p' P.length cap') P) := hP
  unfold maxLen at h2 h2'
  clear hS hP
  go_enter Tryd.func4, Tryd.ntmps4
  go_upto_region 1 with (fail)
  generalize w.alloc (.cells #[.slice p S.length cap, .slice p' P.length cap'] 25) = W at *
  by_cases h66 : 66 < S.length
  · go_wp2
    go_ret
    exact ⟨ret_bool (by simp [greatPF, h66]), LL⟩
  by_cases h67 : 66 < P.length
  · go_wp2
    go_ret
    exact ⟨ret_bool (by simp [greatPF, h67]), LL⟩
  go_wp2
  go_loopw [3] (fun vi wr => ∃ (i : Nat), vi = .int .i64 (i : Nat) ∧ i ≤ S.length ∧ wr = W ∧ Hid (∀ j s, j < i → S[j]? = some s → greatS s = false)) (fun vi _ => S.length - (intOf vi).toNat)
  case atStart => exact ⟨0, rfl, by omega, rfl, fun j s hj => by omega⟩
  case round =>
    obtain ⟨i, rfl, hi, rfl, hN⟩ := hrel
    by_cases h8 : i < S.length
    · obtain ⟨⟨s, L⟩, ht⟩ : ∃ t, S[i]? = some t := ⟨_, List.getElem?_eq_getElem h8⟩
      obtain ⟨g, o, rfl, hsz, -, hin, b0, b1, b2⟩ := (SymRow.kept HS.out LL.kept).get ht
      obtain ⟨q, dap, hlb, hld, hdm⟩ := RowIn.slice hin
      rw [hlb] at b2
      unfold maxLen at hsz hdm
      have HT : Hid (S[i]? = some (s, L)) := ht
      clear ht hin hlb
      by_cases h60 : 60 < s.name.size
      · have HE : Hid (greatPF S P = true) := by
          have := any_true (f := greatS) HT.out (by simp [greatS, h60])
          show _ = _
          simp [greatPF, this]
        go_wp2
        go_ret
        exact ⟨ret_bool HE.out.symm, LL⟩
      by_cases h61 : 66 < L.length
      · have HE : Hid (greatPF S P = true) := by
          have := any_true (f := greatS) HT.out (by simp [greatS, h61])
          show _ = _
          simp [greatPF, this]
        go_wp2
        go_ret
        exact ⟨ret_bool HE.out.symm, LL⟩
      go_wp2
      go_roundw
      case rel => exact ⟨i + 1, by go_num, by omega, (by first | rfl | trivial), fun j z hj hz => by
        rcases Nat.lt_succ_iff_lt_or_eq.1 hj with h | rfl
        · exact hN.out j z h hz
        · rw [HT.out] at hz; cases hz; simp [greatS, h60, h61]⟩
      case measure => simp [intOf]; omega
    · have hSn : S.any greatS = false := any_false (fun j z hj hz => hN.out j z (by omega) hz)
      have HSN : Hid (S.any greatS = false) := hSn
      clear hSn hN
      go_wp2
      obtain ⟨w6, rfl⟩ : ∃ w6, w6 = wr := ⟨_, rfl⟩
      go_loopw [4] (fun vk wx => ∃ (k : Nat), vk = .int .i64 (k : Nat) ∧ k ≤ P.length ∧ Later w6 wx ∧ Hid (∀ j T, j < k → P[j]? = some T → greatTF T = false)) (fun vk _ => P.length - (intOf vk).toNat)
      case atStart => exact ⟨0, rfl, by omega, Later.refl _, fun j s hj => by omega⟩
      case round =>
        obtain ⟨k, rfl, hk, hlx, hN⟩ := hrel
        have hB1x := cell_later hB1 hlx
        by_cases h9 : k < P.length
        · obtain ⟨T, ht⟩ : ∃ t, P[k]? = some t := ⟨_, List.getElem?_eq_getElem h9⟩
          obtain ⟨g, o, tv, rfl, hrT, b0⟩ := (ThrRow.kept HP.out (LL.trans hlx).kept).get ht
          have cT := greatThread_any tv T wr hrT
          have HT : Hid (P[k]? = some T) := ht
          obtain ⟨tp, tcap, rfl, -, -⟩ := hrT.slice
          clear ht hrT
          cases hg : greatTF T with
          | true =>
            rw [hg] at cT
            have HE : Hid (greatPF S P = true) := by
              have := any_true (f := greatTF) HT.out hg
              show _ = _
              simp [greatPF, this]
            clear hg
            go_wp2_with (go_at_call 11; refine cT.mono ?_; rintro e w2 ⟨rfl, hl2⟩)
            go_ret
            exact ⟨ret_bool HE.out.symm, LL.trans (hlx.trans hl2)⟩
          | false =>
            rw [hg] at cT
            have HE : Hid (greatTF T = false) := hg
            clear hg
            go_wp2_with (go_at_call 11; refine cT.mono ?_; rintro e w2 ⟨rfl, hl2⟩)
            go_roundw
            case rel => exact ⟨k + 1, by go_num, by omega, hlx.trans hl2, fun j z hj hz => by
              rcases Nat.lt_succ_iff_lt_or_eq.1 hj with h | rfl
              · exact hN.out j z h hz
              · rw [HT.out] at hz; cases hz; exact HE.out⟩
            case measure => simp [intOf]; omega
        · have hPn : P.any greatTF = false := any_false (fun j z hj hz => hN.out j z (by omega) hz)
          have HE : Hid (greatPF S P = false) := by
            show _ = _
            simp only [greatPF, HSN.out, hPn]
            simp; omega
          clear hN hPn
          go_wp2
          go_ret
          exact ⟨ret_bool HE.out.symm, LL.trans hlx⟩

theorem great_size {x : Ins} {L : List ByteArray} (h : greatF x L = false) : x.dest.size ≤ 60 ∧ L.length ≤ 6 ∧ ∀ t ∈ L, t.size ≤ 60 := by
  simp [greatF] at h
  exact ⟨h.1.2, h.1.1, h.2⟩

theorem labels_few : ∀ (T : Thr), (∀ x ∈ T, x.2.length ≤ 6) → (labelsOf T).length ≤ 6 * T.length
  | [], _ => by simp [labelsOf]
  | x :: r, h => by
    have e : labelsOf (x :: r) = x.2 ++ labelsOf r := by simp [labelsOf]
    have h1 := h x (List.mem_cons_self ..)
    have h2 := labels_few r (fun y hy => h y (List.mem_cons_of_mem _ hy))
    rw [e, List.length_append, List.length_cons]
    omega

theorem fine_thread {T : Thr} (h : greatTF T = false) : FineT T ∧ T.length ≤ 12 := by
  simp only [greatTF, Bool.or_eq_false_iff, decide_eq_false_iff_not, List.any_eq_false] at h
  obtain ⟨h1, h2⟩ := h
  have h3 : ∀ x ∈ T, greatF x.1 x.2 = false := fun x hx => by simpa using h2 x hx
  refine ⟨⟨fun x hx => by have := (great_size (h3 x hx)).1; omega, fun x hx t ht => by have := (great_size (h3 x hx)).2.2 t ht; omega, ?_⟩, by omega⟩
  have := labels_few T (fun x hx => (great_size (h3 x hx)).2.1)
  omega

theorem fine_prog {S : Syms} {P : List Thr} (h : greatPF S P = false) : FineP S P := by
  simp only [greatPF, Bool.or_eq_false_iff, List.any_eq_false] at h
  obtain ⟨⟨-, h2⟩, h3⟩ := h
  refine ⟨fun s hs => ?_, fun T hT => (fine_thread (by simpa using h3 T hT)).1⟩
  have := h2 s hs
  simp [greatS] at this
  omega

end Go.Proofs.YtegogmbcjjjjjaaDoor

namespace Go.Proofs.YtegogmbcjjjjjaaDoor
open Go.RowKit
set_option linter.unusedVariables false
set_option linter.unusedSimpArgs false

theorem infoIns : (Tryd.prog.info? 39).map (fun i => (i.zero, i.size, i.bytes)) = some (some (.agg #[.int .i64 0, .bool false, .int .i64 0, .int .i64 0, .int .i64 0, .int .i64 0, .int .i64 0, .int .i64 0, .int .i64 0, .int .i64 0, .int .i64 0, .string ⟨#[]⟩, .slice none 0 0]), 13, 128) := by kernel_rfl

theorem infoSym : (Tryd.prog.info? 42).map (fun i => (i.zero, i.size, i.bytes)) = some (some (.agg #[.string ⟨#[]⟩, .int .i64 0, .slice none 0 0]), 3, 48) := by kernel_rfl

theorem infoThr : (Tryd.prog.info? 34).map (fun i => (i.zero, i.size, i.bytes)) = some (some (.agg #[.slice none 0 0]), 1, 24) := by kernel_rfl

def insC (x : Ins × List ByteArray) : List Value := x.1.cells.toList
def symCells (s : Sym × List Int) : List Value := s.1.cells.toList
theorem insC_len (x : Ins × List ByteArray) : (insC x).length = 13 := rfl
theorem symCells_len (s : Sym × List Int) : (symCells s).length = 3 := rfl

end Go.Proofs.YtegogmbcjjjjjaaDoor

namespace Go.Proofs.YtegogmbcjjjjjaaDoor
open Go.RowKit Go.WideShapes
set_option linter.unusedVariables false
set_option linter.unusedSimpArgs false

def bareX (op : Int) : Ins × List ByteArray := (bareIns op (.slice none 0 0), [])
def nops (n f : Nat) : Thr := List.replicate n (bareX 13) ++ List.replicate f (bareX 12)
def long (n f : Nat) : Thr := nops n f ++ [bareX 14]

theorem nops_length (n f : Nat) : (nops n f).length = n + f := by simp [nops]
theorem nops_next (n : Nat) : nops (n + 1) 0 = nops n 0 ++ [bareX 13] := by
  simp only [nops, List.replicate_zero, List.append_nil]
  rw [List.replicate_succ']
theorem nops_fence (n f : Nat) : nops n (f + 1) = nops n f ++ [bareX 12] := by
  unfold nops
  rw [List.replicate_succ', List.append_assoc]

theorem flat_next (l : Thr) (x : Ins × List ByteArray) : flatC insC (l ++ [x]) = flatC insC l ++ insC x := by rw [flatC_append, flatC_one]

theorem bare_one (op : Int) : ∀ u ∈ insC (bareX op), u.oneCell' = true := by
  intro u hu
  simp [insC, bareX, bareIns, Ins.cells] at hu
  rcases hu with rfl | rfl | rfl | rfl | rfl <;> rfl

theorem mem_long {n f : Nat} {x : Ins × List ByteArray} (h : x ∈ long n f) : ∃ op : Int, x = bareX op ∧ (op = 12 ∨ op = 13 ∨ op = 14) := by
  simp [long, nops] at h
  rcases h with ⟨-, rfl⟩ | ⟨-, rfl⟩ | rfl
  · exact ⟨13, rfl, by omega⟩
  · exact ⟨12, rfl, by omega⟩
  · exact ⟨14, rfl, by omega⟩

theorem steps_bare (S : Syms) : ∀ (T : Thr) (seen : List ByteArray), (∀ x ∈ T, ∃ op : Int, x = bareX op ∧ (op = 12 ∨ op = 13 ∨ op = 14)) → stepsC S seen T = 0
  | [], _, _ => rfl
  | x :: r, seen, h => by
    obtain ⟨op, rfl, ho⟩ := h x (List.mem_cons_self ..)
    have hr := steps_bare S r (seen ++ (bareX op).2) (fun y hy => h y (List.mem_cons_of_mem _ hy))
    have h0 : stepC S seen (bareX op) = 0 := by
      unfold stepC
      have hl : labsC seen (bareX op).2 = 0 := rfl
      rw [if_pos hl]
      rcases ho with rfl | rfl | rfl <;> rfl
    unfold stepsC
    rw [if_pos h0]
    exact hr

theorem jumps_bare (all : List ByteArray) : ∀ (T : Thr), (∀ x ∈ T, ∃ op : Int, x = bareX op ∧ (op = 12 ∨ op = 13 ∨ op = 14)) → jumpsC all T = 0
  | [], _ => rfl
  | x :: r, h => by
    obtain ⟨op, rfl, ho⟩ := h x (List.mem_cons_self ..)
    unfold jumpsC
    rw [if_neg (by rcases ho with rfl | rfl | rfl <;> simp [bareX, bareIns, jumpsF])]
    exact jumps_bare all r (fun y hy => h y (List.mem_cons_of_mem _ hy))

theorem labels_bare : ∀ (T : Thr), (∀ x ∈ T, ∃ op : Int, x = bareX op ∧ (op = 12 ∨ op = 13 ∨ op = 14)) → labelsOf T = []
  | [], _ => rfl
  | x :: r, h => by
    obtain ⟨op, rfl, -⟩ := h x (List.mem_cons_self ..)
    have hr := labels_bare r (fun y hy => h y (List.mem_cons_of_mem _ hy))
    simp [labelsOf, bareX] at hr ⊢
    exact hr

theorem count_long (n f : Nat) : countF (long n f) = n + 1 := by
  unfold countF long nops
  simp [bareX, bareIns]

theorem ends_long (n f : Nat) : endsF (long n f) = true := by
  unfold endsF long
  simp [bareX, bareIns]

theorem thread_long (S : Syms) (n f : Nat) : threadC S (long n f) = if 4096 ≤ n then 10 else 0 := by
  unfold threadC
  rw [count_long, steps_bare S _ _ (fun x => mem_long), ends_long, jumps_bare _ _ (fun x => mem_long)]
  by_cases h : 4096 ≤ n
  · rw [if_pos (by omega), if_pos h]
  · rw [if_neg (by omega), if_neg h]; rfl

theorem check_long (n f : Nat) : checkC [] [long n f] = if 4096 ≤ n then 10 else 0 := by
  unfold checkC
  rw [if_neg (by simp), if_pos (by rfl)]
  unfold threadsC
  rw [thread_long]
  by_cases h : 4096 ≤ n <;> simp [h, threadsC]

theorem fine_bare {T : Thr} (h : ∀ x ∈ T, ∃ op : Int, x = bareX op ∧ (op = 12 ∨ op = 13 ∨ op = 14)) : FineT T := by
  refine ⟨fun x hx => ?_, fun x hx => ?_, ?_⟩
  · obtain ⟨op, rfl, -⟩ := h x hx; exact Nat.zero_le _
  · obtain ⟨op, rfl, -⟩ := h x hx; simp [bareX]
  · rw [labels_bare T h]; simp

theorem fine_long (n f : Nat) : FineP [] [long n f] :=
  ⟨fun _ h => by simp at h, fun T hT => by simp at hT; subst hT; exact fine_bare (fun x => mem_long)⟩

theorem bareX_E {w : World} (op : Int) (ho : op = 12 ∨ op = 13 ∨ op = 14) : InsE w (bareX op) (insC (bareX op)) :=
  ⟨rfl, bare_ok _ _ (by unfold I64; omega), TextsIn.nil _⟩

theorem long_row {w : World} {base : Nat} {v : Value} {n f m : Nat} (hm : n + f + 1 = m) (h : w.ownsRow base 39 13 v m (flatC insC (long n f))) : InsRow w v (long n f) :=
  RowIn.of_owns (f := insC) insC_len (by omega) (by rw [long, List.length_append, nops_length]; exact hm) h (fun x hx => by
    obtain ⟨op, rfl, ho⟩ := mem_long hx
    exact bareX_E op ho)

end Go.Proofs.YtegogmbcjjjjjaaDoor
