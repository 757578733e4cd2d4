/-
  What package valid's Same, the library's EqualFunc beneath it, and the document's own SameProg return of two programs: whether all that they have is the same. Nothing that was in memory turns. Conditions: the programs lie in memory.
-/
import Derived.Test.YtegogmbcjjjjjaaDoorJj
import Derived.Test.YtegogmbcjjjjjaaDoorInsSame0
import Derived.Test.YtegogmbcjjjjjaaDoorJh
namespace Go.Proofs.YtegogmbcjjjjjaaDoor
open Go.RowKit
set_option linter.unusedVariables false
set_option linter.unusedSimpArgs false

/-- Two lists are the same, thing by thing. -/
def listEq {α : Type} (f : α → α → Bool) : List α → List α → Bool
  | [], [] => true
  | a :: l, b :: m => f a b && listEq f l m
  | _, _ => false

theorem listEq_len {α : Type} {f : α → α → Bool} : ∀ {l m : List α}, l.length ≠ m.length → listEq f l m = false
  | [], [], h => absurd rfl h
  | [], _ :: _, _ => rfl
  | _ :: _, [], _ => rfl
  | a :: l, b :: m, h => by
    unfold listEq
    rw [listEq_len (l := l) (m := m) (by simpa using h)]
    simp

theorem listEq_not {α : Type} {f : α → α → Bool} : ∀ {l m : List α} {k : Nat} {a b : α}, l[k]? = some a → m[k]? = some b → f a b = false → listEq f l m = false
  | [], _, _, _, _, h, _, _ => by simp at h
  | _ :: _, [], _, _, _, _, h, _ => by simp at h
  | x :: l, y :: m, 0, a, b, ha, hb, h => by
    simp at ha hb
    subst ha hb
    simp [listEq, h]
  | x :: l, y :: m, k + 1, a, b, ha, hb, h => by
    simp at ha hb
    simp [listEq, listEq_not (l := l) (m := m) ha hb h]

theorem listEq_all {α : Type} {f : α → α → Bool} : ∀ {l m : List α}, l.length = m.length → (∀ (k : Nat) a b, l[k]? = some a → m[k]? = some b → f a b = true) → listEq f l m = true
  | [], [], _, _ => rfl
  | [], _ :: _, h, _ => by simp at h
  | _ :: _, [], h, _ => by simp at h
  | x :: l, y :: m, h, hf => by
    have h0 := hf 0 x y rfl rfl
    have h1 := listEq_all (f := f) (l := l) (m := m) (by simpa using h) (fun k a b ha hb => hf (k + 1) a b (by simpa using ha) (by simpa using hb))
    simp [listEq, h0, h1]

def symEq (a b : Sym × List Int) : Bool := decide (a.1.name = b.1.name) && decide (a.1.size = b.1.size) && decide (a.2 = b.2)
def insEq (x y : Ins × List ByteArray) : Bool := sameF x.1 x.2 y.1 y.2
def thrEq (T U : Thr) : Bool := listEq insEq T U
def progEq (S : Syms) (P : List Thr) (S' : Syms) (P' : List Thr) : Bool := listEq symEq S S' && listEq thrEq P P'

theorem take_int {L : List Int} {k : Nat} {t : Int} (h : L[k]? = some t) : L.take (k + 1) = L.take k ++ [t] := by
  rw [List.take_add_one, h]; rfl

set_option maxRecDepth 1000000 in
set_option maxHeartbeats 4000000 in
theorem refSameInit_any (u v : Value) (L M : List Int) (w : World) (hL : IntsIn w u L) (hM : IntsIn w v M) :
    Calls Tryd.prog 22 #[u, v] w fun e w' => e = .returned (.bool (decide (L = M))) ∧ Later w w' := by
  obtain ⟨p, cap, rfl, h1, h2⟩ := RowIn.slice hL
  obtain ⟨q, dap, rfl, k1, k2⟩ := RowIn.slice hM
  unfold maxLen at h2 k2
  have HL : Hid (IntsIn w (.slice p L.length cap) L) := hL
  have HM : Hid (IntsIn w (.slice q M.length dap) M) := hM
  clear hL hM
  by_cases hlen : L.length = M.length
  · have e0 : ((L.length : Int) != (M.length : Int)) = false := by simp; omega
    have HLM : Hid (L.length = M.length) := hlen
    clear hlen
    go_enter Tryd.func22, Tryd.ntmps22
    go_wp2
    go_loopw [5] (fun i wr => ∃ k : Nat, i = .int .i64 k ∧ k ≤ L.length ∧ L.take k = M.take k ∧ Later w wr) (fun i _ => L.length - (intOf i).toNat)
    case atStart => exact ⟨0, rfl, Nat.zero_le _, by simp, Later.refl _⟩
    case round =>
      obtain ⟨k, rfl, hk, hT, hlw⟩ := hrel
      have HT : Hid (L.take k = M.take k) := hT
      clear hT
      by_cases hlt : k < L.length
      · have hlm := HLM.out
        obtain ⟨s, hs⟩ : ∃ s, L[k]? = some s := ⟨_, List.getElem?_eq_getElem hlt⟩
        obtain ⟨t, ht⟩ : ∃ t, M[k]? = some t := ⟨_, List.getElem?_eq_getElem (by omega)⟩
        obtain ⟨g, o, rfl, -, hc⟩ := (IntsIn.kept HL.out hlw.kept).get hs
        obtain ⟨g', o', rfl, -, kc⟩ := (IntsIn.kept HM.out hlw.kept).get ht
        have HS : Hid (L[k]? = some s) := hs
        have HU : Hid (M[k]? = some t) := ht
        have n0 : (0 : Int) ≤ k := by omega
        have n1 : (k : Int) < (L.length : Int) := by omega
        have n2 : (k : Int) < (M.length : Int) := by omega
        clear hs ht hlm HL HM
        rcases Decidable.em (s = t) with rfl | hne
        · go_upto_region 6 with (fail)
          go_quiet (fail)
          have hq := Later.drewN hlw nq
          go_wp2
          go_roundw
          case rel => exact ⟨k + 1, by go_num, by omega, by rw [take_int HS.out, take_int HU.out, HT.out], hq⟩
          case measure => simp [intOf]; omega
        · have hb : (s != t) = true := by simpa using hne
          go_upto_region 6 with (fail)
          go_quiet (fail)
          have hq := Later.drewN hlw nq
          go_wp2
          go_ret
          refine ⟨ret_bool ?_, hq⟩
          symm
          rw [decide_eq_false_iff_not]
          rintro rfl
          exact hne (Option.some.inj (HS.out.symm.trans HU.out))
      · go_wp2
        go_ret
        refine ⟨ret_bool ?_, hlw⟩
        symm
        rw [decide_eq_true_eq]
        have := HT.out
        rwa [List.take_of_length_le (by omega), List.take_of_length_le (by have := HLM.out; omega)] at this
  · have e0 : ((L.length : Int) != (M.length : Int)) = true := by simp; omega
    clear HL HM
    go_enter Tryd.func22, Tryd.ntmps22
    go_wp2
    go_ret
    refine ⟨ret_bool ?_, Later.refl _⟩
    symm
    rw [decide_eq_false_iff_not]
    rintro rfl
    exact hlen rfl

set_option maxRecDepth 1000000 in
set_option maxHeartbeats 4000000 in
theorem intsEqual_any (u v : Value) (L M : List Int) (w : World) (hL : IntsIn w u L) (hM : IntsIn w v M) :
    Calls Tryd.prog 41 #[u, v] w fun e w' => e = .returned (.bool (decide (L = M))) ∧ Later w w' := by
  obtain ⟨p, cap, rfl, h1, h2⟩ := RowIn.slice hL
  obtain ⟨q, dap, rfl, k1, k2⟩ := RowIn.slice hM
  unfold maxLen at h2 k2
  have HL : Hid (IntsIn w (.slice p L.length cap) L) := hL
  have HM : Hid (IntsIn w (.slice q M.length dap) M) := hM
  clear hL hM
  by_cases hlen : L.length = M.length
  · have e0 : ((L.length : Int) != (M.length : Int)) = false := by simp; omega
    have HLM : Hid (L.length = M.length) := hlen
    clear hlen
    go_enter Tryd.func41, Tryd.ntmps41
    go_wp2
    go_loopw [13] (fun i wr => ∃ k : Nat, i = .int .i64 k ∧ k ≤ L.length ∧ L.take k = M.take k ∧ Later w wr) (fun i _ => L.length - (intOf i).toNat)
    case atStart => exact ⟨0, rfl, Nat.zero_le _, by simp, Later.refl _⟩
    case round =>
      obtain ⟨k, rfl, hk, hT, hlw⟩ := hrel
      have HT : Hid (L.take k = M.take k) := hT
      clear hT
      by_cases hlt : k < L.length
      · have hlm := HLM.out
        obtain ⟨s, hs⟩ : ∃ s, L[k]? = some s := ⟨_, List.getElem?_eq_getElem hlt⟩
        obtain ⟨t, ht⟩ : ∃ t, M[k]? = some t := ⟨_, List.getElem?_eq_getElem (by omega)⟩
        obtain ⟨g, o, rfl, -, hc⟩ := (IntsIn.kept HL.out hlw.kept).get hs
        obtain ⟨g', o', rfl, -, kc⟩ := (IntsIn.kept HM.out hlw.kept).get ht
        have HS : Hid (L[k]? = some s) := hs
        have HU : Hid (M[k]? = some t) := ht
        have n0 : (0 : Int) ≤ k := by omega
        have n1 : (k : Int) < (L.length : Int) := by omega
        have n2 : (k : Int) < (M.length : Int) := by omega
        clear hs ht hlm HL HM
        rcases Decidable.em (s = t) with rfl | hne
        · go_upto_region 6 with (fail)
          go_quiet (fail)
          have hq := Later.drewN hlw nq
          go_wp2
          go_roundw
          case rel => exact ⟨k + 1, by go_num, by omega, by rw [take_int HS.out, take_int HU.out, HT.out], hq⟩
          case measure => simp [intOf]; omega
        · have hb : (s != t) = true := by simpa using hne
          go_upto_region 6 with (fail)
          go_quiet (fail)
          have hq := Later.drewN hlw nq
          go_wp2
          go_ret
          refine ⟨ret_bool ?_, hq⟩
          symm
          rw [decide_eq_false_iff_not]
          rintro rfl
          exact hne (Option.some.inj (HS.out.symm.trans HU.out))
      · go_wp2
        go_ret
        refine ⟨ret_bool ?_, hlw⟩
        symm
        rw [decide_eq_true_eq]
        have := HT.out
        rwa [List.take_of_length_le (by omega), List.take_of_length_le (by have := HLM.out; omega)] at this
  · have e0 : ((L.length : Int) != (M.length : Int)) = true := by simp; omega
    clear HL HM
    go_enter Tryd.func41, Tryd.ntmps41
    go_wp2
    go_ret
    refine ⟨ret_bool ?_, Later.refl _⟩
    symm
    rw [decide_eq_false_iff_not]
    rintro rfl
    exact hlen rfl

set_option maxRecDepth 1000000 in
set_option maxHeartbeats 4000000 in
theorem sameSym_any (a b : Sym) (L M : List Int) (w : World) (hL : IntsIn w a.init L) (hM : IntsIn w b.init M) :
    Calls Tryd.prog 25 #[a.val, b.val] w fun e w' => e = .returned (.bool (symEq (a, L) (b, M))) ∧ Later w w' := by
  obtain ⟨p, cap, hp, -, -⟩ := RowIn.slice hL
  obtain ⟨q, dap, hq, -, -⟩ := RowIn.slice hM
  have cE := fun w' h h' => intsEqual_any a.init b.init L M w' h h'
  have LL := Later.alloc (Later.alloc (Later.refl w) (.cells #[.string a.name, .int .i64 a.size, .slice p L.length cap] 42)) (.cells #[.string b.name, .int .i64 b.size, .slice q M.length dap] 42)
  obtain ⟨HB, HC⟩ := two_new2 w (.cells #[.string a.name, .int .i64 a.size, .slice p L.length cap] 42) (.cells #[.string b.name, .int .i64 b.size, .slice q M.length dap] 42)
  obtain ⟨a0, a1, a2, -⟩ := box3_facts HB
  obtain ⟨b0, b1, b2, -⟩ := box3_facts HC
  have hL' := hL.kept LL.kept
  have hM' := hM.kept LL.kept
  unfold Sym.val Sym.cells
  rw [hp, hq] at *
  have HE : Hid (symEq (a, L) (b, M) = (decide (a.name = b.name) && decide (a.size = b.size) && decide (L = M))) := rfl
  generalize symEq (a, L) (b, M) = r at *
  have hsz : (w.alloc (.cells #[.string a.name, .int .i64 a.size, .slice p L.length cap] 42)).heap.size = w.heap.size + 1 := by simp
  clear hL hM HB HC hp hq
  go_enter Tryd.func25, Tryd.ntmps25
  go_upto_region 1 with (fail)
  generalize (w.alloc (.cells #[.string a.name, .int .i64 a.size, .slice p L.length cap] 42)).alloc (.cells #[.string b.name, .int .i64 b.size, .slice q M.length dap] 42) = W at *
  clear hsz
  by_cases hn : a.name = b.name
  · have e1 := eqT_true hn
    by_cases hs : a.size = b.size
    · have HR : Hid (r = decide (L = M)) := by show _ = _; rw [HE.out]; simp [hn, hs]
      rw [hs] at a1
      clear hn hs HE
      go_wp2_with (go_at_call 41; refine (cE _ hL' hM').mono ?_; rintro e w1 ⟨rfl, hl⟩)
      go_ret
      exact ⟨ret_bool (by rw [HR.out]), LL.trans hl⟩
    · have e2 : (a.size == b.size) = false := by simpa using hs
      have HR : Hid (r = false) := by show _ = _; rw [HE.out]; simp [hs]
      clear hn hs HE
      go_wp2
      go_ret
      exact ⟨ret_bool (by rw [HR.out]), LL⟩
  · have e1 := eqT_false hn
    have HR : Hid (r = false) := by show _ = _; rw [HE.out]; simp [hn]
    clear hn HE
    go_wp2
    go_ret
    exact ⟨ret_bool (by rw [HR.out]), LL⟩

set_option maxRecDepth 1000000 in
set_option maxHeartbeats 4000000 in
theorem equal_sym (u v : Value) (l m : List (Sym × List Int)) (w : World) (hl : SymRow w u l) (hm : SymRow w v m) :
    Calls Tryd.prog 24 #[u, v, .func (.func 25) #[] #[]] w fun e w' => e = .returned (.bool (listEq symEq l m)) ∧ Later w w' := by
  obtain ⟨p, cap, rfl, h1, h2⟩ := RowIn.slice hl
  obtain ⟨p', cap', rfl, k1, k2⟩ := RowIn.slice hm
  unfold maxLen at h2 k2
  have HL : Hid (SymRow w (.slice p l.length cap) l) := hl
  have HM : Hid (SymRow w (.slice p' m.length cap') m) := hm
  clear hl hm
  by_cases hlen : l.length = m.length
  · have e0 : ((l.length : Int) != (m.length : Int)) = false := by simp; omega
    have HLM : Hid (l.length = m.length) := hlen
    clear hlen
    go_enter Tryd.func24, Tryd.ntmps24
    go_wp2
    go_loopw [17] (fun vi wr => ∃ i : Nat, vi = .int .i64 i ∧ i ≤ l.length ∧ Later w wr ∧ Hid (∀ (j : Nat) a b, j < i → l[j]? = some a → m[j]? = some b → symEq a b = true)) (fun vi _ => l.length - (intOf vi).toNat)
    case atStart => exact ⟨0, rfl, Nat.zero_le _, Later.refl _, fun j a b hj => by omega⟩
    case round =>
      obtain ⟨i, rfl, hi, hlw, hN⟩ := hrel
      by_cases hlt : i < l.length
      · have hlm := HLM.out
        obtain ⟨a, ha⟩ : ∃ a, l[i]? = some a := ⟨_, List.getElem?_eq_getElem hlt⟩
        obtain ⟨b, hb⟩ : ∃ b, m[i]? = some b := ⟨_, List.getElem?_eq_getElem (by omega)⟩
        obtain ⟨a, L⟩ := a
        obtain ⟨b, M⟩ := b
        obtain ⟨g, o, rfl, -, -, hin, c0, c1, c2⟩ := (SymRow.kept HL.out hlw.kept).get ha
        obtain ⟨g', o', rfl, -, -, hin', d0, d1, d2⟩ := (SymRow.kept HM.out hlw.kept).get hb
        obtain ⟨q, dap, hq, -, -⟩ := RowIn.slice hin
        obtain ⟨q', dap', hq', -, -⟩ := RowIn.slice hin'
        rw [hq] at c2
        rw [hq'] at d2
        have HA : Hid (l[i]? = some (a, L)) := ha
        have HB : Hid (m[i]? = some (b, M)) := hb
        have hmI : (i : Int) < m.length := by omega
        clear ha hb hlm HL HM
        have LB := Later.alloc (Later.alloc (Later.refl wr) (.cells #[.string a.name, .int .i64 a.size, .slice q L.length dap] 42)) (.cells #[.string b.name, .int .i64 b.size, .slice q' M.length dap'] 42)
        obtain ⟨X1, X2⟩ := two_new2 wr (.cells #[.string a.name, .int .i64 a.size, .slice q L.length dap] 42) (.cells #[.string b.name, .int .i64 b.size, .slice q' M.length dap'] 42)
        have hsz : (wr.alloc (.cells #[.string a.name, .int .i64 a.size, .slice q L.length dap] 42)).heap.size = wr.heap.size + 1 := by simp
        have hdx := fun (d : Addr) c (h : wr.cell? d = some c) => cell_later h (Later.alloc (Later.refl wr) (.cells #[.string a.name, .int .i64 a.size, .slice q L.length dap] 42))
        have cc := sameSym_any a b L M _ (hin.kept LB.kept) (hin'.kept LB.kept)
        unfold Sym.val Sym.cells at cc
        rw [hq, hq'] at cc
        have d0' := hdx _ _ d0
        have d1' := hdx _ _ d1
        have d2' := hdx _ _ d2
        clear hin hin' hq hq' d0 d1 d2
        go_upto_region 7 with (fail)
        generalize (wr.alloc (.cells #[.string a.name, .int .i64 a.size, .slice q L.length dap] 42)).alloc (.cells #[.string b.name, .int .i64 b.size, .slice q' M.length dap'] 42) = W2 at *
        obtain ⟨x0, x1, x2, -⟩ := box3_facts X1
        obtain ⟨y0, y1, y2, -⟩ := box3_facts X2
        clear hdx hsz X1 X2
        cases he : symEq (a, L) (b, M) with
        | true =>
          rw [he] at cc
          have HE : Hid (symEq (a, L) (b, M) = true) := he
          clear he
          go_wp2_with (go_at_call 25; refine cc.mono ?_; rintro e w1 ⟨rfl, hl⟩)
          go_roundw
          case rel => exact ⟨i + 1, by go_num, by omega, hlw.trans (LB.trans hl), fun j x y hj hx hy => by
            rcases Nat.lt_succ_iff_lt_or_eq.1 hj with h | rfl
            · exact hN.out j x y h hx hy
            · rw [HA.out] at hx; rw [HB.out] at hy; cases hx; cases hy; exact HE.out⟩
          case measure => simp [intOf]; omega
        | false =>
          rw [he] at cc
          have HE : Hid (symEq (a, L) (b, M) = false) := he
          clear he
          go_wp2_with (go_at_call 25; refine cc.mono ?_; rintro e w1 ⟨rfl, hl⟩)
          go_ret
          exact ⟨ret_bool (by rw [listEq_not HA.out HB.out HE.out]), hlw.trans (LB.trans hl)⟩
      · have HE : Hid (listEq symEq l m = true) := listEq_all HLM.out (fun j a b ha hb => hN.out j a b (by have := (List.getElem?_eq_some_iff.1 ha).1; omega) ha hb)
        go_wp2
        go_ret
        exact ⟨ret_bool (by rw [HE.out]), hlw⟩
  · have e0 : ((l.length : Int) != (m.length : Int)) = true := by simp; omega
    have HE : Hid (listEq symEq l m = false) := listEq_len hlen
    clear HL HM
    go_enter Tryd.func24, Tryd.ntmps24
    go_wp2
    go_ret
    exact ⟨ret_bool (by rw [HE.out]), Later.refl _⟩

set_option maxRecDepth 1000000 in
set_option maxHeartbeats 4000000 in
theorem equal_ins (u v : Value) (l m : List (Ins × List ByteArray)) (w : World) (hl : InsRow w u l) (hm : InsRow w v m) :
    Calls Tryd.prog 42 #[u, v, .func (.func 43) #[] #[]] w fun e w' => e = .returned (.bool (listEq insEq l m)) ∧ Later w w' := by
  obtain ⟨p, cap, rfl, h1, h2⟩ := RowIn.slice hl
  obtain ⟨p', cap', rfl, k1, k2⟩ := RowIn.slice hm
  unfold maxLen at h2 k2
  have HL : Hid (InsRow w (.slice p l.length cap) l) := hl
  have HM : Hid (InsRow w (.slice p' m.length cap') m) := hm
  clear hl hm
  by_cases hlen : l.length = m.length
  · have e0 : ((l.length : Int) != (m.length : Int)) = false := by simp; omega
    have HLM : Hid (l.length = m.length) := hlen
    clear hlen
    go_enter Tryd.func42, Tryd.ntmps42
    go_wp2
    go_loopw [17] (fun vi wr => ∃ i : Nat, vi = .int .i64 i ∧ i ≤ l.length ∧ Later w wr ∧ Hid (∀ (j : Nat) a b, j < i → l[j]? = some a → m[j]? = some b → insEq a b = true)) (fun vi _ => l.length - (intOf vi).toNat)
    case atStart => exact ⟨0, rfl, Nat.zero_le _, Later.refl _, fun j a b hj => by omega⟩
    case round =>
      obtain ⟨i, rfl, hi, hlw, hN⟩ := hrel
      by_cases hlt : i < l.length
      · have hlm := HLM.out
        obtain ⟨a, ha⟩ : ∃ a, l[i]? = some a := ⟨_, List.getElem?_eq_getElem hlt⟩
        obtain ⟨b, hb⟩ : ∃ b, m[i]? = some b := ⟨_, List.getElem?_eq_getElem (by omega)⟩
        obtain ⟨x, L⟩ := a
        obtain ⟨y, M⟩ := b
        obtain ⟨g, o, rfl, -, hin, c0, c1, c2, c3, c4, c5, c6, c7, c8, c9, c10, c11, c12⟩ := (InsRow.kept HL.out hlw.kept).get ha
        obtain ⟨g', o', rfl, -, hin', d0, d1, d2, d3, d4, d5, d6, d7, d8, d9, d10, d11, d12⟩ := (InsRow.kept HM.out hlw.kept).get hb
        have hin0 := hin
        have hin0' := hin'
        obtain ⟨q, dap, hq, -⟩ := hin
        obtain ⟨q', dap', hq', -⟩ := hin'
        rw [hq] at c12
        rw [hq'] at d12
        have HA : Hid (l[i]? = some (x, L)) := ha
        have HB : Hid (m[i]? = some (y, M)) := hb
        have hmI : (i : Int) < m.length := by omega
        clear ha hb hlm HL HM
        have LB := Later.alloc (Later.alloc (Later.refl wr) (.cells #[.int .i64 x.op, .bool x.lock, .int .i64 x.cond, .int .i64 x.a.kind, .int .i64 x.a.reg, .int .i64 x.a.sym, .int .i64 x.a.n, .int .i64 x.b.kind, .int .i64 x.b.reg, .int .i64 x.b.sym, .int .i64 x.b.n, .string x.dest, .slice q L.length dap] 39)) (.cells #[.int .i64 y.op, .bool y.lock, .int .i64 y.cond, .int .i64 y.a.kind, .int .i64 y.a.reg, .int .i64 y.a.sym, .int .i64 y.a.n, .int .i64 y.b.kind, .int .i64 y.b.reg, .int .i64 y.b.sym, .int .i64 y.b.n, .string y.dest, .slice q' M.length dap'] 39)
        obtain ⟨X1, X2⟩ := two_new2 wr (.cells #[.int .i64 x.op, .bool x.lock, .int .i64 x.cond, .int .i64 x.a.kind, .int .i64 x.a.reg, .int .i64 x.a.sym, .int .i64 x.a.n, .int .i64 x.b.kind, .int .i64 x.b.reg, .int .i64 x.b.sym, .int .i64 x.b.n, .string x.dest, .slice q L.length dap] 39) (.cells #[.int .i64 y.op, .bool y.lock, .int .i64 y.cond, .int .i64 y.a.kind, .int .i64 y.a.reg, .int .i64 y.a.sym, .int .i64 y.a.n, .int .i64 y.b.kind, .int .i64 y.b.reg, .int .i64 y.b.sym, .int .i64 y.b.n, .string y.dest, .slice q' M.length dap'] 39)
        have hsz : (wr.alloc (.cells #[.int .i64 x.op, .bool x.lock, .int .i64 x.cond, .int .i64 x.a.kind, .int .i64 x.a.reg, .int .i64 x.a.sym, .int .i64 x.a.n, .int .i64 x.b.kind, .int .i64 x.b.reg, .int .i64 x.b.sym, .int .i64 x.b.n, .string x.dest, .slice q L.length dap] 39)).heap.size = wr.heap.size + 1 := by simp
        have hdx := fun (d : Addr) c (h : wr.cell? d = some c) => cell_later h (Later.alloc (Later.refl wr) (.cells #[.int .i64 x.op, .bool x.lock, .int .i64 x.cond, .int .i64 x.a.kind, .int .i64 x.a.reg, .int .i64 x.a.sym, .int .i64 x.a.n, .int .i64 x.b.kind, .int .i64 x.b.reg, .int .i64 x.b.sym, .int .i64 x.b.n, .string x.dest, .slice q L.length dap] 39))
        have cc := insSame_any x y L M _ (hin0.kept LB.kept) (hin0'.kept LB.kept)
        rw [show sameF x L y M = insEq (x, L) (y, M) from rfl] at cc
        unfold Ins.val Ins.cells at cc
        rw [hq, hq'] at cc
        have d0' := hdx _ _ d0
        have d1' := hdx _ _ d1
        have d2' := hdx _ _ d2
        have d3' := hdx _ _ d3
        have d4' := hdx _ _ d4
        have d5' := hdx _ _ d5
        have d6' := hdx _ _ d6
        have d7' := hdx _ _ d7
        have d8' := hdx _ _ d8
        have d9' := hdx _ _ d9
        have d10' := hdx _ _ d10
        have d11' := hdx _ _ d11
        have d12' := hdx _ _ d12
        clear hin0 hin0' hq hq' d0 d1 d2 d3 d4 d5 d6 d7 d8 d9 d10 d11 d12
        go_upto_region 7 with (fail)
        generalize (wr.alloc (.cells #[.int .i64 x.op, .bool x.lock, .int .i64 x.cond, .int .i64 x.a.kind, .int .i64 x.a.reg, .int .i64 x.a.sym, .int .i64 x.a.n, .int .i64 x.b.kind, .int .i64 x.b.reg, .int .i64 x.b.sym, .int .i64 x.b.n, .string x.dest, .slice q L.length dap] 39)).alloc (.cells #[.int .i64 y.op, .bool y.lock, .int .i64 y.cond, .int .i64 y.a.kind, .int .i64 y.a.reg, .int .i64 y.a.sym, .int .i64 y.a.n, .int .i64 y.b.kind, .int .i64 y.b.reg, .int .i64 y.b.sym, .int .i64 y.b.n, .string y.dest, .slice q' M.length dap'] 39) = W2 at *
        obtain ⟨x0, x1, x2, x3, x4, x5, x6, x7, x8, x9, x10, x11, x12⟩ := box13_facts X1
        obtain ⟨y0, y1, y2, y3, y4, y5, y6, y7, y8, y9, y10, y11, y12⟩ := box13_facts X2
        clear hdx hsz X1 X2
        cases he : insEq (x, L) (y, M) with
        | true =>
          rw [he] at cc
          have HE : Hid (insEq (x, L) (y, M) = true) := he
          clear he
          go_wp2_with (go_at_call 43; refine cc.mono ?_; rintro e w1 ⟨rfl, hl⟩)
          go_roundw
          case rel => exact ⟨i + 1, by go_num, by omega, hlw.trans (LB.trans hl), fun j z z2 hj hx hy => by
            rcases Nat.lt_succ_iff_lt_or_eq.1 hj with h | rfl
            · exact hN.out j z z2 h hx hy
            · rw [HA.out] at hx; rw [HB.out] at hy; cases hx; cases hy; exact HE.out⟩
          case measure => simp [intOf]; omega
        | false =>
          rw [he] at cc
          have HE : Hid (insEq (x, L) (y, M) = false) := he
          clear he
          go_wp2_with (go_at_call 43; refine cc.mono ?_; rintro e w1 ⟨rfl, hl⟩)
          go_ret
          exact ⟨ret_bool (by rw [listEq_not HA.out HB.out HE.out]), hlw.trans (LB.trans hl)⟩
      · have HE : Hid (listEq insEq l m = true) := listEq_all HLM.out (fun j a b ha hb => hN.out j a b (by have := (List.getElem?_eq_some_iff.1 ha).1; omega) ha hb)
        go_wp2
        go_ret
        exact ⟨ret_bool (by rw [HE.out]), hlw⟩
  · have e0 : ((l.length : Int) != (m.length : Int)) = true := by simp; omega
    have HE : Hid (listEq insEq l m = false) := listEq_len hlen
    clear HL HM
    go_enter Tryd.func42, Tryd.ntmps42
    go_wp2
    go_ret
    exact ⟨ret_bool (by rw [HE.out]), Later.refl _⟩

theorem sameThread_any (u v : Value) (T U : Thr) (w : World) (hT : InsRow w u T) (hU : InsRow w v U) :
    Calls Tryd.prog 27 #[.agg #[u], .agg #[v]] w fun e w' => e = .returned (.bool (thrEq T U)) ∧ Later w w' := by
  have LL := Later.alloc (Later.alloc (Later.refl w) (.cells #[u] 34)) (.cells #[v] 34)
  obtain ⟨HB, HC⟩ := two_new2 w (.cells #[u] 34) (.cells #[v] 34)
  obtain ⟨a0, -⟩ := box1_facts HB
  obtain ⟨b0, -⟩ := box1_facts HC
  have cE := equal_ins u v T U _ (hT.kept LL.kept) (hU.kept LL.kept)
  unfold thrEq
  generalize listEq insEq T U = r at *
  clear HB HC hT hU
  go_enter Tryd.func27, Tryd.ntmps27
  go_wp2_with (go_at_call 42; refine cE.mono ?_; rintro e w1 ⟨rfl, hl⟩)
  go_ret
  exact ⟨rfl, LL.trans hl⟩

set_option maxRecDepth 1000000 in
set_option maxHeartbeats 4000000 in
theorem equal_thr (u v : Value) (l m : List (Thr)) (w : World) (hl : ThrRow w u l) (hm : ThrRow w v m) :
    Calls Tryd.prog 26 #[u, v, .func (.func 27) #[] #[]] w fun e w' => e = .returned (.bool (listEq thrEq l m)) ∧ Later w w' := by
  obtain ⟨p, cap, rfl, h1, h2⟩ := RowIn.slice hl
  obtain ⟨p', cap', rfl, k1, k2⟩ := RowIn.slice hm
  unfold maxLen at h2 k2
  have HL : Hid (ThrRow w (.slice p l.length cap) l) := hl
  have HM : Hid (ThrRow w (.slice p' m.length cap') m) := hm
  clear hl hm
  by_cases hlen : l.length = m.length
  · have e0 : ((l.length : Int) != (m.length : Int)) = false := by simp; omega
    have HLM : Hid (l.length = m.length) := hlen
    clear hlen
    go_enter Tryd.func26, Tryd.ntmps26
    go_wp2
    go_loopw [17] (fun vi wr => ∃ i : Nat, vi = .int .i64 i ∧ i ≤ l.length ∧ Later w wr ∧ Hid (∀ (j : Nat) a b, j < i → l[j]? = some a → m[j]? = some b → thrEq a b = true)) (fun vi _ => l.length - (intOf vi).toNat)
    case atStart => exact ⟨0, rfl, Nat.zero_le _, Later.refl _, fun j a b hj => by omega⟩
    case round =>
      obtain ⟨i, rfl, hi, hlw, hN⟩ := hrel
      by_cases hlt : i < l.length
      · have hlm := HLM.out
        obtain ⟨a, ha⟩ : ∃ a, l[i]? = some a := ⟨_, List.getElem?_eq_getElem hlt⟩
        obtain ⟨b, hb⟩ : ∃ b, m[i]? = some b := ⟨_, List.getElem?_eq_getElem (by omega)⟩
        obtain ⟨g, o, t, rfl, hin, c0⟩ := (ThrRow.kept HL.out hlw.kept).get ha
        obtain ⟨g', o', t', rfl, hin', d0⟩ := (ThrRow.kept HM.out hlw.kept).get hb
        obtain ⟨q, dap, rfl, -, -⟩ := RowIn.slice hin
        obtain ⟨q', dap', rfl, -, -⟩ := RowIn.slice hin'
        have HA : Hid (l[i]? = some a) := ha
        have HB : Hid (m[i]? = some b) := hb
        have hmI : (i : Int) < m.length := by omega
        clear ha hb hlm HL HM
        have LB := Later.alloc (Later.alloc (Later.refl wr) (.cells #[.slice q a.length dap] 34)) (.cells #[.slice q' b.length dap'] 34)
        obtain ⟨X1, X2⟩ := two_new2 wr (.cells #[.slice q a.length dap] 34) (.cells #[.slice q' b.length dap'] 34)
        have hsz : (wr.alloc (.cells #[.slice q a.length dap] 34)).heap.size = wr.heap.size + 1 := by simp
        have hdx := fun (d : Addr) c (h : wr.cell? d = some c) => cell_later h (Later.alloc (Later.refl wr) (.cells #[.slice q a.length dap] 34))
        have cc := sameThread_any _ _ a b _ (hin.kept LB.kept) (hin'.kept LB.kept)
        have d0' := hdx _ _ d0
        clear hin hin' d0
        go_upto_region 7 with (fail)
        generalize (wr.alloc (.cells #[.slice q a.length dap] 34)).alloc (.cells #[.slice q' b.length dap'] 34) = W2 at *
        obtain ⟨x0, -⟩ := box1_facts X1
        obtain ⟨y0, -⟩ := box1_facts X2
        clear hdx hsz X1 X2
        cases he : thrEq a b with
        | true =>
          rw [he] at cc
          have HE : Hid (thrEq a b = true) := he
          clear he
          go_wp2_with (go_at_call 27; refine cc.mono ?_; rintro e w1 ⟨rfl, hl⟩)
          go_roundw
          case rel => exact ⟨i + 1, by go_num, by omega, hlw.trans (LB.trans hl), fun j x y hj hx hy => by
            rcases Nat.lt_succ_iff_lt_or_eq.1 hj with h | rfl
            · exact hN.out j x y h hx hy
            · rw [HA.out] at hx; rw [HB.out] at hy; cases hx; cases hy; exact HE.out⟩
          case measure => simp [intOf]; omega
        | false =>
          rw [he] at cc
          have HE : Hid (thrEq a b = false) := he
          clear he
          go_wp2_with (go_at_call 27; refine cc.mono ?_; rintro e w1 ⟨rfl, hl⟩)
          go_ret
          exact ⟨ret_bool (by rw [listEq_not HA.out HB.out HE.out]), hlw.trans (LB.trans hl)⟩
      · have HE : Hid (listEq thrEq l m = true) := listEq_all HLM.out (fun j a b ha hb => hN.out j a b (by have := (List.getElem?_eq_some_iff.1 ha).1; omega) ha hb)
        go_wp2
        go_ret
        exact ⟨ret_bool (by rw [HE.out]), hlw⟩
  · have e0 : ((l.length : Int) != (m.length : Int)) = true := by simp; omega
    have HE : Hid (listEq thrEq l m = false) := listEq_len hlen
    clear HL HM
    go_enter Tryd.func26, Tryd.ntmps26
    go_wp2
    go_ret
    exact ⟨ret_bool (by rw [HE.out]), Later.refl _⟩

theorem same_any (u v u' v' : Value) (S S' : Syms) (P P' : List Thr) (w : World) (hS : SymRow w u S) (hP : ThrRow w v P) (hS' : SymRow w u' S') (hP' : ThrRow w v' P') :
    Calls Tryd.prog 10 #[.agg #[u, v], .agg #[u', v']] w fun e w' => e = .returned (.bool (progEq S P S' P')) ∧ Later w w' := by
  have LL := Later.alloc (Later.alloc (Later.refl w) (.cells #[u, v] 25)) (.cells #[u', v'] 25)
  obtain ⟨HB, HC⟩ := two_new2 w (.cells #[u, v] 25) (.cells #[u', v'] 25)
  obtain ⟨a0, a1, -⟩ := box2_facts HB
  obtain ⟨b0, b1, -⟩ := box2_facts HC
  have cS := equal_sym u u' S S' _ (hS.kept LL.kept) (hS'.kept LL.kept)
  have cP := fun w' h h' => equal_thr v v' P P' w' h h'
  have kP := hP.kept LL.kept
  have kP' := hP'.kept LL.kept
  unfold progEq
  generalize listEq symEq S S' = r at *
  generalize listEq thrEq P P' = q at *
  have hsz : (w.alloc (.cells #[u, v] 25)).heap.size = w.heap.size + 1 := by simp
  clear HB HC hS hP hS' hP'
  go_enter Tryd.func10, Tryd.ntmps10
  go_upto_region 1 with (fail)
  generalize (w.alloc (.cells #[u, v] 25)).alloc (.cells #[u', v'] 25) = W at *
  clear hsz
  cases r with
  | false =>
    go_wp2_with (go_at_call 24; refine cS.mono ?_; rintro e w1 ⟨rfl, hl⟩)
    go_ret
    exact ⟨rfl, LL.trans hl⟩
  | true =>
    go_wp2_with (first
      | (go_at_call 24; refine cS.mono ?_; rintro e w1 ⟨rfl, hl⟩; have c1 := cell_later a1 hl; have d1 := cell_later b1 hl)
      | (go_at_call 26; refine (cP _ (kP.kept hl.kept) (kP'.kept hl.kept)).mono ?_; rintro e w2 ⟨rfl, hl2⟩))
    go_ret
    exact ⟨ret_bool (by simp), LL.trans (hl.trans hl2)⟩

end Go.Proofs.YtegogmbcjjjjjaaDoor
