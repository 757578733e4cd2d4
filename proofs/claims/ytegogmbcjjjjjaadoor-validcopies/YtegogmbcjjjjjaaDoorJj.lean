/-
  What package valid's and the document's own functions over an operand, an instruction and a symbol say is wrong with it. Nothing that was in memory turns. Conditions: the symbols lie in memory; texts of at most 1000 bytes.
  What package valid's functions over a symbol, and over a thread's end, return. Nothing that was in memory turns. Conditions: symbols and threads lie in memory; texts of at most 1000 bytes.
  What package valid's functions over a thread's labels and jumps return, and what the set of labels holds behind them. Of what was in memory only that set turns. Conditions: the thread lies in memory; texts of at most 1000 bytes.
  What package valid says is wrong with a thread. Nothing that was in memory turns. Conditions: the symbols and the thread lie in memory; texts of at most 1000 bytes, at most 1000000 labels.
  What package valid says is wrong with a program. Nothing that was in memory turns. Conditions: the program lies in memory; texts of at most 1000 bytes, at most 1000000 labels a thread.
-/
import Derived.Test.YtegogmbcjjjjjaaDoorJi
import Derived.Test.YtegogmbcjjjjjaaDoorJg
import Derived.Test.YtegogmbcjjjjjaaDoorJh
namespace Go.Proofs.YtegogmbcjjjjjaaDoor
open Go.RowKit
set_option linter.unusedVariables false
set_option linter.unusedSimpArgs false

theorem mem_other {o : Opd} (h : memF o = false) : (o.kind != 3) = true ∧ (o.kind != 4) = true := by
  simp [memF] at h
  simp
  omega

set_option maxRecDepth 1000000 in
set_option maxHeartbeats 1000000 in
theorem checkMemory_any (o : Opd) (v : Value) (S : Syms) (w : World) (hS : SymRow w v S) (h0 : memF o = true → 0 ≤ o.sym) :
    Calls Tryd.prog 58 #[o.val, v] w fun e w' => e = .returned (.int .i64 (memC S o)) ∧ Later w w' := by
  obtain ⟨p, cap, rfl, h1, h2⟩ := hS.slice
  have LL := Later.alloc (Later.refl w) (.cells #[.int .i64 o.kind, .int .i64 o.reg, .int .i64 o.sym, .int .i64 o.n] 36)
  obtain ⟨b0, b1, b2, b3, -⟩ := box4_facts (at_new w (.cells #[.int .i64 o.kind, .int .i64 o.reg, .int .i64 o.sym, .int .i64 o.n] 36))
  have hS' := hS.kept LL.kept
  unfold Opd.val maxLen at *
  have HS : Hid (SymRow (w.alloc (.cells #[.int .i64 o.kind, .int .i64 o.reg, .int .i64 o.sym, .int .i64 o.n] 36)) (.slice p S.length cap) S) := hS'
  clear hS hS'
  go_enter Tryd.func58, Tryd.ntmps58
  go_upto_region 1 with (fail)
  generalize w.alloc (.cells #[.int .i64 o.kind, .int .i64 o.reg, .int .i64 o.sym, .int .i64 o.n] 36) = W at *
  cases hm : memF o with
  | false =>
    obtain ⟨e1, e2⟩ := mem_other hm
    go_wp2
    all_goals go_ret
    all_goals exact ⟨ret_int (by simp [memC, hm]), LL⟩
  | true =>
    obtain ⟨k, hk⟩ := Int.eq_ofNat_of_zero_le (h0 hm)
    have hkind : o.kind = 3 ∨ o.kind = 4 := by simpa [memF] using hm
    rw [hk] at b2
    by_cases hlt : S.length ≤ k
    · have HM : Hid (memC S o = 7) := by
        show _ = _
        simp [memC, hm, hk, hlt]
      rcases hkind with h3 | h3 <;> rw [h3] at b0
      · go_wp2
        go_ret
        exact ⟨by simp only [HM.out]; rfl, LL⟩
      · go_wp2
        go_ret
        exact ⟨by simp only [HM.out]; rfl, LL⟩
    · obtain ⟨⟨s, L⟩, hs⟩ : ∃ t, S[k]? = some t := ⟨_, List.getElem?_eq_getElem (by omega)⟩
      obtain ⟨g, q, rfl, -, -, -, c0, c1, c2⟩ := HS.out.get hs
      have hz : sizeAt S o.sym = s.size := by simp [sizeAt, hk, hs]
      clear HS hs c0 c2
      rcases hkind with h3 | h3 <;> rw [h3] at b0
      · by_cases hn : s.size ≤ o.n
        · have HM : Hid (memC S o = 8) := by
            show _ = _
            simp [memC, hm, hk, hlt, h3, sizeAt] at *
            simp [hz, hn]
          go_wp2
          go_quiet (fail)
          have LQ := Later.drewN LL nq
          go_wp2
          go_ret
          exact ⟨by simp only [HM.out]; rfl, LQ⟩
        · have HM : Hid (memC S o = 0) := by
            show _ = _
            simp [memC, hm, hk, hlt, h3, sizeAt] at *
            simp [hz, hn]
          go_wp2
          go_quiet (fail)
          have LQ := Later.drewN LL nq
          go_wp2
          go_ret
          exact ⟨by simp only [HM.out]; rfl, LQ⟩
      · have HM : Hid (memC S o = 0) := by
          show _ = _
          simp [memC, hm, hk, hlt, h3]
        have e43 : ((4 : Int) == 3) = false := rfl
        go_wp2
        go_quiet (fail)
        have LQ := Later.drewN LL nq
        go_wp2
        go_ret
        exact ⟨by simp only [HM.out]; rfl, LQ⟩

set_option maxRecDepth 1000000 in
set_option maxHeartbeats 1000000 in
theorem checkIns_any (x : Ins) (v : Value) (S : Syms) (w : World) (hG : NamesGood w) (hS : SymRow w v S) (hd : x.dest.size ≤ 1000) (hlb : ∃ p n cap, x.labels = .slice p n cap) :
    Calls Tryd.prog 48 #[x.val, v] w fun e w' => e = .returned (.int .i64 (opsC S x)) ∧ Later w w' := by
  have hrow := fun (h : insF x = 0) => row_syms h
  have cR := fun w' h => insRight_any x hd w' h
  have cA := fun (h : insF x = 0) w' h' => checkMemory_any x.a v S w' h' (hrow h).1
  have cB := fun (h : insF x = 0) w' h' => checkMemory_any x.b v S w' h' (hrow h).2
  have hO : opsC S x = if insF x = 0 then (if memC S x.a = 0 then memC S x.b else memC S x.a) else insF x := rfl
  generalize opsC S x = oc at *
  generalize insF x = ic at *
  generalize memC S x.a = ma at *
  generalize memC S x.b = mb at *
  obtain ⟨lp, ln, lc, hlb⟩ := hlb
  obtain ⟨op, lock, cond, ⟨ak, ar, ay, an⟩, ⟨bk, br, bs, bn⟩, dest, lb⟩ := x
  unfold Ins.val Ins.cells Opd.val at *
  dsimp only at *
  subst hlb
  have LL := Later.alloc (Later.refl w) (.cells #[.int .i64 op, .bool lock, .int .i64 cond, .int .i64 ak, .int .i64 ar, .int .i64 ay, .int .i64 an, .int .i64 bk, .int .i64 br, .int .i64 bs, .int .i64 bn, .string dest, .slice lp ln lc] 39)
  have HB := at_new w (.cells #[.int .i64 op, .bool lock, .int .i64 cond, .int .i64 ak, .int .i64 ar, .int .i64 ay, .int .i64 an, .int .i64 bk, .int .i64 br, .int .i64 bs, .int .i64 bn, .string dest, .slice lp ln lc] 39)
  obtain ⟨b0, b1, b2, b3, b4, b5, b6, b7, b8, b9, b10, b11, b12⟩ := box13_facts HB
  have hS' := hS.kept LL.kept
  have hG' := hG.later LL
  clear hS hG hd hrow HB
  go_enter Tryd.func48, Tryd.ntmps48
  go_upto_region 1 with (fail)
  generalize w.alloc (.cells #[.int .i64 op, .bool lock, .int .i64 cond, .int .i64 ak, .int .i64 ar, .int .i64 ay, .int .i64 an, .int .i64 bk, .int .i64 br, .int .i64 bs, .int .i64 bn, .string dest, .slice lp ln lc] 39) = W at *
  rcases Decidable.em (ic = 0) with rfl | hi
  · have cA1 := cA rfl
    have cB1 := cB rfl
    clear cA cB
    rcases Decidable.em (ma = 0) with rfl | hma
    · simp only [if_true] at hO
      subst hO
      go_wp2_with (first
        | (go_at_call 57; refine (cR _ hG').mono ?_; rintro e w1 ⟨rfl, hl⟩; have d3 := cell_later b3 hl; have d4 := cell_later b4 hl; have d5 := cell_later b5 hl; have d6 := cell_later b6 hl; have d7 := cell_later b7 hl; have d8 := cell_later b8 hl; have d9 := cell_later b9 hl; have d10 := cell_later b10 hl; have hS1 := SymRow.kept hS' hl.kept; clear b3 b4 b5 b6 b7 b8 b9 b10)
        | (go_at_call 58; apply Calls.mono; (focus (with_reducible (exact cA1 _ hS1))); rintro e w2 ⟨rfl, hl2⟩; have f7 := cell_later d7 hl2; have f8 := cell_later d8 hl2; have f9 := cell_later d9 hl2; have f10 := cell_later d10 hl2; have hS2 := SymRow.kept hS1 hl2.kept)
        | (go_at_call 58; apply Calls.mono; (focus (with_reducible (exact cB1 _ hS2))); rintro e w3 ⟨rfl, hl3⟩))
      go_ret
      exact ⟨rfl, LL.trans (hl.trans (hl2.trans hl3))⟩
    · simp only [if_true, if_neg hma] at hO
      subst hO
      have hne : (oc != 0) = true := by simpa using hma
      go_wp2_with (first
        | (go_at_call 57; refine (cR _ hG').mono ?_; rintro e w1 ⟨rfl, hl⟩; have d3 := cell_later b3 hl; have d4 := cell_later b4 hl; have d5 := cell_later b5 hl; have d6 := cell_later b6 hl; have hS1 := SymRow.kept hS' hl.kept)
        | (go_at_call 58; apply Calls.mono; (focus (with_reducible (exact cA1 _ hS1))); rintro e w2 ⟨rfl, hl2⟩))
      go_ret
      exact ⟨rfl, LL.trans (hl.trans hl2)⟩
  · rw [if_neg hi] at hO
    subst hO
    have hne : (oc != 0) = true := by simpa using hi
    go_wp2_with (go_at_call 57; refine (cR _ hG').mono ?_; rintro e w1 ⟨rfl, hl⟩)
    go_ret
    exact ⟨rfl, LL.trans hl⟩

end Go.Proofs.YtegogmbcjjjjjaaDoor

namespace Go.Proofs.YtegogmbcjjjjjaaDoor
open Go.RowKit
set_option linter.unusedVariables false
set_option linter.unusedSimpArgs false

theorem last_of {T : Thr} {m : Nat} (h : T.length = m + 1) {x : Ins × List ByteArray} (hx : T[m]? = some x) : T.getLast? = some x := by
  rw [List.getLast?_eq_getElem?, h]
  exact hx

set_option maxRecDepth 1000000 in
set_option maxHeartbeats 1000000 in
theorem ends_any (u : Value) (T : Thr) (w : World) (hG : NamesGood w) (hT : InsRow w u T) (hd : ∀ x ∈ T, x.1.dest.size ≤ 1000) :
    Calls Tryd.prog 49 #[.agg #[u]] w fun e w' => e = .returned (.bool (endsV T)) ∧ Later w w' := by
  obtain ⟨p, cap, rfl, h1, h2⟩ := hT.slice
  unfold maxLen at h2
  rcases Nat.eq_zero_or_pos T.length with h0 | h0
  · have HM : Hid (endsV T = false) := by
      obtain rfl := List.length_eq_zero_iff.1 h0
      exact rfl
    rw [h0]
    clear hT h1
    go_enter Tryd.func49, Tryd.ntmps49
    go_wp2
    go_ret
    exact ⟨ret_bool HM.out.symm, Later.alloc (Later.refl _) _⟩
  · obtain ⟨m, hm⟩ : ∃ m, T.length = m + 1 := ⟨T.length - 1, by omega⟩
    obtain ⟨⟨x, L⟩, hx⟩ : ∃ t, T[m]? = some t := ⟨_, List.getElem?_eq_getElem (by omega)⟩
    have HM : Hid (endsV T = !(leadsF x).1) := by
      show _ = _
      unfold endsV
      rw [last_of hm hx]
    have LL := Later.alloc (Later.refl w) (.cells #[.slice p T.length cap] 34)
    have hB := (box1_facts (at_new w (.cells #[.slice p T.length cap] 34))).1
    obtain ⟨g, o, rfl, hok, hti, b0, b1, b2, b3, b4, b5, b6, b7, b8, b9, b10, b11, b12⟩ := (InsRow.kept hT LL.kept).get hx
    have cL := insLeads_any x (hd _ (List.mem_of_getElem? hx)) _ (hG.later LL)
    unfold Ins.val Ins.cells at cL
    have hmc : m + 1 ≤ cap := by omega
    rw [hm] at *
    clear h1 hT hx hti hok hG hd hm h0
    generalize leadsF x = q at *
    obtain ⟨q1, q2⟩ := q
    go_enter Tryd.func49, Tryd.ntmps49
    go_upto_region 1 with (fail)
    generalize w.alloc (.cells #[.slice (some ⟨g, o, none⟩) (m + 1) cap] 34) = W at *
    go_wp2_with (go_at_call 59; refine cL.mono ?_; rintro e w1 ⟨rfl, hl⟩)
    go_ret
    exact ⟨ret_bool HM.out.symm, LL.trans hl⟩

/-- The first that is so. -/
def idxP {α : Type} (f : α → Bool) : List α → Nat → Int
  | [], _ => -1
  | a :: r, k => if f a = true then k else idxP f r (k + 1)

theorem idxP_drop {α : Type} (f : α → Bool) (l : List α) (i : Nat) (a : α) (h : l[i]? = some a) : idxP f (l.drop i) i = if f a = true then (i : Int) else idxP f (l.drop (i + 1)) (i + 1) := by
  obtain ⟨hi, ht⟩ := List.getElem?_eq_some_iff.1 h
  rw [List.drop_eq_getElem_cons hi, ht]
  rfl

theorem idxP_any {α : Type} (f : α → Bool) : ∀ (l : List α) (k : Nat), (0 ≤ idxP f l k) ↔ l.any f = true
  | [], k => by simp [idxP]
  | a :: r, k => by
    unfold idxP
    rw [List.any_cons]
    cases f a
    · simp [idxP_any f r (k + 1)]
    · simp

def nameIs (n : ByteArray) (a : Sym × List Int) : Bool := decide (a.1.name = n)

theorem eqT_true {s t : ByteArray} (h : s = t) : (s.toList == t.toList) = true := by rw [h]; simp
theorem eqT_false {s t : ByteArray} (h : ¬ s = t) : (s.toList == t.toList) = false := by
  have := bytes_ne h
  simpa using this

theorem checkSym1_any (a : Sym) (L : List Int) (n : ByteArray) (B : Nat) (w : World) (hn : w.cell? ⟨B, 0, none⟩ = some (.string n)) :
    Calls Tryd.prog 46 #[a.val, .pointer (some ⟨B, 0, none⟩)] w fun e w' => e = .returned (.bool (nameIs n (a, L))) ∧ Later w w' := by
  have LL := Later.alloc (Later.refl w) (.cells #[.string a.name, .int .i64 a.size, a.init] 42)
  have hn' := cell_later hn LL
  obtain ⟨b0, -⟩ := box3_facts (at_new w (.cells #[.string a.name, .int .i64 a.size, a.init] 42))
  unfold Sym.val Sym.cells
  clear hn
  by_cases h : a.name = n
  · have e := eqT_true h
    have HH : Hid (a.name = n) := h
    clear h
    go_enter Tryd.func46, Tryd.ntmps46
    go_upto_region 1 with (fail)
    generalize w.alloc (.cells #[.string a.name, .int .i64 a.size, a.init] 42) = W at *
    go_wp2
    go_ret
    exact ⟨ret_bool (by simp [nameIs, HH.out]), LL⟩
  · have e := eqT_false h
    have HH : Hid (¬ a.name = n) := h
    clear h
    go_enter Tryd.func46, Tryd.ntmps46
    go_upto_region 1 with (fail)
    generalize w.alloc (.cells #[.string a.name, .int .i64 a.size, a.init] 42) = W at *
    go_wp2
    go_ret
    exact ⟨ret_bool (by simp [nameIs, HH.out]), LL⟩

set_option maxRecDepth 1000000 in
set_option maxHeartbeats 1000000 in
theorem symIndex_any (u : Value) (S : Syms) (n : ByteArray) (B : Nat) (w : World) (hS : SymRow w u S) (hn : w.cell? ⟨B, 0, none⟩ = some (.string n)) :
    Calls Tryd.prog 56 #[u, .func (.func 46) #[] #[.pointer (some ⟨B, 0, none⟩)]] w fun e w' => e = .returned (.int .i64 (idxP (nameIs n) S 0)) ∧ Later w w' := by
  obtain ⟨p, cap, rfl, h1, h2⟩ := hS.slice
  unfold maxLen at h2
  have HT : Hid (SymRow w (.slice p S.length cap) S) := hS
  have HS : Hid (w.cell? ⟨B, 0, none⟩ = some (.string n)) := hn
  clear hS hn
  go_enter Tryd.func56, Tryd.ntmps56
  go_wp2
  go_loopw [8] (fun vi wr => ∃ (i : Nat), vi = .int .i64 (i : Nat) ∧ i ≤ S.length ∧ Later w wr ∧ idxP (nameIs n) (S.drop i) i = idxP (nameIs n) S 0) (fun vi _ => S.length - (intOf vi).toNat)
  case atStart => exact ⟨0, rfl, by omega, Later.refl _, rfl⟩
  case round =>
    obtain ⟨i, rfl, hi, hlw, hF⟩ := hrel
    by_cases h8 : i < S.length
    · obtain ⟨⟨x, L⟩, ht⟩ : ∃ t, S[i]? = some t := ⟨_, List.getElem?_eq_getElem h8⟩
      obtain ⟨g, o, rfl, hok, hti, hin, b0, b1, b2⟩ := (SymRow.kept HT.out hlw.kept).get ht
      have cF := checkSym1_any x L n B wr (cell_later HS.out hlw)
      unfold Sym.val Sym.cells at cF
      rw [idxP_drop _ S i (x, L) ht] at hF
      obtain ⟨q, dap, hlb, -⟩ := hin
      rw [hlb] at b2 cF
      clear ht hti hok HT HS hlb
      by_cases he : nameIs n (x, L) = true
      · rw [if_pos he] at hF
        rw [he] at cF
        have HE : Hid (idxP (nameIs n) S 0 = (i : Int)) := hF.symm
        clear hF he
        go_wp2_with (go_at_call 46; refine cF.mono ?_; rintro e w' ⟨rfl, hl⟩)
        go_ret
        exact ⟨by simp only [HE.out]; rfl, hlw.trans hl⟩
      · rw [if_neg he] at hF
        rw [Bool.eq_false_iff.2 he] at cF
        have HG : Hid (idxP (nameIs n) (S.drop (i + 1)) (i + 1) = idxP (nameIs n) S 0) := hF
        clear hF he
        go_wp2_with (go_at_call 46; refine cF.mono ?_; rintro e w' ⟨rfl, hl⟩)
        go_roundw
        case rel => exact ⟨i + 1, by go_num, by omega, hlw.trans hl, HG.out⟩
        case measure => simp [intOf]; omega
    · have HE : Hid (idxP (nameIs n) S 0 = -1) := by
        show _ = _
        rw [← hF, List.drop_of_length_le (by omega)]
        rfl
      clear hF
      go_wp2
      go_ret
      exact ⟨by simp only [HE.out]; rfl, hlw⟩

theorem symHas_any (u : Value) (S : Syms) (n : ByteArray) (B : Nat) (w : World) (hS : SymRow w u S) (hn : w.cell? ⟨B, 0, none⟩ = some (.string n)) :
    Calls Tryd.prog 45 #[u, .func (.func 46) #[] #[.pointer (some ⟨B, 0, none⟩)]] w fun e w' => e = .returned (.bool (S.any (nameIs n))) ∧ Later w w' := by
  have c := symIndex_any u S n B w hS hn
  have hm := idxP_any (nameIs n) S 0
  generalize idxP (nameIs n) S 0 = m at *
  have HM : Hid (0 ≤ m ↔ S.any (nameIs n) = true) := hm
  clear hm hS hn
  go_enter Tryd.func45, Tryd.ntmps45
  go_wp2_with (go_at_call 56; refine c.mono ?_; rintro e w' ⟨rfl, h⟩)
  go_ret
  exact ⟨ret_bool (by rw [Bool.eq_iff_iff, decide_eq_true_eq]; exact HM.out), h⟩

set_option maxRecDepth 1000000 in
set_option maxHeartbeats 1000000 in
theorem checkSym_any (s : Sym) (L : List Int) (u : Value) (S : Syms) (w : World) (hG : NamesGood w) (hS : SymRow w u S) (hs : s.name.size ≤ 1000) (hi : IntsIn w s.init L) :
    Calls Tryd.prog 29 #[s.val, u] w fun e w' => e = .returned (.int .i64 (symC S (s, L))) ∧ Later w w' := by
  obtain ⟨q, dap, hlb, -, h2⟩ := RowIn.slice hi
  have cR := fun w' h => nameRight_any s.name hs w' h
  have hO : symC S (s, L) = if rightF s.name = false then 3 else if S.any (nameIs s.name) = true then 6 else if s.size < 1 ∨ 64 < s.size ∨ s.size < L.length then 5 else 0 := rfl
  have LL := Later.alloc (Later.refl w) (.cells #[.string s.name, .int .i64 s.size, .slice q L.length dap] 42)
  obtain ⟨b0, b1, b2, -⟩ := box3_facts (at_new w (.cells #[.string s.name, .int .i64 s.size, .slice q L.length dap] 42))
  have cH := fun w' h h' => symHas_any u S s.name w.heap.size w' h h'
  have hS' := hS.kept LL.kept
  have hG' := hG.later LL
  have hmf : ∀ (fn : Fn) (first cap : Array Value) (w : World), (Instr.makeFunc fn first cap).run Tryd.prog w = .ok (.func fn first cap) w := fun _ _ _ _ => rfl
  unfold Sym.val Sym.cells
  rw [hlb]
  have hOC : Hid (symC S (s, L) = if rightF s.name = false then 3 else if S.any (nameIs s.name) = true then 6 else if s.size < 1 ∨ 64 < s.size ∨ s.size < L.length then 5 else 0) := hO
  generalize symC S (s, L) = oc at *
  generalize rightF s.name = ri at *
  generalize S.any (nameIs s.name) = an at *
  unfold maxLen at h2
  clear hS hG hs hi hlb hO
  go_enter Tryd.func29, Tryd.ntmps29
  go_upto_region 1 with (fail)
  generalize w.alloc (.cells #[.string s.name, .int .i64 s.size, .slice q L.length dap] 42) = W at *
  cases ri with
  | false =>
    have hO := hOC.out
    simp only [if_true] at hO
    subst hO
    go_wp2_with (go_at_call 44; refine (cR _ hG').mono ?_; rintro e w1 ⟨rfl, hl⟩)
    go_ret
    exact ⟨rfl, LL.trans hl⟩
  | true =>
    cases an with
    | true =>
      have hO := hOC.out
      simp at hO
      subst hO
      go_wp2_with (first
        | (go_at_call 44; refine (cR _ hG').mono ?_; rintro e w1 ⟨rfl, hl⟩; have d0 := cell_later b0 hl; have hS1 := SymRow.kept hS' hl.kept)
        | (go_at_call 45; refine (cH _ hS1 d0).mono ?_; rintro e w2 ⟨rfl, hl2⟩))
      go_ret
      exact ⟨rfl, LL.trans (hl.trans hl2)⟩
    | false =>
      have hO : Hid (oc = if s.size < 1 ∨ 64 < s.size ∨ s.size < L.length then 5 else 0) := by have h := hOC.out; simp at h; exact h
      go_wp2_with (first
        | (go_at_call 44; refine (cR _ hG').mono ?_; rintro e w1 ⟨rfl, hl⟩; have d0 := cell_later b0 hl; have d1 := cell_later b1 hl; have d2 := cell_later b2 hl; have hS1 := SymRow.kept hS' hl.kept)
        | (go_at_call 45; refine (cH _ hS1 d0).mono ?_; rintro e w2 ⟨rfl, hl2⟩; have f1 := cell_later d1 hl2; have f2 := cell_later d2 hl2))
      all_goals go_ret
      all_goals refine ⟨ret_int ?_, LL.trans (hl.trans hl2)⟩
      all_goals rw [hO.out]
      all_goals simp at *
      all_goals omega

end Go.Proofs.YtegogmbcjjjjjaaDoor

namespace Go.Proofs.YtegogmbcjjjjjaaDoor
open Go.RowKit
set_option linter.unusedVariables false
set_option linter.unusedSimpArgs false

theorem Later.upto {a w w' : World} {M : Nat} (h : Later a w) (hg : w.grownBy w' (some M)) (hM : a.heap.size ≤ M) : Later a w' :=
  Below.grown h hg h.size (fun k e => by cases e; exact hM)

set_option maxRecDepth 1000000 in
set_option maxHeartbeats 1000000 in
theorem checkLabels_any (u : Value) (L seen : List ByteArray) (M n : Nat) (w0 w : World) (hl0 : Later w0 w) (hM : w0.heap.size ≤ M) (hG : NamesGood w0) (hL : TextsIn w0 u L) (hb : ∀ t ∈ L, t.size ≤ 1000) (hs : SeenIn w M n seen) (hn : n + L.length ≤ 1000000) :
    Calls Tryd.prog 47 #[u, .map (some M)] w fun e w' => e = .returned (.int .i64 (labsC seen L)) ∧ w.grownBy w' (some M) ∧ Later w0 w' ∧ (labsC seen L = 0 → SeenIn w' M (n + L.length) (seen ++ L)) := by
  obtain ⟨p, cap, rfl, h1, h2, -, h4⟩ := hL
  unfold maxLen at h2
  have H4 : Hid (L ≠ [] → ∃ g o, p = some ⟨g, o, none⟩ ∧ ∀ i t, L[i]? = some t → w0.cell? ⟨g, o + i, none⟩ = some (.string t)) := h4
  have HB : Hid (∀ t ∈ L, t.size ≤ 1000) := hb
  have HG : Hid (NamesGood w0) := hG
  have HS : Hid (SeenIn w M n seen) := hs
  clear h4 hb hG hs
  go_enter Tryd.func47, Tryd.ntmps47
  go_wp2
  go_loopw [9] (fun vi wr => ∃ (i : Nat), vi = .int .i64 (i : Nat) ∧ i ≤ L.length ∧ Later w0 wr ∧ w.grownBy wr (some M) ∧ Hid (SeenIn wr M (n + i) (seen ++ L.take i)) ∧ labsC (seen ++ L.take i) (L.drop i) = labsC seen L) (fun vi _ => L.length - (intOf vi).toNat)
  case atStart => exact ⟨0, rfl, by omega, hl0, (Later.refl _).grown _, (by show SeenIn _ _ _ _; simpa using HS.out), by simp⟩
  case round =>
    obtain ⟨i, rfl, hi, hlw, hgr, hse, hF⟩ := hrel
    by_cases h8 : i < L.length
    · obtain ⟨t, ht⟩ : ∃ t, L[i]? = some t := ⟨_, List.getElem?_eq_getElem h8⟩
      obtain ⟨g, o, rfl, h5⟩ := H4.out (by rintro rfl; simp at h8)
      have hc := cell_later (h5 i t ht) hlw
      have hts := HB.out t (List.mem_of_getElem? ht)
      have HTS : Hid (t.size ≤ maxLen) := by show _ ≤ _; unfold maxLen; omega
      have cR := nameRight_any t hts wr (HG.out.later hlw)
      rw [labs_drop seen L i t ht] at hF
      have HX : Hid (L[i]? = some t) := ht
      clear ht h5 H4 HB HG hts
      have hlab : labC (seen ++ L.take i) t = if rightF t = false then 3 else if hasT t (seen ++ L.take i) = true then 6 else 0 := rfl
      rw [hlab] at hF
      clear hlab
      generalize rightF t = ri at *
      cases ri with
      | false =>
        have HE : Hid (labsC seen L = 3) := by show _ = _; rw [← hF]; simp
        clear hF
        go_wp2_with (go_at_call 44; refine cR.mono ?_; rintro e w1 ⟨rfl, hl⟩)
        go_ret
        exact ⟨by simp only [HE.out]; rfl, hgr.trans (hl.grown _), hlw.trans hl, fun h => by rw [HE.out] at h; cases h⟩
      | true =>
        cases hh : hasT t (seen ++ L.take i) with
        | true =>
          have HE : Hid (labsC seen L = 6) := by show _ = _; rw [← hF]; simp [hh]
          have HH : Hid (hasT t (seen ++ L.take i) = true) := hh
          clear hF hh
          go_wp2_with (go_at_call 44; refine cR.mono ?_; rintro e w1 ⟨rfl, hl⟩; have hlk := SeenIn.lookup (hse.out.later hl) t HTS.out; rw [HH.out] at hlk)
          go_ret
          exact ⟨by simp only [HE.out]; rfl, hgr.trans (hl.grown _), hlw.trans hl, fun h => by rw [HE.out] at h; cases h⟩
        | false =>
          have HE : Hid (labsC (seen ++ L.take (i + 1)) (L.drop (i + 1)) = labsC seen L) := by show _ = _; rw [← hF]; simp [hh]
          have HH : Hid (hasT t (seen ++ L.take i) = false) := hh
          have HN : Hid (n + i < maxLen) := by show _ < _; unfold maxLen; omega
          clear hF hh
          go_wp2_with (first
            | (go_at_call 44; refine cR.mono ?_; rintro e w1 ⟨rfl, hl⟩; have hs1 := hse.out.later hl; have hlk := SeenIn.lookup hs1 t HTS.out; rw [HH.out] at hlk; have HS1 : Hid (SeenIn w1 M (n + i) (seen ++ L.take i)) := hs1; clear hs1)
            | (at_mapUpdate; refine wpList_seen _ rfl _ _ _ rfl rfl rfl rfl HS1.out HN.out HTS.out ?_; intro w2 hs2 hg2; have HS2 : Hid (SeenIn w2 M (n + i + 1) (seen ++ L.take i ++ [t])) := hs2; clear hs2)
            | go_in)
          go_roundw
          case rel => exact ⟨i + 1, by go_num, by omega, Later.upto (hlw.trans hl) hg2 hM, (hgr.trans (hl.grown _)).trans hg2, by have := HS2.out; rw [List.append_assoc, ← take_next HX.out] at this; exact this, HE.out⟩
          case measure => simp [intOf]; omega
    · have HE : Hid (labsC seen L = 0) := by
        show _ = _
        rw [← hF, List.drop_of_length_le (by omega)]
        rfl
      have HI : Hid (i = L.length) := by show _ = _; omega
      clear hF
      go_wp2
      go_ret
      refine ⟨by simp only [HE.out]; rfl, hgr, hlw, fun _ => ?_⟩
      have := hse.out
      rw [HI.out, List.take_of_length_le (by omega)] at this
      exact this

set_option maxRecDepth 1000000 in
set_option maxHeartbeats 1000000 in
theorem checkJumps_any (u : Value) (T : Thr) (all : List ByteArray) (M n : Nat) (w : World) (hG : NamesGood w) (hT : InsRow w u T) (hd : ∀ x ∈ T, x.1.dest.size ≤ 1000) (hs : SeenIn w M n all) :
    Calls Tryd.prog 50 #[.agg #[u], .map (some M)] w fun e w' => e = .returned (.int .i64 (jumpsV all T)) ∧ Later w w' := by
  obtain ⟨p, cap, rfl, h1, h2⟩ := hT.slice
  unfold maxLen at h2
  have LL := Later.alloc (Later.refl w) (.cells #[.slice p T.length cap] 34)
  have HT : Hid (InsRow w (.slice p T.length cap) T) := hT
  have HD : Hid (∀ x ∈ T, x.1.dest.size ≤ 1000) := hd
  have HG : Hid (NamesGood w) := hG
  have HS : Hid (SeenIn w M n all) := hs
  have hB := (box1_facts (at_new w (.cells #[.slice p T.length cap] 34))).1
  clear hT hd hG hs
  go_enter Tryd.func50, Tryd.ntmps50
  go_upto_region 1 with (fail)
  generalize w.alloc (.cells #[.slice p T.length cap] 34) = W at *
  go_wp2
  go_loopw [12] (fun vi wr => ∃ (i : Nat), vi = .int .i64 (i : Nat) ∧ i ≤ T.length ∧ Later w wr ∧ jumpsV all (T.drop i) = jumpsV all T) (fun vi _ => T.length - (intOf vi).toNat)
  case atStart => exact ⟨0, rfl, by omega, LL, rfl⟩
  case round =>
    obtain ⟨i, rfl, hi, hlw, hF⟩ := hrel
    by_cases h8 : i < T.length
    · obtain ⟨⟨x, L⟩, ht⟩ : ∃ t, T[i]? = some t := ⟨_, List.getElem?_eq_getElem h8⟩
      obtain ⟨g, o, rfl, hok, hti, b0, b1, b2, b3, b4, b5, b6, b7, b8, b9, b10, b11, b12⟩ := (InsRow.kept HT.out hlw.kept).get ht
      obtain ⟨q, dap, hlb, -⟩ := hti
      have hds : x.dest.size ≤ 1000 := HD.out _ (List.mem_of_getElem? ht)
      have HDS : Hid (x.dest.size ≤ maxLen) := by show _ ≤ _; unfold maxLen; omega
      have cL := fun w' h => insLeads_any x hds w' h
      unfold Ins.val Ins.cells at cL
      rw [jumpsV_drop all T i x L ht] at hF
      have LB := Later.alloc hlw (.cells #[.int .i64 x.op, .bool x.lock, .int .i64 x.cond, .int .i64 x.a.kind, .int .i64 x.a.reg, .int .i64 x.a.sym, .int .i64 x.a.n, .int .i64 x.b.kind, .int .i64 x.b.reg, .int .i64 x.b.sym, .int .i64 x.b.n, .string x.dest, .slice q L.length dap] 39)
      have LC := Later.alloc (Later.refl wr) (.cells #[.int .i64 x.op, .bool x.lock, .int .i64 x.cond, .int .i64 x.a.kind, .int .i64 x.a.reg, .int .i64 x.a.sym, .int .i64 x.a.n, .int .i64 x.b.kind, .int .i64 x.b.reg, .int .i64 x.b.sym, .int .i64 x.b.n, .string x.dest, .slice q L.length dap] 39)
      have hse := HS.out.later LB
      have hgd := HG.out.later LB
      have HX := at_new wr (.cells #[.int .i64 x.op, .bool x.lock, .int .i64 x.cond, .int .i64 x.a.kind, .int .i64 x.a.reg, .int .i64 x.a.sym, .int .i64 x.a.n, .int .i64 x.b.kind, .int .i64 x.b.reg, .int .i64 x.b.sym, .int .i64 x.b.n, .string x.dest, .slice q L.length dap] 39)
      rw [hlb] at b12 cL
      clear ht hok HT HD HG HS hB LL hlb hds
      go_upto_region 4 with (fail)
      obtain ⟨d0, d1, d2, d3, d4, d5, d6, d7, d8, d9, d10, d11, d12⟩ := box13_facts HX
      generalize wr.alloc (.cells #[.int .i64 x.op, .bool x.lock, .int .i64 x.cond, .int .i64 x.a.kind, .int .i64 x.a.reg, .int .i64 x.a.sym, .int .i64 x.a.n, .int .i64 x.b.kind, .int .i64 x.b.reg, .int .i64 x.b.sym, .int .i64 x.b.n, .string x.dest, .slice q L.length dap] 39) = W1 at *
      clear b0 b1 b2 b3 b4 b5 b6 b7 b8 b9 b10 b11 b12 HX LC
      have HSE : Hid (SeenIn W1 M n all) := hse
      clear hse
      generalize leadsF x = ld at *
      obtain ⟨q1, q2⟩ := ld
      dsimp only at *
      cases q2 with
      | false =>
        have HE : Hid (jumpsV all (T.drop (i + 1)) = jumpsV all T) := by show _ = _; rw [← hF]; simp
        clear hF
        go_wp2_with (go_at_call 59; refine (cL _ hgd).mono ?_; rintro e w1 ⟨rfl, hl⟩)
        go_roundw
        case rel => exact ⟨i + 1, by go_num, by omega, LB.trans hl, HE.out⟩
        case measure => simp [intOf]; omega
      | true =>
        cases hh : hasT x.dest all with
        | true =>
          have HE : Hid (jumpsV all (T.drop (i + 1)) = jumpsV all T) := by show _ = _; rw [← hF]; simp [hh]
          have HH : Hid (hasT x.dest all = true) := hh
          clear hF hh
          go_wp2_with (go_at_call 59; refine (cL _ hgd).mono ?_; rintro e w1 ⟨rfl, hl⟩; have f11 := cell_later d11 hl; have hlk := SeenIn.lookup (HSE.out.later hl) x.dest HDS.out; rw [HH.out] at hlk)
          go_roundw
          case rel => exact ⟨i + 1, by go_num, by omega, LB.trans hl, HE.out⟩
          case measure => simp [intOf]; omega
        | false =>
          have HE : Hid (jumpsV all T = 7) := by show _ = _; rw [← hF]; simp [hh]
          have HH : Hid (hasT x.dest all = false) := hh
          clear hF hh
          go_wp2_with (go_at_call 59; refine (cL _ hgd).mono ?_; rintro e w1 ⟨rfl, hl⟩; have f11 := cell_later d11 hl; have hlk := SeenIn.lookup (HSE.out.later hl) x.dest HDS.out; rw [HH.out] at hlk)
          go_ret
          exact ⟨by simp only [HE.out]; rfl, LB.trans hl⟩
    · have HE : Hid (jumpsV all T = 0) := by
        show _ = _
        rw [← hF, List.drop_of_length_le (by omega)]
        rfl
      clear hF
      go_wp2
      go_ret
      exact ⟨by simp only [HE.out]; rfl, hlw⟩

end Go.Proofs.YtegogmbcjjjjjaaDoor

namespace Go.Proofs.YtegogmbcjjjjjaaDoor
open Go.RowKit
set_option linter.unusedVariables false
set_option linter.unusedSimpArgs false

theorem labels_le (T : Thr) (i : Nat) : (labelsOf (T.take i)).length ≤ (labelsOf T).length := by
  have h : labelsOf T = labelsOf (T.take i) ++ labelsOf (T.drop i) := by
    unfold labelsOf
    rw [← List.flatMap_append, List.take_append_drop]
  rw [h, List.length_append]
  omega

set_option maxRecDepth 1000000 in
set_option maxHeartbeats 4000000 in
theorem checkThread_any (u v : Value) (T : Thr) (S : Syms) (w : World) (hG : NamesGood w) (hT : InsRow w u T) (hS : SymRow w v S) (fT : FineT T) :
    Calls Tryd.prog 30 #[.agg #[u], v] w fun e w' => e = .returned (.int .i64 (threadC S T)) ∧ Later w w' := by
  obtain ⟨p, cap, rfl, h1, h2⟩ := hT.slice
  have hmm := @run_makeMap Tryd.prog
  have cN := fun w' h => count_any (.slice p T.length cap) T w' h
  have cE := fun w' h h' => ends_any (.slice p T.length cap) T w' h h' fT.dest
  have cJ := fun M n w' h h' h'' => checkJumps_any (.slice p T.length cap) T (labelsOf T) M n w' h h' fT.dest h''
  have LL := Later.alloc (Later.refl w) (.cells #[.slice p T.length cap] 34)
  have hB := (box1_facts (at_new w (.cells #[.slice p T.length cap] 34))).1
  have HT : Hid (InsRow w (.slice p T.length cap) T) := hT
  have HS : Hid (SymRow w v S) := hS
  have HG : Hid (NamesGood w) := hG
  have HF : Hid (FineT T) := fT
  have HC : Hid (threadC S T = if 4096 < countF T then 10 else if stepsC S [] T = 0 then (if endsF T = true then jumpsC (labelsOf T) T else 9) else stepsC S [] T) := rfl
  have HCL := count_le T
  unfold maxLen at h2
  clear hT hS hG fT
  go_enter Tryd.func30, Tryd.ntmps30
  go_upto_region 1 with (fail)
  generalize w.alloc (.cells #[.slice p T.length cap] 34) = W at *
  by_cases h4 : 4096 < countF T
  · have HE : Hid (threadC S T = 10) := by show _ = _; rw [HC.out, if_pos h4]
    generalize countF T = cn at *
    go_wp2_with (go_at_call 14; refine (cN _ (InsRow.kept HT.out LL.kept)).mono ?_; rintro e w1 ⟨rfl, hl⟩)
    go_ret
    exact ⟨by simp only [HE.out]; rfl, LL.trans hl⟩
  have HC' : Hid (threadC S T = if stepsC S [] T = 0 then (if endsF T = true then jumpsC (labelsOf T) T else 9) else stepsC S [] T) := by show _ = _; rw [HC.out, if_neg h4]
  clear HC
  generalize countF T = cn at *
  go_upto_region 3 with (go_at_call 14; refine (cN _ (InsRow.kept HT.out LL.kept)).mono ?_; rintro e W1 ⟨rfl, hl⟩)
  have LW : Later w W1 := LL.trans hl
  have hB1 := cell_later hB hl
  have HSE0 : Hid (SeenIn (W1.alloc (.map #[] 0)) W1.heap.size 0 []) := SeenIn.made W1
  have LM := Later.alloc (Later.refl W1) (.map #[] 0)
  clear hB hl LL cN
  go_upto_region 4 with (fail)
  generalize W1.alloc (.map #[] 0) = W2 at *
  have hB2 := cell_later hB1 LM
  go_wp2
  go_loopw [17] (fun vi wr => ∃ (i : Nat), vi = .int .i64 (i : Nat) ∧ i ≤ T.length ∧ Later W1 wr ∧ Hid (SeenIn wr W1.heap.size (labelsOf (T.take i)).length (labelsOf (T.take i))) ∧ stepsC S (labelsOf (T.take i)) (T.drop i) = stepsC S [] T) (fun vi _ => T.length - (intOf vi).toNat)
  case atStart => exact ⟨0, rfl, by omega, LM, HSE0.out, rfl⟩
  case round =>
    obtain ⟨i, rfl, hi, hlw, hse, hF⟩ := hrel
    clear hB2 HSE0 LM
    by_cases h8 : i < T.length
    · obtain ⟨⟨x, L⟩, ht⟩ : ∃ t, T[i]? = some t := ⟨_, List.getElem?_eq_getElem h8⟩
      have hmem := List.mem_of_getElem? ht
      obtain ⟨g, o, rfl, hok, hti, b0, b1, b2, b3, b4, b5, b6, b7, b8, b9, b10, b11, b12⟩ := (InsRow.kept HT.out (LW.trans hlw).kept).get ht
      obtain ⟨-, -, -, -, hti1, -⟩ := (InsRow.kept HT.out LW.kept).get ht
      obtain ⟨q, dap, hlb, -⟩ := hti
      have hds : x.dest.size ≤ 1000 := HF.out.dest _ hmem
      rw [steps_drop S T i x L ht] at hF
      have hnl := labels_next ht
      have hfew : (labelsOf (T.take i)).length + L.length ≤ 1000000 := by
        have := HF.out.few
        have h' := labels_le T (i + 1)
        rw [hnl, List.length_append] at h'
        omega
      have LB := Later.alloc hlw (.cells #[.int .i64 x.op, .bool x.lock, .int .i64 x.cond, .int .i64 x.a.kind, .int .i64 x.a.reg, .int .i64 x.a.sym, .int .i64 x.a.n, .int .i64 x.b.kind, .int .i64 x.b.reg, .int .i64 x.b.sym, .int .i64 x.b.n, .string x.dest, .slice q L.length dap] 39)
      have LC := Later.alloc (Later.refl wr) (.cells #[.int .i64 x.op, .bool x.lock, .int .i64 x.cond, .int .i64 x.a.kind, .int .i64 x.a.reg, .int .i64 x.a.sym, .int .i64 x.a.n, .int .i64 x.b.kind, .int .i64 x.b.reg, .int .i64 x.b.sym, .int .i64 x.b.n, .string x.dest, .slice q L.length dap] 39)
      have HX := at_new wr (.cells #[.int .i64 x.op, .bool x.lock, .int .i64 x.cond, .int .i64 x.a.kind, .int .i64 x.a.reg, .int .i64 x.a.sym, .int .i64 x.a.n, .int .i64 x.b.kind, .int .i64 x.b.reg, .int .i64 x.b.sym, .int .i64 x.b.n, .string x.dest, .slice q L.length dap] 39)
      have hne : wr.heap.size ≠ W1.heap.size := by have := hse.out.lt; omega
      have hse2 := hse.out.later LC
      rw [hlb] at b12 hti1
      have cLb := fun w' h h' => checkLabels_any (.slice q L.length dap) L (labelsOf (T.take i)) W1.heap.size _ W1 w' h (Nat.le_refl _) (HG.out.later LW) hti1 (HF.out.labels _ hmem) h' hfew
      have cI := fun w' h h' => checkIns_any x v S w' h h' hds ⟨q, L.length, dap, hlb⟩
      unfold Ins.val Ins.cells at cI
      rw [hlb] at cI
      have HNL : Hid (labelsOf (T.take (i + 1)) = labelsOf (T.take i) ++ L) := hnl
      have hst : stepC S (labelsOf (T.take i)) (x, L) = if labsC (labelsOf (T.take i)) L = 0 then opsC S x else labsC (labelsOf (T.take i)) L := rfl
      rw [hst] at hF
      clear ht hok HT hlb hds hnl hst hmem HF hti1 hfew
      go_upto_region 7 with (fail)
      obtain ⟨d0, d1, d2, d3, d4, d5, d6, d7, d8, d9, d10, d11, d12⟩ := box13_facts HX
      have hltX : wr.heap.size < (wr.alloc (.cells #[.int .i64 x.op, .bool x.lock, .int .i64 x.cond, .int .i64 x.a.kind, .int .i64 x.a.reg, .int .i64 x.a.sym, .int .i64 x.a.n, .int .i64 x.b.kind, .int .i64 x.b.reg, .int .i64 x.b.sym, .int .i64 x.b.n, .string x.dest, .slice q L.length dap] 39)).heap.size := by simp
      generalize wr.alloc (.cells #[.int .i64 x.op, .bool x.lock, .int .i64 x.cond, .int .i64 x.a.kind, .int .i64 x.a.reg, .int .i64 x.a.sym, .int .i64 x.a.n, .int .i64 x.b.kind, .int .i64 x.b.reg, .int .i64 x.b.sym, .int .i64 x.b.n, .string x.dest, .slice q L.length dap] 39) = X at *
      clear b0 b1 b2 b3 b4 b5 b6 b7 b8 b9 b10 b11 b12 LC
      have HXX : Hid (X.heap[wr.heap.size]? = some (.cells #[.int .i64 x.op, .bool x.lock, .int .i64 x.cond, .int .i64 x.a.kind, .int .i64 x.a.reg, .int .i64 x.a.sym, .int .i64 x.a.n, .int .i64 x.b.kind, .int .i64 x.b.reg, .int .i64 x.b.sym, .int .i64 x.b.n, .string x.dest, .slice q L.length dap] 39)) := HX
      have HNE : Hid (wr.heap.size ≠ W1.heap.size) := hne
      have HLT : Hid (wr.heap.size < X.heap.size) := hltX
      have HSE : Hid (SeenIn X W1.heap.size (labelsOf (T.take i)).length (labelsOf (T.take i))) := hse2
      clear HX hne hltX hse2 hse
      by_cases hlc : labsC (labelsOf (T.take i)) L = 0
      · rw [if_pos hlc] at hF
        have HLC : Hid (labsC (labelsOf (T.take i)) L = 0) := hlc
        rw [hlc] at cLb
        clear hlc
        by_cases hoc : opsC S x = 0
        · rw [if_pos hoc] at hF
          rw [hoc] at cI
          have HF' : Hid (stepsC S (labelsOf (T.take (i + 1))) (T.drop (i + 1)) = stepsC S [] T) := hF
          clear hF hoc
          go_wp2_with (first
            | (go_at_call 47; refine (cLb _ LB HSE.out).mono ?_; rintro e w2 ⟨rfl, hg2, hl2, hs2⟩; have HS2 : Hid (SeenIn w2 W1.heap.size ((labelsOf (T.take i)).length + L.length) (labelsOf (T.take i) ++ L)) := (hs2 rfl); clear hs2; obtain ⟨f0, f1, f2, f3, f4, f5, f6, f7, f8, f9, f10, f11, f12⟩ := box13_facts ((hg2.block _ HLT.out (fun h => HNE.out (Option.some.inj h))).trans HXX.out))
            | (go_at_call 48; refine (cI _ (HG.out.later (LW.trans hl2)) (SymRow.kept HS.out (LW.trans hl2).kept)).mono ?_; rintro e w3 ⟨rfl, hl3⟩))
          go_roundw
          case rel => exact ⟨i + 1, by go_num, by omega, hl2.trans hl3, (by show SeenIn _ _ _ _; rw [HNL.out, List.length_append]; exact HS2.out.later hl3), HF'.out⟩
          case measure => simp [intOf]; omega
        · rw [if_neg hoc] at hF
          have HE : Hid (threadC S T = opsC S x) := by show _ = _; rw [HC'.out, ← hF, if_neg hoc]
          have hnz : (opsC S x != 0) = true := by simpa using hoc
          clear hF hoc HC'
          generalize opsC S x = oc at *
          go_wp2_with (first
            | (go_at_call 47; refine (cLb _ LB HSE.out).mono ?_; rintro e w2 ⟨rfl, hg2, hl2, hs2⟩; clear hs2; obtain ⟨f0, f1, f2, f3, f4, f5, f6, f7, f8, f9, f10, f11, f12⟩ := box13_facts ((hg2.block _ HLT.out (fun h => HNE.out (Option.some.inj h))).trans HXX.out))
            | (go_at_call 48; refine (cI _ (HG.out.later (LW.trans hl2)) (SymRow.kept HS.out (LW.trans hl2).kept)).mono ?_; rintro e w3 ⟨rfl, hl3⟩))
          go_ret
          exact ⟨by simp only [HE.out]; rfl, LW.trans (hl2.trans hl3)⟩
      · rw [if_neg hlc, if_neg hlc] at hF
        have HE : Hid (threadC S T = labsC (labelsOf (T.take i)) L) := by show _ = _; rw [HC'.out, ← hF, if_neg hlc]
        have hnz : (labsC (labelsOf (T.take i)) L != 0) = true := by simpa using hlc
        clear hF hlc HC'
        generalize labsC (labelsOf (T.take i)) L = lc at *
        go_wp2_with (go_at_call 47; refine (cLb _ LB HSE.out).mono ?_; rintro e w2 ⟨rfl, hg2, hl2, hs2⟩; clear hs2)
        go_ret
        exact ⟨by simp only [HE.out]; rfl, LW.trans hl2⟩
    · have hst : stepsC S [] T = 0 := by
        rw [← hF, List.drop_of_length_le (by omega)]
        rfl
      have hri := steps_right T [] hst
      have HE : Hid (threadC S T = if endsV T = true then jumpsV (labelsOf T) T else 9) := by show _ = _; rw [HC'.out, if_pos hst, ends_same hri, jumps_same hri]
      rw [List.take_of_length_le (by omega)] at hse
      have hBr := cell_later hB1 hlw
      have LR := LW.trans hlw
      clear hF hst hri HC' hB1
      cases hev : endsV T with
      | false =>
        rw [hev] at cE
        have HE' : Hid (threadC S T = 9) := by show _ = _; rw [HE.out, hev]; rfl
        clear hev HE
        go_wp2_with (go_at_call 49; refine (cE _ (HG.out.later LR) (InsRow.kept HT.out LR.kept)).mono ?_; rintro e w2 ⟨rfl, hl2⟩)
        go_ret
        exact ⟨by simp only [HE'.out]; rfl, LR.trans hl2⟩
      | true =>
        rw [hev] at cE
        have HE' : Hid (threadC S T = jumpsV (labelsOf T) T) := by show _ = _; rw [HE.out, hev]; rfl
        clear hev HE
        generalize jumpsV (labelsOf T) T = jc at *
        go_wp2_with (first
          | (go_at_call 49; refine (cE _ (HG.out.later LR) (InsRow.kept HT.out LR.kept)).mono ?_; rintro e w2 ⟨rfl, hl2⟩; have hB3 := cell_later hBr hl2)
          | (go_at_call 50; refine (cJ _ _ _ (HG.out.later (LR.trans hl2)) (InsRow.kept HT.out (LR.trans hl2).kept) (hse.out.later hl2)).mono ?_; rintro e w3 ⟨rfl, hl3⟩))
        go_ret
        exact ⟨by simp only [HE'.out]; rfl, LR.trans (hl2.trans hl3)⟩

end Go.Proofs.YtegogmbcjjjjjaaDoor

namespace Go.Proofs.YtegogmbcjjjjjaaDoor
open Go.RowKit
set_option linter.unusedVariables false
set_option linter.unusedSimpArgs false

/-- Texts of a size that is gone through. -/
structure FineP (S : Syms) (P : List Thr) : Prop where
  syms : FineS S
  threads : ∀ T ∈ P, FineT T

set_option maxRecDepth 1000000 in
set_option maxHeartbeats 4000000 in
theorem check_any (u v : Value) (S : Syms) (P : List Thr) (w : World) (hG : NamesGood w) (hS : SymRow w u S) (hP : ThrRow w v P) (f : FineP S P) :
    Calls Tryd.prog 12 #[.agg #[u, v]] w fun e w' => e = .returned (.int .i64 (checkC S P)) ∧ Later w w' := by
  obtain ⟨p, cap, rfl, h1, h2⟩ := hS.slice
  obtain ⟨p', cap', rfl, h1', h2'⟩ := hP.slice
  have LL := Later.alloc (Later.refl w) (.cells #[.slice p S.length cap, .slice p' P.length cap'] 25)
  obtain ⟨hB0, hB1, -⟩ := box2_facts (at_new w (.cells #[.slice p S.length cap, .slice p' P.length cap'] 25))
  have HS : Hid (SymRow w (.slice p S.length cap) S) := hS
  have HP : Hid (ThrRow w (.slice p' P.length cap') P) := hP
  have HG : Hid (NamesGood w) := hG
  have HF : Hid (FineP S P) := f
  have HC : Hid (checkC S P = if 64 < S.length ∨ 64 < P.length then 10 else if symsC [] S = 0 then threadsC S P else symsC [] S) := rfl
  unfold maxLen at h2 h2'
  clear hS hP hG f
  go_enter Tryd.func12, Tryd.ntmps12
  go_upto_region 1 with (fail)
  generalize w.alloc (.cells #[.slice p S.length cap, .slice p' P.length cap'] 25) = W at *
  by_cases h64 : 64 < S.length
  · have HE : Hid (checkC S P = 10) := by show _ = _; rw [HC.out, if_pos (Or.inl h64)]
    go_wp2
    go_ret
    exact ⟨by simp only [HE.out]; rfl, LL⟩
  by_cases h65 : 64 < P.length
  · have HE : Hid (checkC S P = 10) := by show _ = _; rw [HC.out, if_pos (Or.inr h65)]
    go_wp2
    go_ret
    exact ⟨by simp only [HE.out]; rfl, LL⟩
  have HC' : Hid (checkC S P = if symsC [] S = 0 then threadsC S P else symsC [] S) := by show _ = _; rw [HC.out, if_neg (by omega)]
  clear HC
  go_wp2
  go_loopw [22] (fun vi wr => ∃ (i : Nat), vi = .int .i64 (i : Nat) ∧ i ≤ S.length ∧ Later W wr ∧ symsC (S.take i) (S.drop i) = symsC [] S) (fun vi _ => S.length - (intOf vi).toNat)
  case atStart => exact ⟨0, rfl, by omega, Later.refl _, rfl⟩
  case round =>
    obtain ⟨i, rfl, hi, hlw, hF⟩ := hrel
    by_cases h8 : i < S.length
    · obtain ⟨⟨s, L⟩, ht⟩ : ∃ t, S[i]? = some t := ⟨_, List.getElem?_eq_getElem h8⟩
      have hmem := List.mem_of_getElem? ht
      have hns : s.name.size ≤ 1000 := HF.out.syms _ hmem
      obtain ⟨g, o, rfl, -, -, hin, b0, b1, b2⟩ := (SymRow.kept HS.out (LL.trans hlw).kept).get ht
      have hin0 := hin
      obtain ⟨q, dap, hlb, -⟩ := hin
      have LB := Later.alloc hlw (.cells #[.string s.name, .int .i64 s.size, .slice q L.length dap] 42)
      have LC := Later.alloc (Later.refl wr) (.cells #[.string s.name, .int .i64 s.size, .slice q L.length dap] 42)
      have HX := at_new wr (.cells #[.string s.name, .int .i64 s.size, .slice q L.length dap] 42)
      have hrow := fun w' (h : Later w w') => RowIn.take (SymRow.kept HS.out h.kept) i (by omega)
      have cS := fun w' h h' h'' => checkSym_any s L (.slice (some ⟨g, o, none⟩) i cap) (S.take i) w' h h' hns h''
      unfold Sym.val Sym.cells at cS
      rw [syms_drop S i (s, L) ht] at hF
      have HIN : Hid (IntsIn wr (.slice q L.length dap) L) := by show IntsIn _ _ _; rw [← hlb]; exact hin0
      rw [hlb] at b2 cS
      clear ht hmem hns hin0 hlb HF
      go_upto_region 6 with (fail)
      obtain ⟨d0, d1, d2, -⟩ := box3_facts HX
      have e0 := cell_later hB0 LB
      generalize wr.alloc (.cells #[.string s.name, .int .i64 s.size, .slice q L.length dap] 42) = X at *
      have m0 := fun p : After X => cell_after d0 p
      have m1 := fun p : After X => cell_after d1 p
      have m2 := fun p : After X => cell_after d2 p
      have me := fun p : After X => cell_after e0 p
      have ne : Nonempty (After X) := ⟨⟨X, Later.refl X⟩⟩
      have gg : ∀ p : After X, NamesGood p.world := fun p => HG.out.later (LL.trans (LB.trans p.later))
      have rr : ∀ p : After X, SymRow p.world (.slice (some ⟨g, o, none⟩) i cap) (S.take i) := fun p => hrow _ (LL.trans (LB.trans p.later))
      have ii : ∀ p : After X, IntsIn p.world (.slice q L.length dap) L := fun p => IntsIn.kept HIN.out (LC.trans p.later).kept
      have LX : Later W X := LB
      clear b0 b1 b2 d0 d1 d2 e0 HX hrow LB LC
      have hile : i ≤ cap := by omega
      refine wp_region_later (by kernel_rfl) (by kernel_rfl) ?_
      repeat (first | go_big_quiet_step (((go_at_call 29; with_reducible (exact Calls.after_of (cS _ (gg _) (rr _) (ii _)))))) | quiet_step (((go_at_call 29; with_reducible (exact Calls.after_of (cS _ (gg _) (rr _) (ii _)))))))
      refine wpQuiet_nil ?_
      intro _ hw'
      obtain ⟨z, hw''⟩ := hw'
      subst hw''
      have LZ := LX.trans z.later
      clear m0 m1 m2 me ne gg rr ii
      by_cases hc : symC (S.take i) (s, L) = 0
      · rw [if_pos hc] at hF
        have HF' : Hid (symsC (S.take (i + 1)) (S.drop (i + 1)) = symsC [] S) := hF
        rw [hc]
        clear hF hc
        go_wp2
        go_roundw
        case rel => exact ⟨i + 1, by go_num, by omega, LZ, HF'.out⟩
        case measure => simp [intOf]; omega
      · rw [if_neg hc] at hF
        have HE : Hid (checkC S P = symC (S.take i) (s, L)) := by show _ = _; rw [HC'.out, ← hF, if_neg hc]
        have hnz : (symC (S.take i) (s, L) != 0) = true := by simpa using hc
        clear hF hc HC'
        generalize symC (S.take i) (s, L) = sc at *
        go_wp2
        go_ret
        exact ⟨by simp only [HE.out]; rfl, LL.trans LZ⟩
    · have hst : symsC [] S = 0 := by
        rw [← hF, List.drop_of_length_le (by omega)]
        rfl
      have HE : Hid (checkC S P = threadsC S P) := by show _ = _; rw [HC'.out, if_pos hst]
      have hB1' := cell_later hB1 hlw
      have hB0' := cell_later hB0 hlw
      have LR := LL.trans hlw
      clear hF hst HC' hB0 hB1
      go_wp2
      obtain ⟨w5, rfl⟩ : ∃ w5, w5 = wr := ⟨_, rfl⟩
      go_loopw [40] (fun vi wx => ∃ (i : Nat), vi = .int .i64 (i : Nat) ∧ i ≤ P.length ∧ Later w5 wx ∧ threadsC S (P.drop i) = threadsC S P) (fun vi _ => P.length - (intOf vi).toNat)
      case atStart => exact ⟨0, rfl, by omega, Later.refl _, rfl⟩
      case round =>
        obtain ⟨k, rfl, hk, hlx, hF⟩ := hrel
        have hB0x := cell_later hB0' hlx
        by_cases h9 : k < P.length
        · obtain ⟨T, ht⟩ : ∃ t, P[k]? = some t := ⟨_, List.getElem?_eq_getElem h9⟩
          have fT := HF.out.threads _ (List.mem_of_getElem? ht)
          obtain ⟨g, o, tv, rfl, hrT, b0⟩ := (ThrRow.kept HP.out (LR.trans hlx).kept).get ht
          obtain ⟨tp, tcap, rfl, -, -⟩ := hrT.slice
          have HR : Hid (InsRow wr (.slice tp T.length tcap) T) := hrT
          have cT := fun w' h h' h'' => checkThread_any (.slice tp T.length tcap) (.slice p S.length cap) T S w' h h' h'' fT
          have LB := Later.alloc (Later.refl wr) (.cells #[.slice tp T.length tcap] 34)
          have hB0y := cell_later hB0x LB
          rw [threads_drop S P k T ht] at hF
          clear ht fT hrT HF
          by_cases hc : threadC S T = 0
          · rw [if_pos hc] at hF
            have HF' : Hid (threadsC S (P.drop (k + 1)) = threadsC S P) := hF
            rw [hc] at cT
            clear hF hc
            go_wp2_with (go_at_call 30; refine (cT _ (HG.out.later (LR.trans (hlx.trans LB))) (InsRow.kept HR.out LB.kept) (SymRow.kept HS.out (LR.trans (hlx.trans LB)).kept)).mono ?_; rintro e w2 ⟨rfl, hl2⟩)
            go_roundw
            case rel => exact ⟨k + 1, by go_num, by omega, hlx.trans (LB.trans hl2), HF'.out⟩
            case measure => simp [intOf]; omega
          · rw [if_neg hc] at hF
            have HE' : Hid (checkC S P = threadC S T) := by show _ = _; rw [HE.out, ← hF]
            have hnz : (threadC S T != 0) = true := by simpa using hc
            clear hF hc
            generalize threadC S T = tc at *
            go_wp2_with (go_at_call 30; refine (cT _ (HG.out.later (LR.trans (hlx.trans LB))) (InsRow.kept HR.out LB.kept) (SymRow.kept HS.out (LR.trans (hlx.trans LB)).kept)).mono ?_; rintro e w2 ⟨rfl, hl2⟩)
            go_ret
            exact ⟨by simp only [HE'.out]; rfl, LR.trans (hlx.trans (LB.trans hl2))⟩
        · have HE' : Hid (checkC S P = 0) := by
            show _ = _
            rw [HE.out, ← hF, List.drop_of_length_le (by omega)]
            rfl
          clear hF
          go_wp2
          go_ret
          exact ⟨by simp only [HE'.out]; rfl, LR.trans hlx⟩

end Go.Proofs.YtegogmbcjjjjjaaDoor
