/-
  What the cells begin with: Start of package cells, and the document's own. New blocks at the most. Conditions: the program lies in memory, its texts are short, the words' tables are as listed.
-/
import Derived.Test.YtgkdejldpldkiaaDoorCellsRefAddr
import Derived.Test.YtgkdejldpldkiaaDoorJl
import Derived.Test.YtgkdejldpldkiaaDoorManyPlain
import Derived.Laws.CopyOwn
import Derived.Deep.OwnRows
namespace Go.Proofs.YtgkdejldpldkiaaDoor
open Go.RowKit
set_option linter.unusedVariables false
set_option linter.unusedSimpArgs false

theorem infoInt64 : (Tryd.prog.info? 2).map (fun i => (i.zero, i.size, i.bytes)) = some (some (.int .i64 0), 1, 8) := by kernel_rfl

theorem sizeInt64 : (Tryd.prog.info? 2).map (·.size) = some 1 := by kernel_rfl

/-- Numbers, as cells. -/
def intsV (l : List Int) : List Value := l.map (Value.int .i64)
def intC (a : Int) : List Value := [.int .i64 a]
theorem intC_len (a : Int) : (intC a).length = 1 := rfl
theorem flat_ints (l : List Int) : flatC intC l = intsV l := by
  induction l with
  | nil => rfl
  | cons a l ih =>
    have : flatC intC (a :: l) = intC a ++ flatC intC l := rfl
    rw [this, ih]; rfl
theorem intsV_length (l : List Int) : (intsV l).length = l.length := List.length_map ..
theorem intsV_append (a b : List Int) : intsV (a ++ b) = intsV a ++ intsV b := List.map_append ..

theorem ints_i64 {w : World} {v : Value} {L : List Int} (h : IntsIn w v L) : ∀ a ∈ L, I64 a := by
  intro a ha
  obtain ⟨p, cap, rfl, -, -, h4⟩ := h
  obtain ⟨g, o, rfl, h5⟩ := h4 (List.ne_nil_of_mem ha)
  obtain ⟨i, hi, rfl⟩ := List.getElem_of_mem ha
  obtain ⟨cs, ⟨-, h6⟩, -⟩ := h5 i _ (List.getElem?_eq_getElem hi)
  exact h6

theorem syms_ints {w : World} {v : Value} {S : Syms} (h : SymRow w v S) : ∀ s ∈ S, IntsIn w s.1.init s.2 := by
  intro s hs
  obtain ⟨p, cap, rfl, -, -, h4⟩ := h
  obtain ⟨g, o, rfl, h5⟩ := h4 (List.ne_nil_of_mem hs)
  obtain ⟨i, hi, rfl⟩ := List.getElem_of_mem hs
  obtain ⟨cs, ⟨-, -, -, h6⟩, -⟩ := h5 i _ (List.getElem?_eq_getElem hi)
  exact h6

theorem start_i64 {w : World} {v : Value} {S : Syms} (h : SymRow w v S) : ∀ a ∈ startF S, I64 a := by
  intro a ha
  obtain ⟨s, hs, ha⟩ := List.mem_flatMap.1 ha
  rcases List.mem_append.1 ha with ha | ha
  · exact ints_i64 (syms_ints h s hs) a ha
  · rw [List.eq_of_mem_replicate ha]
    unfold I64; omega

/-- What the cells of a symbol begin with, one more. -/
theorem one_next {s : Sym × List Int} (h : (s.2.length : Int) ≤ s.1.size) {k : Nat} (hk : (k : Int) < s.1.size) : (cellsOne s).take (k + 1) = (cellsOne s).take k ++ [if k < s.2.length then s.2[k]?.getD 0 else 0] := by
  rw [List.take_add_one]
  congr 1
  unfold cellsOne
  by_cases h1 : k < s.2.length
  · rw [List.getElem?_append_left h1, if_pos h1, List.getElem?_eq_getElem h1]
    rfl
  · rw [List.getElem?_append_right (by omega), if_neg h1, List.getElem?_replicate, if_pos (by omega)]
    rfl

theorem one_all {s : Sym × List Int} (h : (s.2.length : Int) ≤ s.1.size) {k : Nat} (hk : s.1.size ≤ k) : (cellsOne s).take k = cellsOne s := by
  have := one_length h
  exact List.take_of_length_le (by omega)

/-- A row of numbers that the call has made, for its readers. -/
theorem ints_of_owns {w : World} {base : Nat} {e : TypeId} {v : Value} {n : Nat} {L : List Int} (hn : L.length = n) (h : w.ownsRow base e 1 v n (intsV L)) (hL : ∀ a ∈ L, I64 a) : IntsIn w v L := by
  rw [← flat_ints] at h
  exact RowIn.of_owns intC_len (by omega) hn h (fun a ha => ⟨rfl, hL a ha⟩)

/-- Numbers that fill a block, for their readers. -/
theorem ints_of_block {w : World} {g : Nat} {t : TypeId} {L : List Int} {n : Nat} (hn : L.length = n) (h : w.heap[g]? = some (.cells (intsV L).toArray t (0, 0))) (hL : ∀ a ∈ L, I64 a) (hm : n ≤ maxLen) : IntsIn w (.slice (some ⟨g, 0, none⟩) n n) L := by
  subst hn
  refine ⟨some ⟨g, 0, none⟩, L.length, rfl, Nat.le_refl _, hm, fun _ => ⟨g, 0, rfl, fun i a hi => ⟨[.int .i64 a], ⟨rfl, hL a (List.mem_of_getElem? hi)⟩, fun j c hj => ?_⟩⟩⟩
  have hj0 : j = 0 := by
    rcases Nat.eq_zero_or_pos j with h' | h'
    · exact h'
    · rw [List.getElem?_eq_none (by simp; omega)] at hj; cases hj
  subst hj0
  simp at hj
  subst hj
  simp [World.cell?, h, intsV, hi]

theorem made_cells (n : Nat) : (madeCells #[.int .i64 0] n : Array Value) = (intsV (List.replicate n 0)).toArray := by
  apply Array.toList_inj.1
  apply List.ext_getElem?
  intro i
  rw [Array.getElem?_toList]
  by_cases hi : i < n
  · simp [madeCells, hi, intsV, Nat.mod_one]
  · simp [madeCells, hi, intsV]

set_option maxRecDepth 1000000 in
set_option maxHeartbeats 2000000 in
theorem refStart0_any (u v : Value) (S : Syms) (P : List Thr) (w : World) (hS : SymRow w u S) (hP : ThrRow w v P) (hz : Sized S) :
    Calls Tryd.prog 90 #[.agg #[u, v]] w fun e w' => ∃ x, e = .returned x ∧ Later w w' ∧ IntsIn w' x (startF S) := by
  obtain ⟨j0, hj0, hy0, hy1, hy2⟩ := info_parts infoInt64
  have HI : Hid (∀ a ∈ startF S, I64 a) := start_i64 hS
  obtain ⟨p, cap, rfl, h1, h2⟩ := hS.slice
  obtain ⟨p', cap', rfl, h1', h2'⟩ := hP.slice
  unfold maxLen at h2
  have LL := Later.alloc (Later.refl w) (.cells #[.slice p S.length cap, .slice p' P.length cap'] 27)
  obtain ⟨hB0, hB1, -⟩ := box2_facts (at_new w (.cells #[.slice p S.length cap, .slice p' P.length cap'] 27))
  have HS : Hid (SymRow w (.slice p S.length cap) S) := hS
  have HZ : Hid (Sized S) := hz
  have hfew := hz.few
  have HO : Hid ((w.alloc (.cells #[.slice p S.length cap, .slice p' P.length cap'] 27)).ownsRow (w.alloc (.cells #[.slice p S.length cap, .slice p' P.length cap'] 27)).heap.size 2 1 (.slice none 0 0) 0 (intsV [])) := World.ownsRow_nil _ _ _ _
  clear hS hz hP
  generalize hW : w.alloc (.cells #[.slice p S.length cap, .slice p' P.length cap'] 27) = W at *
  go_enter Tryd.func90, Tryd.ntmps90
  go_upto_region 1 with (fail)
  clear hW
  go_wp2
  go_loopw [3, 4] (fun vo vi wr => ∃ (i n : Nat), vi = .int .i64 (i : Nat) ∧ i ≤ S.length ∧ Later W wr ∧ n ≤ 64 * i ∧ Hid (wr.ownsRow W.heap.size 2 1 vo n (intsV (startF (S.take i)))) ∧ Hid ((startF (S.take i)).length = n)) (fun _ vi _ => S.length - (intOf vi).toNat)
  case atStart => exact ⟨0, 0, rfl, by omega, Later.refl _, by omega, HO, rfl⟩
  case round =>
    obtain ⟨i, n, rfl, hi, hlw, hn, hO, hL⟩ := hrel
    rename_i vo _ _
    clear HO
    have c0 := cell_later hB0 hlw
    obtain ⟨op, ocap, rfl⟩ := owns_slice hO.out
    by_cases h8 : i < S.length
    · obtain ⟨⟨x, L⟩, ht⟩ : ∃ t, S[i]? = some t := ⟨_, List.getElem?_eq_getElem h8⟩
      obtain ⟨g, o, rfl, -, -, hin, x0, x1, x2⟩ := SymRow.get HS.out ht
      obtain ⟨hb0, hb1, hb2⟩ := HZ.out.get ht
      obtain ⟨q, dap, hlb, hq1, hq2⟩ := hin.slice
      dsimp only at hb0 hb1 hb2
      have hIN : Hid (IntsIn w (.slice q L.length dap) L) := by rw [hlb] at hin; exact hin
      rw [hlb] at x2
      clear hlb hin HS HZ
      unfold maxLen at hq2
      have HT : Hid (startF (S.take (i + 1)) = startF (S.take i) ++ cellsOne (x, L)) := start_next ht
      have HN : Hid (∀ k : Nat, (k : Int) < x.size → (cellsOne (x, L)).take (k + 1) = (cellsOne (x, L)).take k ++ [if k < L.length then L[k]?.getD 0 else 0]) := fun k hk => one_next (s := (x, L)) hb2 hk
      have HE : Hid (∀ k : Nat, x.size ≤ k → (cellsOne (x, L)).take k = cellsOne (x, L)) := fun k hk => one_all (s := (x, L)) hb2 hk
      have HO0 : Hid (wr.ownsRow W.heap.size 2 1 (.slice op n ocap) n (intsV (startF (S.take i) ++ (cellsOne (x, L)).take 0))) := by
        show World.ownsRow _ _ _ _ _ _ _
        rw [List.take_zero, List.append_nil]; exact hO.out
      have HL0 : Hid ((startF (S.take i) ++ (cellsOne (x, L)).take 0).length = n) := by
        show _ = _
        rw [List.take_zero, List.append_nil]; exact hL.out
      clear ht hO hL
      generalize startF (S.take i) = D at *
      generalize cellsOne (x, L) = C at *
      have e1 := cell_later x1 (LL.trans hlw)
      have e2 := cell_later x2 (LL.trans hlw)
      clear x0
      obtain ⟨w7, rfl⟩ : ∃ w7, w7 = wr := ⟨_, rfl⟩
      go_wp2
      go_loopw [3, 5] (fun vo vk wr => ∃ (k n : Nat), vk = .int .i64 (k : Nat) ∧ (k : Int) ≤ x.size ∧ Later W wr ∧ n ≤ 64 * i + k ∧ Hid (wr.ownsRow W.heap.size 2 1 vo n (intsV (D ++ C.take k))) ∧ Hid ((D ++ C.take k).length = n)) (fun _ vk _ => x.size.toNat - (intOf vk).toNat)
      case atStart => exact ⟨0, n, rfl, by omega, hlw, by omega, HO0, HL0⟩
      case round =>
        obtain ⟨k, m, rfl, hk, hl7, hm, hO, hL⟩ := hrel
        rename_i vo _ _
        clear HO0 HL0 hlw c0 e1 e2
        obtain ⟨op', ocap', rfl⟩ := owns_slice hO.out
        have d0 := cell_later hB0 hl7
        have d1 := cell_later x1 (LL.trans hl7)
        have d2 := cell_later x2 (LL.trans hl7)
        have hWs := hl7.size
        by_cases h9 : (k : Int) < x.size
        · have hnx := HN.out k h9
          clear HN HE
          by_cases h10 : k < L.length
          · obtain ⟨a, hak⟩ : ∃ a, L[k]? = some a := ⟨_, List.getElem?_eq_getElem h10⟩
            obtain ⟨g', o', rfl, -, y0⟩ := IntsIn.get (IntsIn.kept hIN.out (LL.trans hl7).kept) hak
            rw [if_pos h10, hak, Option.getD_some] at hnx
            have HX : Hid (C.take (k + 1) = C.take k ++ [a]) := hnx
            clear hnx hak hIN
            go_wp2_with (at_builtin; refine wpList_append_own _ rfl _ _ 45 rfl W.heap.size 2 j0 (.int .i64 0) 1 8 Tryd.underlying45 hj0 hy0 hy1 hy2 rfl (by decide) _ _ _ rfl (hO.out.alloc _) ⟨wr.heap.size, 0, none⟩ 1 1 [.int .i64 a] rfl rfl (news_at2 wr _ _ rfl) (fun u hu => by simp at hu; subst hu; rfl) (by unfold maxLen; omega) (by omega) (by simp; omega) ?_; intro v3 w3 hown3 hgrow3 hnil3; have X3 := after_app hl7 (Nat.le_refl _) hO.out hgrow3 hown3; clear hown3 hgrow3 hnil3; obtain ⟨p3, q3, rfl⟩ := owns_slice X3.out.1)
            go_roundw
            case rel => exact ⟨k + 1, m + 1, by go_num, by omega, X3.out.2.1, by omega, (by show World.ownsRow _ _ _ _ _ _ _; rw [HX.out, ← List.append_assoc, intsV_append]; exact X3.out.1), (by show _ = _; have := hL.out; rw [HX.out, ← List.append_assoc, List.length_append, this]; rfl)⟩
            case measure => simp [intOf]; omega
          · rw [if_neg h10] at hnx
            have HX : Hid (C.take (k + 1) = C.take k ++ [0]) := hnx
            clear hnx hIN
            go_wp2_with (at_builtin; refine wpList_append_own _ rfl _ _ 45 rfl W.heap.size 2 j0 (.int .i64 0) 1 8 Tryd.underlying45 hj0 hy0 hy1 hy2 rfl (by decide) _ _ _ rfl (hO.out.alloc _) ⟨wr.heap.size, 0, none⟩ 1 1 [.int .i64 0] rfl rfl (news_at2 wr _ _ rfl) (fun u hu => by simp at hu; subst hu; rfl) (by unfold maxLen; omega) (by omega) (by simp; omega) ?_; intro v3 w3 hown3 hgrow3 hnil3; have X3 := after_app hl7 (Nat.le_refl _) hO.out hgrow3 hown3; clear hown3 hgrow3 hnil3; obtain ⟨p3, q3, rfl⟩ := owns_slice X3.out.1)
            go_roundw
            case rel => exact ⟨k + 1, m + 1, by go_num, by omega, X3.out.2.1, by omega, (by show World.ownsRow _ _ _ _ _ _ _; rw [HX.out, ← List.append_assoc, intsV_append]; exact X3.out.1), (by show _ = _; have := hL.out; rw [HX.out, ← List.append_assoc, List.length_append, this]; rfl)⟩
            case measure => simp [intOf]; omega
        · have hce := HE.out k (by omega)
          rw [hce] at hO hL
          clear HN HE hIN
          go_wp2
          go_roundw
          case rel => exact ⟨i + 1, m, by go_num, by omega, hl7, by omega, (by show World.ownsRow _ _ _ _ _ _ _; rw [HT.out]; exact hO.out), (by show _ = _; rw [HT.out]; exact hL.out)⟩
          case measure => simp [intOf]; omega
    · have hall : S.take i = S := List.take_of_length_le (by omega)
      rw [hall] at hO hL
      have HR := ints_of_owns hL.out hO.out HI.out
      clear hall hO hL HS HZ
      go_wp2
      go_ret
      exact ⟨_, rfl, LL.trans hlw, HR⟩

theorem start_none : startF [] = [] := rfl

set_option maxRecDepth 1000000 in
set_option maxHeartbeats 1000000 in
theorem refStart_any (u v : Value) (S : Syms) (P : List Thr) (w : World) (hS : SymRow w u S) (hP : ThrRow w v P) (f : FineP S P) :
    Calls Tryd.prog 54 #[.agg #[u, v]] w fun e w' => ∃ x, e = .returned x ∧ Later w w' ∧ IntsIn w' x (startF (laidF S P)) := by
  have c := fun w' hl => refCheck_any u v S P w' (hS.kept (Later.kept hl)) (hP.kept (Later.kept hl)) f
  have cA := fun w' hl hz => refStart0_any u v S P w' (hS.kept (Later.kept hl)) (hP.kept (Later.kept hl)) hz
  have hz0 := sized_check (S := S) (P := P)
  have hl0 : laidF S P = if checkC S P = 0 then S else [] := rfl
  obtain ⟨p, cap, rfl, h1, h2⟩ := hS.slice
  obtain ⟨p', cap', rfl, h1', h2'⟩ := hP.slice
  have LL := Later.alloc (Later.refl w) (.cells #[.slice p S.length cap, .slice p' P.length cap'] 27)
  obtain ⟨a0, a1, -⟩ := box2_facts (at_new w (.cells #[.slice p S.length cap, .slice p' P.length cap'] 27))
  clear hS hP f
  rw [hl0]
  clear hl0
  generalize hW : w.alloc (.cells #[.slice p S.length cap, .slice p' P.length cap'] 27) = W at *
  generalize checkC S P = n at *
  by_cases h : n = 0
  · rw [if_pos h]
    have cA' := fun w' hl => cA w' hl (hz0 h)
    subst h
    clear cA hz0
    go_enter Tryd.func54, Tryd.ntmps54
    go_upto_region 1 with (fail)
    clear hW
    go_wp2_with (first | (go_at_call 13; refine (c _ LL).mono ?_; rintro e w1 ⟨rfl, hl1⟩; have p0 := cell_later a0 hl1; have p1 := cell_later a1 hl1) | (go_at_call 90; refine (cA' _ (LL.trans hl1)).mono ?_; rintro e w2 ⟨x, rfl, hl2, hi⟩; obtain ⟨q, dap, rfl, hq1, hq2⟩ := hi.slice))
    go_ret
    exact ⟨_, rfl, LL.trans (hl1.trans hl2), hi⟩
  · rw [if_neg h]
    have h' : (n != 0) = true := by simpa using h
    clear cA hz0 h
    go_enter Tryd.func54, Tryd.ntmps54
    go_upto_region 1 with (fail)
    clear hW
    go_wp2_with (go_at_call 13; refine (c _ LL).mono ?_; rintro e w1 ⟨rfl, hl1⟩)
    go_ret
    exact ⟨_, rfl, LL.trans hl1, RowIn.nil _ _ _⟩

/-- copy over a row that the call has made, as one step of a region: the row behind it, and that all other blocks are as they were. -/
theorem step_copy_here {P : Program} {ops : Array Oper} {o : Oper} {a : Act} {w : World} {K : Act → World → Prop} {Q : Exit → Act → World → Prop} {E : Prop} (hgd : o.guard = none) (d s : Operand) (dT sT : TypeId)
    (ho : o.op = .call { callee := .builtin .copy, args := #[d, s], argTypes := #[dT, sT] }) (elem : TypeId) (hu : P.underlying dT = some (.slice elem)) (hsz : (P.info? elem).map (·.size) = some 1)
    (g off : Nat) (sp : Option Addr) (dLen dCap sLen sCap : Nat) (hd : a.eval d = .slice (some ⟨g, off, none⟩) dLen dCap) (hs : a.eval s = .slice sp sLen sCap)
    (cur : List Value) (t : TypeId) (hg : w.heap[g]? = some (.cells cur.toArray t (0, 0))) (cs : List Value) (hn : cs.length = sLen) (hle : sLen ≤ dLen)
    (hpos : cs ≠ [] → ∃ ad, sp = some ad ∧ ∀ j v, cs[j]? = some v → w.cell? (ad.add j) = some v)
    (hfit : off + cs.length ≤ cur.length) (h1 : ∀ v ∈ cs, v.oneCell' = true)
    (h : ∀ w', Hid (w'.heap[g]? = some (.cells (splice cur off cs).toArray t (0, 0))) → Below g w w' → (∀ k, k ≠ g → w'.heap[k]? = w.heap[k]?) → K (a.put o.dst (goInt cs.length)) w') :
    if Region.wanted o (yielded ops a.tmps) = true then Oper.wp P o a w K Q else E := by
  have hw : Region.wanted o (yielded ops a.tmps) = true := by simp [Region.wanted, hgd]
  rw [if_pos hw]
  rcases cs with _ | ⟨c0, cr⟩
  · have hrun := run_copy_none (P := P) w dT sT o.type elem (some ⟨g, off, none⟩) sp dLen dCap sLen sCap hu hsz (by simp at hn; subst hn; simp)
    unfold Oper.wp
    simp [execOp, ho, resolve, invoke, builtin, hd, hs, hrun, Result.andThen]
    exact h w (show _ = _ by simpa [splice] using hg) (Below.refl _ _) (fun _ _ => rfl)
  · obtain ⟨ad, rfl, hsrc⟩ := hpos (by simp)
    have hrun := run_copy_row (P := P) w dT sT o.type elem g off dLen dCap ad sLen sCap cur.toArray t (c0 :: cr) hu hsz hg (by rw [hn]; exact (Nat.min_eq_left hle).symm) hsrc (by simpa using hfit) h1
    unfold Oper.wp
    simp [execOp, ho, resolve, invoke, builtin, hd, hs, hrun, Result.andThen]
    exact h _ (show _ = _ by simpa [splice] using setRow_heap w g _ _ t _ hg) (below_setRow (Below.refl _ _) (Nat.le_refl _) _) (fun k hk => setRow_other w g k _ (by omega))

end Go.Proofs.YtgkdejldpldkiaaDoor
