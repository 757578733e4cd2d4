/-
  How programs lie in memory: slices of instructions, of symbols, of threads. What is read as such data has these cells; in a later world it has them still. Conditions: none.
  What package valid's Find and Count, the document's own, and the library's Index and Contains of texts return: where a label stands first, how many instructions are no mfence. Nothing that was in memory turns. Conditions: the thread lies in memory.
  A map that keeps texts as a set, made by the call itself: what is looked up in it, what stands in it behind a store, that it stays while other memory is made. Conditions: none.
  Which programs may be, as plain recursions over lists: the code of the first thing that is wrong. Conditions: none.
-/
import Derived.Test.YtegogmbcjjjjjaaDoorJh
import Derived.Test.YtegogmbcjjjjjaaDoorJb
import Derived.Maps.Own
import Derived.Maps.OwnOps
import Derived.Maps.Views
import Derived.Maps.AppendAt
import Derived.Test.YtegogmbcjjjjjaaDoorJe
namespace Go.Proofs.YtegogmbcjjjjjaaDoor
open Go.RowKit Go.ChangeShapes Go.WideShapes Go.Deep

/-- Numbers. -/
def IntE (_ : World) (n : Int) (cs : List Value) : Prop := cs = [.int .i64 n] ∧ I64 n
def IntsIn (w : World) (v : Value) (L : List Int) : Prop := RowIn 1 IntE w v L

/-- Instructions with their labels. -/
def InsE (w : World) (x : Ins × List ByteArray) (cs : List Value) : Prop := cs = x.1.cells.toList ∧ x.1.Ok ∧ TextsIn w x.1.labels x.2
def InsRow (w : World) (v : Value) (T : List (Ins × List ByteArray)) : Prop := RowIn 13 InsE w v T

/-- A symbol; its first numbers as they lie in memory. -/
structure Sym where
  name : ByteArray
  size : Int
  init : Value
def Sym.cells (s : Sym) : Array Value := #[.string s.name, .int .i64 s.size, s.init]
def Sym.val (s : Sym) : Value := .agg s.cells
def SymE (w : World) (s : Sym × List Int) (cs : List Value) : Prop := cs = s.1.cells.toList ∧ s.1.name.size ≤ maxLen ∧ I64 s.1.size ∧ IntsIn w s.1.init s.2
def SymRow (w : World) (v : Value) (S : List (Sym × List Int)) : Prop := RowIn 3 SymE w v S

/-- Threads. -/
def ThrE (w : World) (T : List (Ins × List ByteArray)) (cs : List Value) : Prop := ∃ v, cs = [v] ∧ InsRow w v T
def ThrRow (w : World) (v : Value) (P : List (List (Ins × List ByteArray))) : Prop := RowIn 1 ThrE w v P

theorem TextsIn.kept {w w' : World} {v : Value} {L : List ByteArray} (h : TextsIn w v L) (hl : CellsKept w w') : TextsIn w' v L := by
  obtain ⟨p, cap, rfl, h1, h2, h3, h4⟩ := h
  refine ⟨p, cap, rfl, h1, h2, h3, fun hn => ?_⟩
  obtain ⟨g, o, rfl, h5⟩ := h4 hn
  exact ⟨g, o, rfl, fun i t ht => hl _ _ (h5 i t ht)⟩
theorem IntsIn.kept {w w' : World} {v : Value} {L : List Int} (h : IntsIn w v L) (hl : CellsKept w w') : IntsIn w' v L := RowIn.lift h (fun _ _ _ h => h) hl
theorem InsRow.kept {w w' : World} {v : Value} {T : List (Ins × List ByteArray)} (h : InsRow w v T) (hl : CellsKept w w') : InsRow w' v T := RowIn.lift h (fun _ _ _ ⟨h1, h2, h3⟩ => ⟨h1, h2, h3.kept hl⟩) hl
theorem SymRow.kept {w w' : World} {v : Value} {S : List (Sym × List Int)} (h : SymRow w v S) (hl : CellsKept w w') : SymRow w' v S := RowIn.lift h (fun _ _ _ ⟨h1, h2, h3, h4⟩ => ⟨h1, h2, h3, h4.kept hl⟩) hl
theorem ThrRow.kept {w w' : World} {v : Value} {P : List (List (Ins × List ByteArray))} (h : ThrRow w v P) (hl : CellsKept w w') : ThrRow w' v P := RowIn.lift h (fun _ _ _ ⟨v, h1, h2⟩ => ⟨v, h1, h2.kept hl⟩) hl

theorem InsRow.get {w : World} {p : Option Addr} {n cap : Nat} {T : List (Ins × List ByteArray)} (h : InsRow w (.slice p n cap) T) {i : Nat} {x : Ins} {L : List ByteArray} (hi : T[i]? = some (x, L)) :
    ∃ g o, p = some ⟨g, o, none⟩ ∧ x.Ok ∧ TextsIn w x.labels L ∧
      w.cell? ⟨g, o + i * 13, none⟩ = some (.int .i64 x.op) ∧ w.cell? ⟨g, o + i * 13 + 1, none⟩ = some (.bool x.lock) ∧ w.cell? ⟨g, o + i * 13 + 2, none⟩ = some (.int .i64 x.cond) ∧
      w.cell? ⟨g, o + i * 13 + 3, none⟩ = some (.int .i64 x.a.kind) ∧ w.cell? ⟨g, o + i * 13 + 4, none⟩ = some (.int .i64 x.a.reg) ∧ w.cell? ⟨g, o + i * 13 + 5, none⟩ = some (.int .i64 x.a.sym) ∧ w.cell? ⟨g, o + i * 13 + 6, none⟩ = some (.int .i64 x.a.n) ∧
      w.cell? ⟨g, o + i * 13 + 7, none⟩ = some (.int .i64 x.b.kind) ∧ w.cell? ⟨g, o + i * 13 + 8, none⟩ = some (.int .i64 x.b.reg) ∧ w.cell? ⟨g, o + i * 13 + 9, none⟩ = some (.int .i64 x.b.sym) ∧ w.cell? ⟨g, o + i * 13 + 10, none⟩ = some (.int .i64 x.b.n) ∧
      w.cell? ⟨g, o + i * 13 + 11, none⟩ = some (.string x.dest) ∧ w.cell? ⟨g, o + i * 13 + 12, none⟩ = some x.labels := by
  obtain ⟨g, o, cs, rfl, ⟨rfl, h2, h3⟩, h4⟩ := RowIn.get h hi
  refine ⟨g, o, rfl, h2, h3, ?_⟩
  exact ⟨h4 0 _ rfl, h4 1 _ rfl, h4 2 _ rfl, h4 3 _ rfl, h4 4 _ rfl, h4 5 _ rfl, h4 6 _ rfl, h4 7 _ rfl, h4 8 _ rfl, h4 9 _ rfl, h4 10 _ rfl, h4 11 _ rfl, h4 12 _ rfl⟩

theorem SymRow.get {w : World} {p : Option Addr} {n cap : Nat} {S : List (Sym × List Int)} (h : SymRow w (.slice p n cap) S) {i : Nat} {x : Sym} {L : List Int} (hi : S[i]? = some (x, L)) :
    ∃ g o, p = some ⟨g, o, none⟩ ∧ x.name.size ≤ maxLen ∧ I64 x.size ∧ IntsIn w x.init L ∧
      w.cell? ⟨g, o + i * 3, none⟩ = some (.string x.name) ∧ w.cell? ⟨g, o + i * 3 + 1, none⟩ = some (.int .i64 x.size) ∧ w.cell? ⟨g, o + i * 3 + 2, none⟩ = some x.init := by
  obtain ⟨g, o, cs, rfl, ⟨rfl, h1, h2, h3⟩, h4⟩ := RowIn.get h hi
  exact ⟨g, o, rfl, h1, h2, h3, h4 0 _ rfl, h4 1 _ rfl, h4 2 _ rfl⟩

theorem ThrRow.get {w : World} {p : Option Addr} {n cap : Nat} {P : List (List (Ins × List ByteArray))} (h : ThrRow w (.slice p n cap) P) {i : Nat} {T : List (Ins × List ByteArray)} (hi : P[i]? = some T) :
    ∃ g o v, p = some ⟨g, o, none⟩ ∧ InsRow w v T ∧ w.cell? ⟨g, o + i, none⟩ = some v := by
  obtain ⟨g, o, cs, rfl, ⟨v, rfl, h2⟩, h4⟩ := RowIn.get h hi
  refine ⟨g, o, v, rfl, h2, ?_⟩
  have := h4 0 v rfl
  rwa [Nat.mul_one] at this

theorem IntsIn.get {w : World} {p : Option Addr} {n cap : Nat} {L : List Int} (h : IntsIn w (.slice p n cap) L) {i : Nat} {a : Int} (hi : L[i]? = some a) :
    ∃ g o, p = some ⟨g, o, none⟩ ∧ I64 a ∧ w.cell? ⟨g, o + i, none⟩ = some (.int .i64 a) := by
  obtain ⟨g, o, cs, rfl, ⟨rfl, h2⟩, h4⟩ := RowIn.get h hi
  refine ⟨g, o, rfl, h2, ?_⟩
  have := h4 0 _ rfl
  rwa [Nat.mul_one] at this

section
variable {H : Type} {enc : TypeId × Value → H} {W : World} {base : Nat} {spare : Nat → Bool} {held : Bool} {fuel : Nat} {cs : List Value} {y : DataW H × List MemPlace}

theorem cells_sym : Tryd.prog.cellsOf 42 = 3 := by kernel_rfl

theorem cells_ints : Tryd.prog.cellsOf 40 = 1 := by kernel_rfl

theorem cells_thread : Tryd.prog.cellsOf 34 = 1 := by kernel_rfl

theorem cells_inss : Tryd.prog.cellsOf 32 = 1 := by kernel_rfl

theorem cells_syms : Tryd.prog.cellsOf 22 = 1 := by kernel_rfl

theorem cells_threads : Tryd.prog.cellsOf 23 = 1 := by kernel_rfl

theorem cells_prog : Tryd.prog.cellsOf 25 = 2 := by kernel_rfl

theorem trod_ints (h : DataW.trod enc Tryd.prog W base spare held fuel 40 cs = some y) : ∃ v L, cs = [v] ∧ IntsIn W v L := by
  refine trod_row Tryd.underlying40 cells_int64 (by omega) (fun n cs z hz => ?_) h
  have hl := (DataW.trod_int Tryd.underlying2 hz)
  obtain ⟨a, h1, -, h2⟩ := hl
  exact ⟨a, h1, int64_of_wf h2⟩

theorem trod_inss (h : DataW.trod enc Tryd.prog W base spare held fuel 32 cs = some y) : ∃ v T, cs = [v] ∧ InsRow W v T := by
  refine trod_row Tryd.underlying32 cells_ins (by omega) (fun n cs z hz => ?_) h
  obtain ⟨x, L, h1, h2, h3⟩ := trod_ins hz
  exact ⟨(x, L), h1, h2, h3⟩

theorem trod_sym (h : DataW.trod enc Tryd.prog W base spare held fuel 42 cs = some y) : ∃ s : Sym × List Int, SymE W s cs := by
  have hl := trod_len Tryd.underlying42 h
  rw [cells_sym] at hl
  obtain ⟨c0, c1, c2, rfl⟩ := list3 hl
  obtain ⟨n0, z0, h0⟩ := trod_field Tryd.underlying42 h 0 9 0 cells_string rfl
  obtain ⟨n1, z1, h1⟩ := trod_field Tryd.underlying42 h 1 3 1 cells_int rfl
  obtain ⟨n2, z2, h2⟩ := trod_field Tryd.underlying42 h 2 40 2 cells_ints rfl
  simp only [List.drop_zero, List.drop_succ_cons, List.take_succ_cons, List.take_zero] at h0 h1 h2
  obtain ⟨s, e0, -, k0⟩ := DataW.trod_string Tryd.underlying9 h0
  obtain ⟨a1, rfl, k1⟩ := trod_i64 Tryd.underlying3 h1
  obtain ⟨v, L, e2, k2⟩ := trod_ints h2
  simp at e0 e2
  subst e0 e2
  exact ⟨(⟨s, a1, _⟩, L), rfl, k0, k1, k2⟩

theorem trod_thread (h : DataW.trod enc Tryd.prog W base spare held fuel 34 cs = some y) : ∃ T, ThrE W T cs := by
  have hl := trod_len Tryd.underlying34 h
  rw [cells_thread] at hl
  obtain ⟨c0, rfl⟩ := list1 hl
  obtain ⟨n0, z0, h0⟩ := trod_field Tryd.underlying34 h 0 32 0 cells_inss rfl
  simp only [List.drop_zero, List.take_succ_cons, List.take_zero] at h0
  obtain ⟨v, T, e, k⟩ := trod_inss h0
  exact ⟨T, v, e, k⟩

theorem trod_prog (h : DataW.trod enc Tryd.prog W base spare held fuel 25 cs = some y) : ∃ u v S P, cs = [u, v] ∧ SymRow W u S ∧ ThrRow W v P := by
  have hl := trod_len Tryd.underlying25 h
  rw [cells_prog] at hl
  obtain ⟨c0, c1, rfl⟩ := list2 hl
  obtain ⟨n0, z0, h0⟩ := trod_field Tryd.underlying25 h 0 22 0 cells_syms rfl
  obtain ⟨n1, z1, h1⟩ := trod_field Tryd.underlying25 h 1 23 1 cells_threads rfl
  simp only [List.drop_zero, List.drop_succ_cons, List.take_succ_cons, List.take_zero] at h0 h1
  obtain ⟨u, S, e0, k0⟩ := trod_row (E := SymE) Tryd.underlying22 cells_sym (by omega) (fun n cs z hz => trod_sym hz) h0
  obtain ⟨v, P, e1, k1⟩ := trod_row (E := ThrE) Tryd.underlying23 cells_thread (by omega) (fun n cs z hz => trod_thread hz) h1
  simp at e0 e1
  subst e0 e1
  exact ⟨_, _, S, P, rfl, k0, k1⟩

set_option maxRecDepth 100000 in
theorem open_thread {r : Reach} {b0 : Nat} {v : Value} {d : DataW H} {p : List MemPlace} (hv : Value.okWide Tryd.prog W r b0 34 v) (h : DataW.Trod enc Tryd.prog W base spare held 34 v d p) :
    ∃ u T, v = .agg #[u] ∧ InsRow W u T := by
  obtain ⟨ca, rfl, hsz⟩ := okWide_struct Tryd.underlying34 hv
  obtain ⟨fuel, hf⟩ := h
  obtain ⟨T, u, hc, h1⟩ := trod_thread hf
  refine ⟨u, T, ?_, h1⟩
  simp [Value.cells] at hc
  rw [← Array.toList_inj.1 (show ca.toList = (#[u] : Array Value).toList from hc)]

set_option maxRecDepth 100000 in
theorem open_prog {r : Reach} {b0 : Nat} {v : Value} {d : DataW H} {p : List MemPlace} (hv : Value.okWide Tryd.prog W r b0 25 v) (h : DataW.Trod enc Tryd.prog W base spare held 25 v d p) :
    ∃ u t S P, v = .agg #[u, t] ∧ SymRow W u S ∧ ThrRow W t P := by
  obtain ⟨ca, rfl, hsz⟩ := okWide_struct Tryd.underlying25 hv
  obtain ⟨fuel, hf⟩ := h
  obtain ⟨u, t, S, P, hc, h1, h2⟩ := trod_prog hf
  refine ⟨u, t, S, P, ?_, h1, h2⟩
  simp [Value.cells] at hc
  rw [← Array.toList_inj.1 (show ca.toList = (#[u, t] : Array Value).toList from hc)]

end

end Go.Proofs.YtegogmbcjjjjjaaDoor

namespace Go.Proofs.YtegogmbcjjjjjaaDoor
open Go.RowKit
set_option linter.unusedVariables false
set_option linter.unusedSimpArgs false

theorem eq_lists {s t : ByteArray} (h : (t.data.toList == s.data.toList) = true) : (s.toList == t.toList) = true := by
  have := same_true h
  simp only [beq_iff_eq] at this ⊢
  exact this.symm

theorem ne_lists {s t : ByteArray} (h : ¬ (t.data.toList == s.data.toList) = true) : (s.toList == t.toList) = false := by
  have := same_false h
  simp only [beq_eq_false_iff_ne, ne_eq] at this ⊢
  exact fun e => this e.symm

theorem first_mem (s : ByteArray) : ∀ (T : List ByteArray) (k : Nat), (0 ≤ firstAt s T k) ↔ s ∈ T
  | [], k => by simp [firstAt]
  | t :: T, k => by
    simp only [firstAt, List.mem_cons]
    split
    · rename_i h
      have e : t = s := by
        simp only [beq_iff_eq] at h
        exact ByteArray.ext (Array.toList_inj.1 h)
      subst e
      simp
    · rename_i h
      rw [first_mem s T (k + 1)]
      have e : ¬ s = t := by
        rintro rfl
        simp at h
      simp [e]

/-- Whether a text stands in a list. -/
def hasT (s : ByteArray) (L : List ByteArray) : Bool := L.any fun t => decide (s = t)
theorem hasT_iff {s : ByteArray} {L : List ByteArray} : hasT s L = true ↔ s ∈ L := by simp [hasT]

set_option maxRecDepth 1000000 in
set_option maxHeartbeats 1000000 in
theorem textsIndex_any (u : Value) (L : List ByteArray) (s : ByteArray) (w : World) (hL : TextsIn w u L) :
    Calls Tryd.prog 51 #[u, .string s] w fun e w' => e = .returned (.int .i64 (firstAt s L 0)) ∧ w = w' := by
  obtain ⟨p, cap, rfl, h1, h2, h3, h4⟩ := hL
  unfold maxLen at h2
  clear h3
  have H4 : Hid (L ≠ [] → ∃ g o, p = some ⟨g, o, none⟩ ∧ ∀ i t, L[i]? = some t → w.cell? ⟨g, o + i, none⟩ = some (.string t)) := h4
  clear h4
  go_enter Tryd.func51, Tryd.ntmps51
  go_wp2
  go_loopw [8] (fun vi wr => ∃ (i : Nat), vi = .int .i64 (i : Nat) ∧ i ≤ L.length ∧ wr = w ∧ firstAt s (L.drop i) i = firstAt s L 0) (fun vi _ => L.length - (intOf vi).toNat)
  case atStart => exact ⟨0, rfl, by omega, rfl, rfl⟩
  case round =>
    obtain ⟨i, rfl, hi, rfl, hF⟩ := hrel
    by_cases h8 : i < L.length
    · obtain ⟨t, ht⟩ : ∃ t, L[i]? = some t := ⟨_, List.getElem?_eq_getElem h8⟩
      obtain ⟨g, o, rfl, h5⟩ := H4.out (by rintro rfl; simp at h8)
      have hc := h5 i t ht
      rw [first_drop s L i t ht] at hF
      clear ht h5 H4
      by_cases he : (t.data.toList == s.data.toList) = true
      · have he' := eq_lists he
        rw [if_pos he] at hF
        have HE : Hid (firstAt s L 0 = (i : Int)) := hF.symm
        clear hF he
        go_wp2
        go_ret
        exact ⟨by simp only [HE.out]; rfl, rfl⟩
      · have he' := ne_lists he
        rw [if_neg he] at hF
        have HG : Hid (firstAt s (L.drop (i + 1)) (i + 1) = firstAt s L 0) := hF
        clear hF he
        go_wp2
        go_roundw
        case rel => exact ⟨i + 1, by go_num, by omega, (by first | rfl | trivial), HG.out⟩
        case measure => simp [intOf]; omega
    · have HE : Hid (firstAt s L 0 = -1) := by
        show _ = _
        rw [← hF, List.drop_of_length_le (by omega)]
        rfl
      clear hF
      go_wp2
      go_ret
      exact ⟨by simp only [HE.out]; rfl, rfl⟩

theorem textsContains_any (u : Value) (L : List ByteArray) (s : ByteArray) (w : World) (hL : TextsIn w u L) :
    Calls Tryd.prog 33 #[u, .string s] w fun e w' => e = .returned (.bool (hasT s L)) ∧ w = w' := by
  have c := textsIndex_any u L s w hL
  have hm := first_mem s L 0
  generalize firstAt s L 0 = n at *
  have HM : Hid (0 ≤ n ↔ s ∈ L) := hm
  clear hm hL
  go_enter Tryd.func33, Tryd.ntmps33
  go_wp2_with (go_at_call 51; refine c.mono ?_; rintro e w' ⟨rfl, h⟩; obtain rfl := h.symm)
  go_ret
  exact ⟨ret_bool (by rw [Bool.eq_iff_iff, decide_eq_true_eq, hasT_iff]; exact HM.out), rfl⟩

/-- Where a label stands first. -/
def findF (s : ByteArray) : List (Ins × List ByteArray) → Nat → Int
  | [], _ => -1
  | x :: r, k => if hasT s x.2 = true then k else findF s r (k + 1)

theorem find_drop (s : ByteArray) (T : List (Ins × List ByteArray)) (i : Nat) (x : Ins) (L : List ByteArray) (h : T[i]? = some (x, L)) : findF s (T.drop i) i = if hasT s L = true then (i : Int) else findF s (T.drop (i + 1)) (i + 1) := by
  obtain ⟨hi, ht⟩ := List.getElem?_eq_some_iff.1 h
  rw [List.drop_eq_getElem_cons hi, ht]
  rfl

theorem find1_any (x : Ins) (L : List ByteArray) (s : ByteArray) (B : Nat) (w : World) (hL : TextsIn w x.labels L) (hs : w.cell? ⟨B, 0, none⟩ = some (.string s)) :
    Calls Tryd.prog 32 #[x.val, .pointer (some ⟨B, 0, none⟩)] w fun e w' => e = .returned (.bool (hasT s L)) ∧ Later w w' := by
  obtain ⟨op, lock, cond, ⟨ak, ar, ay, an⟩, ⟨bk, br, bs, bn⟩, dest, lb⟩ := x
  unfold Ins.val Ins.cells
  dsimp only at *
  have LL := Later.alloc (Later.refl w) (.cells #[.int .i64 op, .bool lock, .int .i64 cond, .int .i64 ak, .int .i64 ar, .int .i64 ay, .int .i64 an, .int .i64 bk, .int .i64 br, .int .i64 bs, .int .i64 bn, .string dest, lb] 39)
  have c := textsContains_any lb L s _ (hL.later LL)
  have hs' := cell_later hs LL
  clear hs hL
  generalize hasT s L = b at *
  go_enter Tryd.func32, Tryd.ntmps32
  go_wp2_with (go_at_call 33; refine c.mono ?_; rintro e w' ⟨rfl, h⟩; obtain rfl := h.symm)
  go_ret
  exact ⟨rfl, LL⟩

set_option maxRecDepth 1000000 in
set_option maxHeartbeats 1000000 in
theorem indexFunc_any (u : Value) (T : List (Ins × List ByteArray)) (s : ByteArray) (B : Nat) (w : World) (hT : InsRow w u T) (hs : w.cell? ⟨B, 0, none⟩ = some (.string s)) :
    Calls Tryd.prog 31 #[u, .func (.func 32) #[] #[.pointer (some ⟨B, 0, none⟩)]] w fun e w' => e = .returned (.int .i64 (findF s T 0)) ∧ Later w w' := by
  obtain ⟨p, cap, rfl, h1, h2⟩ := hT.slice
  unfold maxLen at h2
  have HT : Hid (InsRow w (.slice p T.length cap) T) := hT
  have HS : Hid (w.cell? ⟨B, 0, none⟩ = some (.string s)) := hs
  clear hT hs
  go_enter Tryd.func31, Tryd.ntmps31
  go_wp2
  go_loopw [8] (fun vi wr => ∃ (i : Nat), vi = .int .i64 (i : Nat) ∧ i ≤ T.length ∧ Later w wr ∧ findF s (T.drop i) i = findF s T 0) (fun vi _ => T.length - (intOf vi).toNat)
  case atStart => exact ⟨0, rfl, by omega, Later.refl _, rfl⟩
  case round =>
    obtain ⟨i, rfl, hi, hlw, hF⟩ := hrel
    by_cases h8 : i < T.length
    · obtain ⟨⟨x, L⟩, ht⟩ : ∃ t, T[i]? = some t := ⟨_, List.getElem?_eq_getElem h8⟩
      obtain ⟨g, o, rfl, hok, hti, b0, b1, b2, b3, b4, b5, b6, b7, b8, b9, b10, b11, b12⟩ := (InsRow.kept HT.out hlw.kept).get ht
      have cF := find1_any x L s B wr hti (cell_later HS.out hlw)
      unfold Ins.val Ins.cells at cF
      rw [find_drop s T i x L ht] at hF
      clear ht hti hok HT HS
      by_cases he : hasT s L = true
      · rw [if_pos he] at hF
        rw [he] at cF
        have HE : Hid (findF s T 0 = (i : Int)) := hF.symm
        clear hF he
        go_wp2_with (go_at_call 32; refine cF.mono ?_; rintro e w' ⟨rfl, hl⟩)
        go_ret
        exact ⟨by simp only [HE.out]; rfl, hlw.trans hl⟩
      · rw [if_neg he] at hF
        rw [Bool.eq_false_iff.2 he] at cF
        have HG : Hid (findF s (T.drop (i + 1)) (i + 1) = findF s T 0) := hF
        clear hF he
        go_wp2_with (go_at_call 32; refine cF.mono ?_; rintro e w' ⟨rfl, hl⟩)
        go_roundw
        case rel => exact ⟨i + 1, by go_num, by omega, hlw.trans hl, HG.out⟩
        case measure => simp [intOf]; omega
    · have HE : Hid (findF s T 0 = -1) := by
        show _ = _
        rw [← hF, List.drop_of_length_le (by omega)]
        rfl
      clear hF
      go_wp2
      go_ret
      exact ⟨by simp only [HE.out]; rfl, hlw⟩

theorem find_any (u : Value) (T : List (Ins × List ByteArray)) (s : ByteArray) (w : World) (hT : InsRow w u T) :
    Calls Tryd.prog 13 #[.agg #[u], .string s] w fun e w' => e = .returned (.int .i64 (findF s T 0)) ∧ Later w w' := by
  have LL := Later.alloc (Later.alloc (Later.refl w) (.cells #[u] 34)) (.cells #[.string s] 9)
  obtain ⟨HB, HC⟩ := two_new2 w (.cells #[u] 34) (.cells #[.string s] 9)
  have c := indexFunc_any u T s (w.heap.size + 1) _ (hT.kept LL.kept) (box1_facts HC).1
  have hu := (box1_facts HB).1
  have hmf : ∀ (fn : Fn) (first cap : Array Value) (w : World), (Instr.makeFunc fn first cap).run Tryd.prog w = .ok (.func fn first cap) w := fun _ _ _ _ => rfl
  clear HB HC hT
  generalize findF s T 0 = n at *
  go_enter Tryd.func13, Tryd.ntmps13
  go_wp2_with (go_at_call 31; refine c.mono ?_; rintro e w' ⟨rfl, hl⟩)
  go_ret
  exact ⟨rfl, LL.trans hl⟩

/-- How many are no mfence. -/
def countF (T : List (Ins × List ByteArray)) : Nat := (T.filter fun x => decide (x.1.op ≠ 12)).length

theorem count_next {T : List (Ins × List ByteArray)} {k : Nat} {x : Ins} {L : List ByteArray} (h : T[k]? = some (x, L)) : countF (T.take (k + 1)) = countF (T.take k) + (if x.op = 12 then 0 else 1) := by
  rw [List.take_add_one, h]
  unfold countF
  rw [List.filter_append, List.length_append]
  congr 1
  by_cases h12 : x.op = 12 <;> simp [h12]

theorem count_le (T : List (Ins × List ByteArray)) : countF T ≤ T.length := List.length_filter_le _ _

set_option maxRecDepth 1000000 in
set_option maxHeartbeats 1000000 in
theorem count_any (u : Value) (T : List (Ins × List ByteArray)) (w : World) (hT : InsRow w u T) :
    Calls Tryd.prog 14 #[.agg #[u]] w fun e w' => e = .returned (.int .i64 (countF T)) ∧ Later w w' := by
  obtain ⟨p, cap, rfl, h1, h2⟩ := hT.slice
  unfold maxLen at h2
  have LL := Later.alloc (Later.refl w) (.cells #[.slice p T.length cap] 34)
  have HT : Hid (InsRow w (.slice p T.length cap) T) := hT
  have hB := (box1_facts (at_new w (.cells #[.slice p T.length cap] 34))).1
  clear hT
  go_enter Tryd.func14, Tryd.ntmps14
  go_upto_region 1 with (fail)
  generalize w.alloc (.cells #[.slice p T.length cap] 34) = W at *
  go_wp2
  go_loopw [3, 9] (fun vn vi wr => ∃ (i n : Nat), vi = .int .i64 (i : Nat) ∧ vn = .int .i64 (n : Nat) ∧ i ≤ T.length ∧ Later w wr ∧ n ≤ i ∧ Hid (countF (T.take i) = n)) (fun _ vi _ => T.length - (intOf vi).toNat)
  case atStart => exact ⟨0, 0, rfl, rfl, by omega, LL, by omega, rfl⟩
  case round =>
    obtain ⟨i, n, rfl, rfl, hi, hlw, hn, hF⟩ := hrel
    by_cases h8 : i < T.length
    · obtain ⟨⟨x, L⟩, ht⟩ : ∃ t, T[i]? = some t := ⟨_, List.getElem?_eq_getElem h8⟩
      obtain ⟨g, o, rfl, hok, hti, b0, b1, b2, b3, b4, b5, b6, b7, b8, b9, b10, b11, b12⟩ := (InsRow.kept HT.out hlw.kept).get ht
      have hc : Hid (countF (T.take (i + 1)) = n + (if x.op = 12 then 0 else 1)) := by
        show _ = _
        rw [count_next ht, hF.out]
      obtain ⟨q, dap, hlb, -⟩ := hti
      rw [hlb] at b12
      have hlb2 : Hid (x.labels = .slice q L.length dap) := hlb
      clear ht hok HT hF hB LL hlb
      by_cases he : x.op = 12
      · rw [he] at b0
        go_wp2
        go_roundw
        case rel => exact ⟨i + 1, n, by go_num, by go_num, by omega, (by repeat (first | exact hlw | refine Later.alloc ?_ _)), by omega, by have := hc.out; rw [if_pos he] at this; exact this⟩
        case measure => simp [intOf]; omega
      · have hne : (x.op != 12) = true := by simpa using he
        go_wp2
        go_roundw
        case rel => exact ⟨i + 1, n + 1, by go_num, by go_num, by omega, (by repeat (first | exact hlw | refine Later.alloc ?_ _)), by omega, by have := hc.out; rw [if_neg he] at this; exact this⟩
        case measure => simp [intOf]; omega
    · have hc := hF.out
      rw [List.take_of_length_le (by omega)] at hc
      clear hF
      go_wp2
      go_ret
      exact ⟨by simp only [hc]; rfl, hlw⟩

/-- Whether a thread is more than is gone through. -/
def greatTF (T : List (Ins × List ByteArray)) : Bool := decide (12 < T.length) || T.any (fun x => greatF x.1 x.2)

set_option maxRecDepth 1000000 in
set_option maxHeartbeats 1000000 in
theorem greatThread_any (u : Value) (T : List (Ins × List ByteArray)) (w : World) (hT : InsRow w u T) :
    Calls Tryd.prog 11 #[.agg #[u]] w fun e w' => e = .returned (.bool (greatTF T)) ∧ Later w w' := by
  obtain ⟨p, cap, rfl, h1, h2⟩ := hT.slice
  unfold maxLen at h2
  have LL := Later.alloc (Later.refl w) (.cells #[.slice p T.length cap] 34)
  have HT : Hid (InsRow w (.slice p T.length cap) T) := hT
  have hB := (box1_facts (at_new w (.cells #[.slice p T.length cap] 34))).1
  clear hT
  go_enter Tryd.func11, Tryd.ntmps11
  go_upto_region 1 with (fail)
  generalize w.alloc (.cells #[.slice p T.length cap] 34) = W at *
  by_cases h12 : 12 < T.length
  · go_wp2
    all_goals go_ret
    all_goals first | exact ⟨ret_bool (by simp [greatTF, h12]), LL⟩ | (exfalso; omega)
  go_wp2
  go_loopw [3] (fun vi wr => ∃ (i : Nat), vi = .int .i64 (i : Nat) ∧ i ≤ T.length ∧ Later W wr ∧ Hid (∀ j x, j < i → T[j]? = some x → greatF x.1 x.2 = false)) (fun vi _ => T.length - (intOf vi).toNat)
  case atStart => exact ⟨0, rfl, by omega, Later.refl _, fun j x hj => by omega⟩
  case round =>
    obtain ⟨i, rfl, hi, hlw, hF⟩ := hrel
    have hB' := cell_later hB hlw
    by_cases h8 : i < T.length
    · obtain ⟨⟨x, L⟩, ht⟩ : ∃ t, T[i]? = some t := ⟨_, List.getElem?_eq_getElem h8⟩
      obtain ⟨g, o, rfl, hok, hti, b0, b1, b2, b3, b4, b5, b6, b7, b8, b9, b10, b11, b12⟩ := (InsRow.kept HT.out (LL.trans hlw).kept).get ht
      have cG := great_any x L wr hok.dest hti
      unfold Ins.val Ins.cells at cG
      have HX : Hid (T[i]? = some (x, L)) := ht
      clear ht hti hok HT
      cases he : greatF x L with
      | true =>
        rw [he] at cG
        have HE : Hid (greatF x L = true) := he
        clear he
        go_wp2_with (go_at_call 28; refine cG.mono ?_; rintro e w' ⟨rfl, hl⟩)
        go_ret
        refine ⟨ret_bool ?_, LL.trans (hlw.trans hl)⟩
        have : T.any (fun x => greatF x.1 x.2) = true := List.any_eq_true.2 ⟨(x, L), List.mem_of_getElem? HX.out, HE.out⟩
        simp [greatTF, this]
      | false =>
        rw [he] at cG
        have HE : Hid (greatF x L = false) := he
        clear he
        go_wp2_with (go_at_call 28; refine cG.mono ?_; rintro e w' ⟨rfl, hl⟩)
        go_roundw
        case rel => exact ⟨i + 1, by go_num, by omega, hlw.trans hl, fun j y hj hy => by
          rcases Nat.lt_succ_iff_lt_or_eq.1 hj with h | rfl
          · exact hF.out j y h hy
          · rw [HX.out] at hy; cases hy; exact HE.out⟩
        case measure => simp [intOf]; omega
    · have hall : T.any (fun x => greatF x.1 x.2) = false := by
        rw [List.any_eq_false]
        intro x hx
        obtain ⟨j, hj, rfl⟩ := List.getElem_of_mem hx
        rw [hF.out j _ (by omega) (List.getElem?_eq_getElem hj)]
        simp
      go_wp2
      go_ret
      exact ⟨ret_bool (by simp [greatTF, h12, hall]), LL.trans hlw⟩

end Go.Proofs.YtegogmbcjjjjjaaDoor

namespace Go.Proofs.YtegogmbcjjjjjaaDoor
open Go.RowKit Go.Maps Go.WideMaps Go.ChangeMaps

theorem keyStr : Keyed Tryd.prog 9 := string_keyed Tryd.underlying9

theorem zeroBool (w : World) : (zeroValue 4).run Tryd.prog w = .ok (.bool false) w := by kernel_rfl

/-- Block M is a map that has just these texts. -/
def SeenIn (w : World) (M n : Nat) (seen : List ByteArray) : Prop :=
  ∃ D : DataW Unit, w.ownsMap Tryd.prog 9 (plainElem Tryd.prog 4) M n D ∧ IsMap D ∧ ∀ t : ByteArray, D.atKey (.string t.data.toList) (.lit (.bool false)) = .lit (.bool (hasT t seen))

theorem SeenIn.made (w : World) : SeenIn (w.alloc (.map #[] 0)) w.heap.size 0 [] :=
  ⟨.map [], World.ownsMap_made w _ _ _, isMap_empty, fun _ => rfl⟩

theorem Later.grown {w w' : World} (h : Later w w') (row : Option Nat) : w.grownBy w' row := ⟨h.os, h.tape, h.output, h.size, fun k hk _ => h.block k hk⟩

theorem SeenIn.later {w w' : World} {M n : Nat} {seen : List ByteArray} (h : SeenIn w M n seen) (hl : Later w w') : SeenIn w' M n seen := by
  obtain ⟨D, h1, h2, h3⟩ := h
  exact ⟨D, h1.kept (hl.grown none) (by simp), h2, h3⟩

theorem SeenIn.lt {w : World} {M n : Nat} {seen : List ByteArray} (h : SeenIn w M n seen) : M < w.heap.size := by
  obtain ⟨D, h1, -⟩ := h
  exact h1.lt

set_option maxRecDepth 100000 in
theorem plainElem_bool_inv {v : Value} {x : Bool} {ps : List MemPlace} (h : plainElem (H := Unit) Tryd.prog 4 v = some (.lit (.bool x), ps)) : v = .bool x := by
  unfold plainElem at h
  rw [Tryd.underlying4] at h
  cases v <;> simp at h
  rw [h.1]

theorem SeenIn.lookup {w : World} {M n : Nat} {seen : List ByteArray} (h : SeenIn w M n seen) (t : ByteArray) (ht : t.size ≤ maxLen) :
    (Instr.lookup 80 (.map (some M)) (.string t) false).run Tryd.prog w = .ok (.bool (hasT t seen)) w := by
  obtain ⟨D, h1, h2, h3⟩ := h
  obtain ⟨v, ps, hrun, hv⟩ := h1.lookup keyStr Tryd.underlying80 (zeroBool w) (plainElem_bool Tryd.underlying4 false) (keyOf_string_mk Tryd.underlying9 ht)
  rw [h3] at hv
  rw [hrun, plainElem_bool_inv hv]

theorem hasT_snoc (s t : ByteArray) (L : List ByteArray) : hasT s (L ++ [t]) = (hasT s L || decide (s = t)) := by simp [hasT]

theorem SeenIn.update {w : World} {M n : Nat} {seen : List ByteArray} (h : SeenIn w M n seen) (hn : n < maxLen) (t : ByteArray) (ht : t.size ≤ maxLen) :
    ∃ w', (Instr.mapUpdate 80 (.map (some M)) (.string t) (.bool true)).run Tryd.prog w = .ok () w' ∧ SeenIn w' M (n + 1) (seen ++ [t]) ∧ w.grownBy w' (some M) := by
  obtain ⟨D, h1, h2, h3⟩ := h
  obtain ⟨w', hrun, h4, h5⟩ := h1.update keyStr Tryd.underlying80 hn (keyOf_string_mk Tryd.underlying9 ht) (plainElem_bool Tryd.underlying4 true)
  refine ⟨w', hrun, ⟨_, h4, h2.put _ _, fun s => ?_⟩, h5⟩
  rw [hasT_snoc]
  by_cases e : s = t
  · subst e
    rw [atKey_put_same h2 (k := .string s.data.toList) (keyStr.key (keyOf_string_mk Tryd.underlying9 ht))]
    simp
  · have hne : Lit.string s.data.toList ≠ Lit.string t.data.toList := by
      intro h
      simp only [Lit.string.injEq] at h
      exact e (ByteArray.ext (Array.toList_inj.1 h))
    rw [atKey_put_other hne, h3]
    simp [e]

theorem wpList_seen (w : World) {ops : Array Oper} {rest : List Oper} {o : Oper} {a : Act} {Q : Exit → Act → World → Prop}
    (hg : o.guard = none) (m x v : Operand) (hop : o.op = Op.mapUpdate 80 m x v) {M n : Nat} {seen : List ByteArray} {t : ByteArray}
    (hm : a.eval m = .map (some M)) (hx : a.eval x = .string t) (hv : a.eval v = .bool true) (h : SeenIn w M n seen) (hn : n < maxLen) (ht : t.size ≤ maxLen)
    (hK : ∀ w', SeenIn w' M (n + 1) (seen ++ [t]) → w.grownBy w' (some M) → wpList Tryd.prog ops Q rest (a.put o.dst undef) w') :
    wpList Tryd.prog ops Q (o :: rest) a w := by
  refine wpList_plain hg fun K' hK' => ?_
  obtain ⟨w', hrun, r1, r2⟩ := h.update hn t ht
  unfold Oper.wp
  simp [execOp, hop, hm, hx, hv, hrun, Result.andThen]
  exact hK' _ _ (hK w' r1 r2)

end Go.Proofs.YtegogmbcjjjjjaaDoor

namespace Go.Proofs.YtegogmbcjjjjjaaDoor
open Go.RowKit
set_option linter.unusedVariables false
set_option linter.unusedSimpArgs false

abbrev Thr := List (Ins × List ByteArray)
abbrev Syms := List (Sym × List Int)

/-- What is wrong with one label behind those seen. -/
def labC (seen : List ByteArray) (l : ByteArray) : Int := if rightF l = false then 3 else if hasT l seen = true then 6 else 0
def labsC : List ByteArray → List ByteArray → Int
  | _, [] => 0
  | seen, l :: r => if labC seen l = 0 then labsC (seen ++ [l]) r else labC seen l

theorem labs_drop (seen L : List ByteArray) (i : Nat) (l : ByteArray) (h : L[i]? = some l) :
    labsC (seen ++ L.take i) (L.drop i) = if labC (seen ++ L.take i) l = 0 then labsC (seen ++ L.take (i + 1)) (L.drop (i + 1)) else labC (seen ++ L.take i) l := by
  obtain ⟨hi, ht⟩ := List.getElem?_eq_some_iff.1 h
  rw [List.drop_eq_getElem_cons hi, ht, List.take_add_one, h, ← List.append_assoc]
  rfl

def sizeAt (S : Syms) (k : Int) : Int := match S[k.toNat]? with
  | some s => s.1.size
  | none => 0
/-- What an operand asks of the symbols and doesn't find. -/
def memC (S : Syms) (o : Opd) : Int := if memF o = false then 0 else if (S.length : Int) ≤ o.sym then 7 else if o.kind = 3 ∧ sizeAt S o.sym ≤ o.n then 8 else 0
def opsC (S : Syms) (x : Ins) : Int := if insF x = 0 then (if memC S x.a = 0 then memC S x.b else memC S x.a) else insF x

def stepC (S : Syms) (seen : List ByteArray) (x : Ins × List ByteArray) : Int := if labsC seen x.2 = 0 then opsC S x.1 else labsC seen x.2
def stepsC (S : Syms) : List ByteArray → Thr → Int
  | _, [] => 0
  | seen, x :: r => if stepC S seen x = 0 then stepsC S (seen ++ x.2) r else stepC S seen x

def labelsOf (T : Thr) : List ByteArray := T.flatMap (·.2)

theorem labels_next {T : Thr} {i : Nat} {x : Ins} {L : List ByteArray} (h : T[i]? = some (x, L)) : labelsOf (T.take (i + 1)) = labelsOf (T.take i) ++ L := by
  rw [List.take_add_one, h]
  simp [labelsOf]

theorem steps_drop (S : Syms) (T : Thr) (i : Nat) (x : Ins) (L : List ByteArray) (h : T[i]? = some (x, L)) :
    stepsC S (labelsOf (T.take i)) (T.drop i) = if stepC S (labelsOf (T.take i)) (x, L) = 0 then stepsC S (labelsOf (T.take (i + 1))) (T.drop (i + 1)) else stepC S (labelsOf (T.take i)) (x, L) := by
  obtain ⟨hi, ht⟩ := List.getElem?_eq_some_iff.1 h
  rw [labels_next h, List.drop_eq_getElem_cons hi, ht]
  rfl

def endsF (T : Thr) : Bool := match T.getLast? with
  | none => false
  | some x => decide (x.1.op = 10 ∨ x.1.op = 14)

def jumpsC (all : List ByteArray) : Thr → Int
  | [] => 0
  | x :: r => if jumpsF x.1.op = true ∧ hasT x.1.dest all = false then 7 else jumpsC all r

theorem jumps_drop (all : List ByteArray) (T : Thr) (i : Nat) (x : Ins) (L : List ByteArray) (h : T[i]? = some (x, L)) :
    jumpsC all (T.drop i) = if jumpsF x.op = true ∧ hasT x.dest all = false then 7 else jumpsC all (T.drop (i + 1)) := by
  obtain ⟨hi, ht⟩ := List.getElem?_eq_some_iff.1 h
  rw [List.drop_eq_getElem_cons hi, ht]
  rfl

/-- What is wrong with a thread. -/
def threadC (S : Syms) (T : Thr) : Int :=
  if 4096 < countF T then 10 else if stepsC S [] T = 0 then (if endsF T = true then jumpsC (labelsOf T) T else 9) else stepsC S [] T

def symC (ahead : Syms) (s : Sym × List Int) : Int :=
  if rightF s.1.name = false then 3 else if (ahead.any fun a => decide (a.1.name = s.1.name)) = true then 6 else if s.1.size < 1 ∨ 64 < s.1.size ∨ s.1.size < s.2.length then 5 else 0
def symsC : Syms → Syms → Int
  | _, [] => 0
  | ahead, s :: r => if symC ahead s = 0 then symsC (ahead ++ [s]) r else symC ahead s

theorem syms_drop (S : Syms) (i : Nat) (s : Sym × List Int) (h : S[i]? = some s) :
    symsC (S.take i) (S.drop i) = if symC (S.take i) s = 0 then symsC (S.take (i + 1)) (S.drop (i + 1)) else symC (S.take i) s := by
  obtain ⟨hi, ht⟩ := List.getElem?_eq_some_iff.1 h
  rw [List.drop_eq_getElem_cons hi, ht, List.take_add_one, h]
  rfl

def threadsC (S : Syms) : List Thr → Int
  | [] => 0
  | T :: r => if threadC S T = 0 then threadsC S r else threadC S T

theorem threads_drop (S : Syms) (P : List Thr) (i : Nat) (T : Thr) (h : P[i]? = some T) :
    threadsC S (P.drop i) = if threadC S T = 0 then threadsC S (P.drop (i + 1)) else threadC S T := by
  obtain ⟨hi, ht⟩ := List.getElem?_eq_some_iff.1 h
  rw [List.drop_eq_getElem_cons hi, ht]
  rfl

/-- What is wrong with a program. -/
def checkC (S : Syms) (P : List Thr) : Int :=
  if 64 < S.length ∨ 64 < P.length then 10 else if symsC [] S = 0 then threadsC S P else symsC [] S

/-- Texts of a size that is gone through. -/
structure FineT (T : Thr) : Prop where
  dest : ∀ x ∈ T, x.1.dest.size ≤ 1000
  labels : ∀ x ∈ T, ∀ t ∈ x.2, t.size ≤ 1000
  few : (labelsOf T).length ≤ 1000000

def FineS (S : Syms) : Prop := ∀ s ∈ S, s.1.name.size ≤ 1000

theorem ins_right {x : Ins} (h : insF x = 0) : rowF x = true := by
  unfold insF at h
  split at h
  · cases h
  split at h
  · cases h
  · rename_i _ hr; simpa using hr

theorem opd_sym {o : Opd} (h : opdRightF o = true) (hm : memF o = true) : 0 ≤ o.sym := by
  simp [opdRightF] at h
  simp [memF] at hm
  omega

theorem opd_zero {o : Opd} (h : opdZero o = true) : memF o = false := by
  simp [opdZero] at h
  simp [memF, h.1]

theorem row_syms {x : Ins} (h : insF x = 0) : (memF x.a = true → 0 ≤ x.a.sym) ∧ (memF x.b = true → 0 ≤ x.b.sym) := by
  have hr := ins_right h
  unfold rowF at hr
  split at hr
  · simp at hr
    exact ⟨fun hm => (by rw [opd_zero hr.1.1] at hm; cases hm), fun hm => (by rw [opd_zero hr.1.2] at hm; cases hm)⟩
  split at hr
  · cases hr
  · rename_i _ hn
    simp only [not_or, Bool.not_eq_false] at hn
    exact ⟨opd_sym hn.1, opd_sym hn.2⟩

theorem steps_right {S : Syms} : ∀ (T : Thr) (seen : List ByteArray), stepsC S seen T = 0 → ∀ x ∈ T, insF x.1 = 0
  | [], _, _ => by simp
  | y :: r, seen, h => by
    unfold stepsC at h
    split at h
    · rename_i h0
      intro x hx
      rcases List.mem_cons.1 hx with rfl | hx
      · unfold stepC at h0
        split at h0
        · unfold opsC at h0
          split at h0
          · assumption
          · assumption
        · contradiction
      · exact steps_right r _ h x hx
    · contradiction

/-- The same, by where an instruction leads. -/
def endsV (T : Thr) : Bool := match T.getLast? with
  | none => false
  | some x => !(leadsF x.1).1
def jumpsV (all : List ByteArray) : Thr → Int
  | [] => 0
  | x :: r => if (leadsF x.1).2 = true ∧ hasT x.1.dest all = false then 7 else jumpsV all r

theorem jumpsV_drop (all : List ByteArray) (T : Thr) (i : Nat) (x : Ins) (L : List ByteArray) (h : T[i]? = some (x, L)) :
    jumpsV all (T.drop i) = if (leadsF x).2 = true ∧ hasT x.dest all = false then 7 else jumpsV all (T.drop (i + 1)) := by
  obtain ⟨hi, ht⟩ := List.getElem?_eq_some_iff.1 h
  rw [List.drop_eq_getElem_cons hi, ht]
  rfl

theorem ends_same {T : Thr} (h : ∀ x ∈ T, insF x.1 = 0) : endsV T = endsF T := by
  unfold endsV endsF
  cases h0 : T.getLast? with
  | none => rfl
  | some x =>
    have hx := h x (List.mem_of_getLast? h0)
    simp only [leadsF, hx]
    show (!(if 0 ≠ 0 then (false, false) else _ : Bool × Bool).1) = _
    by_cases h1 : x.1.op = 10 <;> by_cases h2 : x.1.op = 14 <;> simp [h1, h2]

theorem jumps_same {all : List ByteArray} : ∀ {T : Thr}, (∀ x ∈ T, insF x.1 = 0) → jumpsV all T = jumpsC all T
  | [], _ => rfl
  | x :: r, h => by
    unfold jumpsV jumpsC
    rw [jumps_same (fun y hy => h y (List.mem_cons_of_mem _ hy))]
    have hx := h x (List.mem_cons_self ..)
    simp [leadsF, hx]

end Go.Proofs.YtegogmbcjjjjjaaDoor
