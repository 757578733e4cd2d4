/-
  The programs that the statements' own maker makes, as plain lists: which instructions, and which of them have a label. Conditions: as each theorem names them.
-/
import Derived.Test.YtegogmbcjjjjjaaDoorOwnThr
import Derived.Test.YtegogmbcjjjjjaaDoorBookIns
import Derived.Test.YtegogmbcjjjjjaaDoorBookRight
import Derived.Test.YtegogmbcjjjjjaaDoorOpensAct
namespace Go.Proofs.YtegogmbcjjjjjaaDoor
open Go.RowKit Go.WideShapes
set_option linter.unusedVariables false
set_option linter.unusedSimpArgs false

def ActE (_ : World) (x : Act5) (cs : List Value) : Prop := cs = x.list ∧ x.Ok ∧ I64 x.n
def ActRow (w : World) (v : Value) (l : List Act5) : Prop := RowIn 5 ActE w v l
def ActsE (w : World) (l : List Act5) (cs : List Value) : Prop := ∃ v, cs = [v] ∧ ActRow w v l
def ActsRow (w : World) (v : Value) (l : List (List Act5)) : Prop := RowIn 1 ActsE w v l

theorem ActRow.kept {w w' : World} {v : Value} {l : List Act5} (h : ActRow w v l) (hl : CellsKept w w') : ActRow w' v l := RowIn.lift h (fun _ _ _ h => h) hl
theorem ActsRow.kept {w w' : World} {v : Value} {l : List (List Act5)} (h : ActsRow w v l) (hl : CellsKept w w') : ActsRow w' v l := RowIn.lift h (fun _ _ _ ⟨v, h1, h2⟩ => ⟨v, h1, h2.kept hl⟩) hl

theorem ActsRow.get {w : World} {p : Option Addr} {n cap : Nat} {l : List (List Act5)} (h : ActsRow w (.slice p n cap) l) {i : Nat} {a : List Act5} (hi : l[i]? = some a) :
    ∃ g o v, p = some ⟨g, o, none⟩ ∧ ActRow w v a ∧ w.cell? ⟨g, o + i, none⟩ = some v := by
  obtain ⟨g, o, cs, rfl, ⟨v, rfl, h2⟩, h4⟩ := RowIn.get h hi
  refine ⟨g, o, v, rfl, h2, ?_⟩
  have := h4 0 v rfl
  rwa [Nat.mul_one] at this

theorem ActRow.get {w : World} {p : Option Addr} {n cap : Nat} {l : List Act5} (h : ActRow w (.slice p n cap) l) {i : Nat} {x : Act5} (hi : l[i]? = some x) :
    ∃ g o, p = some ⟨g, o, none⟩ ∧ x.Ok ∧ w.cell? ⟨g, o + i * 5, none⟩ = some (.int .i64 x.kind) ∧ w.cell? ⟨g, o + i * 5 + 1, none⟩ = some (.int .i64 x.a) ∧ w.cell? ⟨g, o + i * 5 + 2, none⟩ = some (.int .i64 x.b) ∧ w.cell? ⟨g, o + i * 5 + 3, none⟩ = some (.int .i64 x.c) ∧ w.cell? ⟨g, o + i * 5 + 4, none⟩ = some (.int .i64 x.n) ∧ I64 x.n := by
  obtain ⟨g, o, cs, rfl, ⟨rfl, h2, h3⟩, h4⟩ := RowIn.get h hi
  exact ⟨g, o, rfl, h2, h4 0 _ rfl, h4 1 _ rfl, h4 2 _ rfl, h4 3 _ rfl, h4 4 _ rfl, h3⟩

section
variable {H : Type} {enc : TypeId × Value → H} {W : World} {base : Nat} {spare : Nat → Bool} {held : Bool} {fuel : Nat} {cs : List Value} {y : DataW H × List MemPlace}

theorem cells_acts : Tryd.prog.cellsOf 49 = 1 := by kernel_rfl

theorem trod_acts (h : DataW.trod enc Tryd.prog W base spare held fuel 26 cs = some y) : ∃ v l, cs = [v] ∧ ActsRow W v l := by
  refine trod_row Tryd.underlying26 cells_acts (by omega) (fun n cs z hz => ?_) h
  obtain ⟨v, l, h1, h2⟩ := trod_row (E := ActE) Tryd.underlying49 cells_act (by omega) (fun n cs z hz => by
    obtain ⟨x, h1, h2, h3⟩ := trod_act hz
    exact ⟨x, h1, h2, h3⟩) hz
  exact ⟨l, v, h1, h2⟩

end

/-- The instructions of a thread, without labels. -/
def rawL (acts : List Act5) (n : Nat) : List Ins := (acts.take n).map (fun a => insOf a (n + 1 : Nat)) ++ [bareIns 14 (.slice none 0 0)]

theorem rawL_length {acts : List Act5} {n : Nat} (h : n ≤ acts.length) : (rawL acts n).length = n + 1 := by
  simp [rawL, h]

/-- Which are jumped to by one of the first i. -/
def jumped (R : List Ins) (i j : Nat) : Bool := (R.take i).any fun r => decide (r.dest = labelT j)

theorem jumped_next {R : List Ins} {i : Nat} {r : Ins} (h : R[i]? = some r) (j : Nat) : jumped R (i + 1) j = (jumped R i j || decide (r.dest = labelT j)) := by
  unfold jumped
  rw [List.take_add_one, h]
  simp

theorem reg_ok (k : Int) : (registerO k).Ok := by
  have := pick_bounds k 4 (by omega)
  unfold registerO Opd.Ok I64
  dsimp only
  omega
theorem plain_ok (k n : Int) (hn : I64 n) : (plainO k n).Ok := by
  unfold plainO
  split
  · exact reg_ok _
  · unfold Opd.Ok I64 at *
    dsimp only
    omega
theorem mem_ok (k : Int) : (memoryO k).Ok := by
  have := pick_bounds k 60 (by omega)
  unfold memoryO
  generalize pick k 60 = m at *
  split
  · unfold Opd.Ok I64; dsimp only; omega
  · unfold Opd.Ok I64; dsimp only
    split <;> omega
theorem zero_ok : zeroO.Ok := by unfold zeroO Opd.Ok I64; dsimp only; omega

theorem insOf_ok (x : Act5) (hn : I64 x.n) (many : Nat) : (insOf x many).Ok := by
  have h5 := pick_bounds x.c 5 (by omega)
  have h10 := pick_bounds x.c 10 (by omega)
  have hd : (0 : Nat) ≤ maxLen := Nat.zero_le _
  have h3 : ∀ i, (labelT i).size ≤ maxLen := fun i => by show 3 ≤ _; unfold maxLen; omega
  have two : ∀ (op : Int) (lock : Bool) (a b : Opd), I64 op → a.Ok → b.Ok → (twoI op lock a b).Ok := fun op lock a b ho ha hb => ⟨ho, by unfold twoI I64; dsimp only; omega, ha, hb, hd⟩
  have r := reg_ok
  have m := mem_ok
  have p := fun k => plain_ok k x.n hn
  unfold insOf
  split
  all_goals first
    | exact two _ _ _ _ (by unfold I64; omega) (r _) (p _)
    | exact two _ _ _ _ (by unfold I64; omega) (r _) (m _)
    | exact two _ _ _ _ (by unfold I64; omega) (m _) (p _)
    | exact two _ _ _ _ (by unfold I64; omega) (m _) (r _)
    | exact two _ _ _ _ (by unfold I64; omega) zero_ok zero_ok
    | exact ⟨by unfold I64; dsimp only; omega, by unfold I64; dsimp only; omega, zero_ok, zero_ok, h3 _⟩

/-- The three symbols, and their numbers. -/
def symsCells (b : Nat) : Array Value := #[.string ⟨#[120]⟩, .int .i64 1, .slice none 0 0, .string ⟨#[121]⟩, .int .i64 2, .slice (some ⟨b + 1, 0, none⟩) 1 1, .string ⟨#[122]⟩, .int .i64 1, .slice (some ⟨b + 1 + 1, 0, none⟩) 1 1]
def xyz (b : Nat) : Syms := [(⟨⟨#[120]⟩, 1, .slice none 0 0⟩, []), (⟨⟨#[121]⟩, 2, .slice (some ⟨b + 1, 0, none⟩) 1 1⟩, [1]), (⟨⟨#[122]⟩, 1, .slice (some ⟨b + 1 + 1, 0, none⟩) 1 1⟩, [0])]
structure XYZ (w : World) (b : Nat) : Prop where
  y : w.heap[b + 1]? = some (.cells #[.int .i64 1] 2)
  z : w.heap[b + 1 + 1]? = some (.cells #[.int .i64 0] 2)
  s : w.heap[b + 1 + 1 + 1]? = some (.cells (symsCells b) 42)

theorem XYZ.later {w w' : World} {b : Nat} (h : XYZ w b) (hl : Later w w') : XYZ w' b := ⟨heap_later hl h.y, heap_later hl h.z, heap_later hl h.s⟩

theorem XYZ.owns {w : World} {b : Nat} (h : XYZ w b) : w.ownsRow b 42 3 (.slice (some ⟨b + 1 + 1 + 1, 0, none⟩) 3 3) 3 (flatC symCells (xyz b)) :=
  ⟨rfl, Or.inr ⟨b + 1 + 1 + 1, 3, symsCells b, rfl, by omega, h.s, Nat.le_refl _, by unfold maxLen; omega, rfl, rfl⟩⟩

theorem XYZ.row {w : World} {b : Nat} (h : XYZ w b) : SymRow w (.slice (some ⟨b + 1 + 1 + 1, 0, none⟩) 3 3) (xyz b) :=
  RowIn.of_owns (f := symCells) symCells_len (by omega) rfl h.owns (fun s hs => by
    have z : ∀ n : Int, n = 0 ∨ n = 1 ∨ n = 2 → I64 n := fun n hn => by unfold I64; omega
    have k : ∀ t : ByteArray, t.size = 1 → t.size ≤ maxLen := fun t ht => by unfold maxLen; omega
    simp only [xyz, List.mem_cons, List.not_mem_nil, or_false] at hs
    rcases hs with rfl | rfl | rfl
    · exact ⟨rfl, k _ rfl, z 1 (by omega), RowIn.nil _ _ _⟩
    · exact ⟨rfl, k _ rfl, z 2 (by omega), RowIn.one h.y ⟨rfl, z 1 (by omega)⟩⟩
    · exact ⟨rfl, k _ rfl, z 1 (by omega), RowIn.one h.z ⟨rfl, z 0 (by omega)⟩⟩)

theorem insC_one (x : Ins) (L : List ByteArray) (hl : x.labels = .slice none 0 0) : ∀ u ∈ insC (x, L), u.oneCell' = true := by
  intro u hu
  simp [insC, Ins.cells, hl] at hu
  rcases hu with rfl | rfl | rfl | rfl | rfl | rfl | rfl | rfl | rfl | rfl | rfl | rfl | rfl <;> rfl

/-- The first instructions of a thread. -/
def firstI (acts : List Act5) (n i : Nat) : Thr := (acts.take i).map fun a => (insOf a (n + 1 : Nat), [])

theorem firstI_next {acts : List Act5} {n i : Nat} {a : Act5} (h : acts[i]? = some a) : firstI acts n (i + 1) = firstI acts n i ++ [(insOf a (n + 1 : Nat), [])] := by
  unfold firstI
  rw [List.take_add_one, h]
  simp

theorem firstI_all (acts : List Act5) (n : Nat) : firstI acts n n ++ [bareX 14] = (rawL acts n).map fun r => (r, []) := by
  simp [firstI, rawL, bareX, List.map_map]
  rfl

theorem raw_own {w : World} {N : Nat} {v : Value} {acts : List Act5} {n : Nat} (hn : n ≤ acts.length) (hok : ∀ a ∈ acts, I64 a.n) (h : w.ownsRow N 39 13 v (n + 1) (flatC insC (firstI acts n n ++ [bareX 14]))) : OwnThr w N v ((rawL acts n).map fun r => (r, [])) := by
  refine ⟨?_, fun x hx => ?_⟩
  · rw [List.length_map, rawL_length hn, ← firstI_all]
    exact h
  · rw [← firstI_all] at hx
    rcases List.mem_append.1 hx with hx | hx
    · obtain ⟨a, ha, rfl⟩ := List.mem_map.1 hx
      refine ⟨insOf_ok a (hok a (List.mem_of_mem_take ha)) _, ?_, by simp⟩
      show OwnTexts w N (insOf a (n + 1 : Nat)).labels []
      rw [insOf_labels]
      exact World.ownsRow_nil _ _ _ _
    · simp at hx
      subst hx
      exact ⟨bare_ok _ _ (by unfold I64; omega), World.ownsRow_nil _ _ _ _, by simp [bareX]⟩

theorem wrap_small (n : Int) (h0 : 0 ≤ n) (h1 : n ≤ 1000000) : IntKind.i64.wrap n = n := by
  have e : ∀ n : Int, IntKind.i64.wrap n = if (true && decide (n % 18446744073709551616 ≥ 9223372036854775808)) = true then n % 18446744073709551616 - 18446744073709551616 else n % 18446744073709551616 := fun _ => rfl
  rw [e, if_neg (by simp; omega)]
  omega

/-- In the midst of one jump's marking. -/
def marksAt (R : List Ins) (k : Nat) (d : ByteArray) (j q : Nat) : Bool := jumped R k q || (decide (q < j) && decide (d = labelT q))

theorem marksAt_zero (R : List Ins) (k : Nat) (d : ByteArray) (q : Nat) : marksAt R k d 0 q = jumped R k q := by simp [marksAt]

theorem marksAt_end {R : List Ins} {k : Nat} {r : Ins} (h : R[k]? = some r) {n : Nat} (hn : R.length = n + 1) : ∀ q, q < R.length → marksAt R k r.dest (n + 1) q = jumped R (k + 1) q := by
  intro q hq
  rw [jumped_next h]
  have : decide (q < n + 1) = true := by simp; omega
  simp only [marksAt, this, Bool.true_and]

theorem marksAt_skip {R : List Ins} {k : Nat} {d : ByteArray} {j : Nat} (h : ¬ d = labelT j ∨ jumped R k j = true) : ∀ q, marksAt R k d j q = marksAt R k d (j + 1) q := by
  intro q
  unfold marksAt
  by_cases hq : q = j
  · subst hq
    rcases h with h | h
    · simp [h]
    · simp [h]
  · have : decide (q < j) = decide (q < j + 1) := by rw [decide_eq_decide]; omega
    rw [this]

theorem marksAt_other {R : List Ins} {k : Nat} {d : ByteArray} {j q : Nat} (hq : q ≠ j) : marksAt R k d j q = marksAt R k d (j + 1) q := by
  unfold marksAt
  have : decide (q < j) = decide (q < j + 1) := by rw [decide_eq_decide]; omega
  rw [this]

theorem marksAt_hit {R : List Ins} {k : Nat} {d : ByteArray} {j : Nat} (h : d = labelT j) : marksAt R k d (j + 1) j = true := by
  unfold marksAt
  simp [h]

theorem marksAt_now {R : List Ins} {k : Nat} {d : ByteArray} {j : Nat} : marksAt R k d j j = jumped R k j := by
  unfold marksAt
  simp

theorem jumped_empty {R : List Ins} {k : Nat} {r : Ins} (h : R[k]? = some r) (hd : r.dest = ⟨#[]⟩) (q : Nat) : jumped R k q = jumped R (k + 1) q := by
  rw [jumped_next h, hd]
  have : ¬ (⟨#[]⟩ : ByteArray) = labelT q := fun e => by
    have := congrArg ByteArray.size e
    cases this
  simp [this]

theorem dest_of {R : List Ins} {m : Nat → Bool} {T : Thr} (h : IsThr R m T) {k : Nat} {x r : Ins} {L : List ByteArray} (h1 : T[k]? = some (x, L)) (h2 : R[k]? = some r) : x.dest = r.dest := by
  have := (h.is k x L r h1 h2).1
  simp only [withLabels, Ins.mk.injEq] at this
  exact this.2.2.2.2.2.1

theorem one_text {w : World} {N : Nat} {B : Nat} {s : ByteArray} (hN : N ≤ B) (h : w.heap[B]? = some (.cells #[.string s] 9)) : OwnTexts w N (.slice (some ⟨B, 0, none⟩) 1 1) [s] :=
  ⟨rfl, Or.inr ⟨B, 1, #[.string s], rfl, hN, h, Nat.le_refl _, by unfold maxLen; omega, rfl, rfl⟩⟩

/-- A thread of the made program. -/
structure MadeThr (w : World) (N : Nat) (mn : Nat) (acts : List Act5) (v : Value) (T : Thr) : Prop where
  own : OwnThr w N v T
  is : IsThr (rawL acts (min acts.length mn)) (jumped (rawL acts (min acts.length mn)) (min acts.length mn)) T

structure MadeThrs (w : World) (N : Nat) (mn : Nat) (l : List (List Act5)) (t : Nat) (vs : List Value) (P : List Thr) : Prop where
  vlen : vs.length = t
  plen : P.length = t
  each : ∀ (i : Nat) v T acts, vs[i]? = some v → P[i]? = some T → l[i]? = some acts → MadeThr w N mn acts v T
  apart : ∀ (i j : Nat) v u, vs[i]? = some v → vs[j]? = some u → v.ownBlock = u.ownBlock → i = j

theorem MadeThrs.nil (w : World) (N mn : Nat) (l : List (List Act5)) : MadeThrs w N mn l 0 [] [] := ⟨rfl, rfl, fun i v T acts h => by simp at h, fun i j v u h => by simp at h⟩

theorem MadeThrs.lift {w w' : World} {N mn t : Nat} {l : List (List Act5)} {vs : List Value} {P : List Thr} (h : MadeThrs w N mn l t vs P) (f : ∀ v T, OwnThr w N v T → OwnThr w' N v T) : MadeThrs w' N mn l t vs P :=
  ⟨h.vlen, h.plen, fun i v T acts h1 h2 h3 => ⟨f _ _ (h.each i v T acts h1 h2 h3).own, (h.each i v T acts h1 h2 h3).is⟩, h.apart⟩

theorem MadeThrs.snoc {w : World} {N mn t : Nat} {l : List (List Act5)} {vs : List Value} {P : List Thr} (h : MadeThrs w N mn l t vs P) {acts : List Act5} (ha : l[t]? = some acts) {v : Value} {T : Thr} (hT : MadeThr w N mn acts v T) (hne : ∀ (i : Nat) u, vs[i]? = some u → u.ownBlock ≠ v.ownBlock) : MadeThrs w N mn l (t + 1) (vs ++ [v]) (P ++ [T]) := by
  refine ⟨by simp [h.vlen], by simp [h.plen], fun i u U ac h1 h2 h3 => ?_, fun i j a b h1 h2 e => ?_⟩
  case refine_2 =>
    have key : ∀ (i : Nat) a, (vs ++ [v])[i]? = some a → (i < t ∧ vs[i]? = some a) ∨ (i = t ∧ a = v) := fun i a hi => by
      rcases Nat.lt_or_ge i t with hlt | hge
      · rw [List.getElem?_append_left (by rw [h.vlen]; exact hlt)] at hi
        exact Or.inl ⟨hlt, hi⟩
      · rw [List.getElem?_append_right (by rw [h.vlen]; exact hge), h.vlen] at hi
        have h0 : i - t = 0 := by
          rcases Nat.eq_zero_or_pos (i - t) with h' | h'
          · exact h'
          · rw [List.getElem?_eq_none (by simp; omega)] at hi; cases hi
        rw [h0] at hi
        simp at hi
        exact Or.inr ⟨by omega, hi.symm⟩
    rcases key i a h1 with ⟨hi, ha'⟩ | ⟨hi, ha'⟩
    · rcases key j b h2 with ⟨hj, hb'⟩ | ⟨hj, hb'⟩
      · exact h.apart i j a b ha' hb' e
      · exact absurd (by rw [e, hb']) (hne i a ha')
    · rcases key j b h2 with ⟨hj, hb'⟩ | ⟨hj, hb'⟩
      · exact absurd (by rw [← e, ha']) (hne j b hb')
      · omega
  rcases Nat.lt_or_ge i t with hi | hi
  · rw [List.getElem?_append_left (by rw [h.vlen]; exact hi)] at h1
    rw [List.getElem?_append_left (by rw [h.plen]; exact hi)] at h2
    exact h.each i u U ac h1 h2 h3
  · rw [List.getElem?_append_right (by rw [h.vlen]; exact hi), h.vlen] at h1
    rw [List.getElem?_append_right (by rw [h.plen]; exact hi), h.plen] at h2
    rcases Nat.eq_zero_or_pos (i - t) with h0 | h0
    · have : i = t := by omega
      subst this
      simp at h1 h2
      rw [ha] at h3
      cases h3
      subst h1 h2
      exact hT
    · rw [List.getElem?_eq_none (by simp; omega)] at h1; cases h1

theorem MadeThrs.mono {w : World} {N N' mn t : Nat} {l : List (List Act5)} {vs : List Value} {P : List Thr} (h : MadeThrs w N mn l t vs P) (hN : N' ≤ N) : MadeThrs w N' mn l t vs P :=
  ⟨h.vlen, h.plen, fun i v T acts h1 h2 h3 => ⟨(h.each i v T acts h1 h2 h3).own.mono hN, (h.each i v T acts h1 h2 h3).is⟩, h.apart⟩

/-- A row that was made later is none of the threads' own. -/
theorem fresh_apart {w wr : World} {N mn t N' g n cap : Nat} {l : List (List Act5)} {vs : List Value} {P : List Thr} {T : Thr} (h : MadeThrs w N mn l t vs P) (htl : t ≤ l.length) (hN : w.heap.size ≤ N') (ho : OwnThr wr N' (.slice (some ⟨g, 0, none⟩) n cap) T) :
    ∀ (i : Nat) u, vs[i]? = some u → u.ownBlock ≠ (Value.slice (some ⟨g, 0, none⟩) n cap).ownBlock := by
  intro i u hu e
  have hi : i < t := by rw [← h.vlen]; exact (List.getElem?_eq_some_iff.1 hu).1
  have hP : P[i]? = some (P[i]'(by rw [h.plen]; exact hi)) := List.getElem?_eq_getElem _
  have hl : l[i]? = some (l[i]'(by omega)) := List.getElem?_eq_getElem _
  have h1 := (h.each i u _ _ hu hP hl).own
  have h2 := (ho.1.lt g rfl).1
  have h3 := (h1.1.lt g (by rw [e]; rfl)).2
  omega

/-- Behind one more thread. -/
theorem after_made {w wr w3 : World} {sp mn t : Nat} {l : List (List Act5)} {vs : List Value} {P : List Thr} {tv v v' a : Value} {T : Thr} {acts : List Act5} {o : Obj}
    (hl : Later w wr) (hs : w.heap.size = sp) (hown : wr.ownsRow (sp + 1) 34 1 tv t (flatC oneV vs)) (hB : wr.heap[sp]? = some (.cells #[a, tv] 25)) (hM : MadeThrs wr (sp + 1) mn l t vs P) (ha : l[t]? = some acts) (hT : MadeThr wr (sp + 1) mn acts v T) (hne : ∀ (i : Nat) u, vs[i]? = some u → u.ownBlock ≠ v.ownBlock)
    (hg : (wr.alloc o).grownBy w3 tv.ownBlock) (hown' : w3.ownsRow (sp + 1) 34 1 v' (t + 1) (flatC oneV vs ++ [v])) :
    Aside (Later w w3 ∧ w3.heap[sp]? = some (.cells #[a, tv] 25) ∧ w3.ownsRow (sp + 1) 34 1 v' (t + 1) (flatC oneV (vs ++ [v])) ∧ MadeThrs w3 (sp + 1) mn l (t + 1) (vs ++ [v]) (P ++ [T])) := by
  have LA := Later.alloc (Later.refl wr) o
  have hown2 := hown.alloc o
  have up : ∀ u U, OwnThr wr (sp + 1) u U → OwnThr w3 (sp + 1) u U := fun u U h => (h.later LA).grown hown2 (by decide) (by decide) hg
  refine ⟨?_, ?_, ?_, ?_⟩
  · exact Below.grown (Below.alloc hl hl.size _) hg (by have := hl.size; simp; omega) (fun j hj => by have := (hown.lt _ hj).1; omega)
  · exact other_kept hown2 hg (heap_later LA hB) (fun cs fz e0 => by cases e0)
  · rw [flatC_append, flatC_one]; exact hown'
  · exact (hM.lift up).snoc ha ⟨up _ _ hT.own, hT.is⟩ hne

theorem XYZ.set {w : World} {b j : Nat} {u : Value} (h : XYZ w b) : XYZ (w.setCell ⟨b, j, none⟩ u) b := ⟨set_kept h.y (by omega), set_kept h.z (by omega), set_kept h.s (by omega)⟩

theorem MadeThrs.set {w : World} {N mn t B j : Nat} {u : Value} {l : List (List Act5)} {vs : List Value} {P : List Thr} (h : MadeThrs w N mn l t vs P) {cs : Array Value} (hB : w.heap[B]? = some (.cells cs 25)) : MadeThrs (w.setCell ⟨B, j, none⟩ u) N mn l t vs P :=
  h.lift (fun v T ho => ho.set_other hB (fun cs fz e0 => by cases e0) (fun cs fz e0 => by cases e0) j u)

end Go.Proofs.YtegogmbcjjjjjaaDoor
