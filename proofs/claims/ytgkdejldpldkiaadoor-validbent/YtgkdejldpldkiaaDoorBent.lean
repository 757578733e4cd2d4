/-
  What becomes of a made program of which one thing is another one: threads and symbols that may be bent again; nothing that was in memory ahead of the program turns. Conditions: the program is one that may be bent, the text is short.
-/
import Derived.Test.YtgkdejldpldkiaaDoorBend
import Derived.Test.YtgkdejldpldkiaaDoorJh
import Derived.Test.YtgkdejldpldkiaaDoorMadeRow
import Derived.RegionTactic
import Derived.OwnWalk
import Derived.Deep.CutRange
namespace Go.Proofs.YtgkdejldpldkiaaDoor
open Go.RowKit
set_option linter.unusedVariables false
set_option linter.unusedSimpArgs false

/-- At an append to a row of labels. -/
theorem wpList_append_text {ops : Array Oper} {rest : List Oper} {o : Oper} {a : Act} {Q : Exit → Act → World → Prop} (hgd : o.guard = none) (s x : Operand)
    (ho : o.op = .call { callee := .builtin .append, args := #[s, x], argTypes := #[42, 42] })
    {w : World} {N K n : Nat} {tv : Value} {vs : List Value} {b : Nat} {S : Syms} (hB : Bend w N K tv n vs) (hS : BendS w N b S) {v : Value} {L : List ByteArray} (hs : a.eval s = v) (hv : OwnTexts w N v L) (hL : ∀ t ∈ L, t.size ≤ 1000) (hfew : L.length ≤ 1000) (ad : Addr) (c : Nat) (t : ByteArray) (hx : a.eval x = .slice (some ad) 1 c) (ht : t.size ≤ 1000) (ha : w.cell? ad = some (.string t)) (hN : N ≤ w.heap.size)
    (h : ∀ v' w', OwnTexts w' N v' (L ++ [t]) → Bend w' N K tv n vs → BendS w' N b S → (∀ w0, Later w0 w → w0.heap.size ≤ N → Later w0 w') → (∀ (B : Nat) cs t fz, t ≠ 9 → w.heap[B]? = some (Obj.cells cs t fz) → w'.heap[B]? = some (Obj.cells cs t fz)) → w.heap.size ≤ w'.heap.size → wpList Tryd.prog ops Q rest (a.put o.dst v') w') :
    wpList Tryd.prog ops Q (o :: rest) a w := by
  refine wpList_plain hgd fun _ hK => ?_
  obtain ⟨v', w', hr, h1, h2, h3, h4, h5, h6⟩ := run_append_text hB hS hv hL hfew ad c t ht ha hN o.type
  unfold Oper.wp execOp
  simp only [ho, resolve, invoke, builtin, Sem.run_bind, Sem.run_pure, Result.andThen_ok, List.map_toArray, List.map_cons, List.map_nil, hs, hx, hr]
  exact hK _ _ (h v' w' h1 h2 h3 h4 h5 h6)

theorem Bend.prog {w w' : World} {N K n g : Nat} {tv : Value} {vs : List Value} (h : Bend w N K tv n vs) (ho : OffB g w w') {cur : Array Value} (hg : w.heap[g]? = some (.cells cur 27)) : Bend w' N K tv n vs :=
  ⟨ho.owns h.row (owns_neB h.row hg (by decide)), h.len, h.few, fun i v hv => by
    obtain ⟨T, h1, h2⟩ := h.each i v hv
    exact ⟨T, ⟨ho.owns h1.row (owns_neB h1.row hg (by decide)), fun x hx => ⟨(h1.each x hx).1, ho.owns (h1.each x hx).2.1 (owns_neB (h1.each x hx).2.1 hg (by decide)), (h1.each x hx).2.2⟩⟩, h2⟩⟩

theorem size_set (w : World) (a : Addr) (v : Value) : (w.setCell a v).heap.size = w.heap.size := by simp [World.setCell]

theorem prog_set {w : World} {B : Nat} {a0 a1 : Value} (h : w.heap[B]? = some (.cells #[a0, a1] 27)) (u : Value) : (w.setCell ⟨B, 0, none⟩ u).heap[B]? = some (.cells #[u, a1] 27) := setCell_block h 0 u

theorem prog_stored {w : World} {B : Nat} {a0 a1 : Value} (h : w.heap[B]? = some (.cells #[a0, a1] 27)) (u v : Value) : ((w.setCell ⟨B, 0, none⟩ u).setCell ⟨B, 1, none⟩ v).heap[B]? = some (.cells #[u, v] 27) := setCell_block (setCell_block h 0 u) 1 v

/-- What is told of the world behind. -/
structure BentTo (w w' : World) (N K n b : Nat) (tv : Value) (vs : List Value) (S : Syms) : Prop where
  thr : Bend w' N K tv n vs
  sym : BendS w' N b S
  old : ∀ w0, Later w0 w → w0.heap.size ≤ N → Later w0 w'
  prog : ∀ (B : Nat) cs, w.heap[B]? = some (.cells cs 27) → w'.heap[B]? = some (.cells cs 27)
  size : w.heap.size ≤ w'.heap.size

/-- The same, of a caller's world. -/
structure BentOf (w w' : World) (N K n b : Nat) (tv : Value) (vs : List Value) (S : Syms) : Prop where
  thr : Bend w' N K tv n vs
  sym : BendS w' N b S
  old : ∀ w0, Later w0 w → w0.heap.size ≤ N → Later w0 w'
  size : w.heap.size ≤ w'.heap.size

theorem type_ne {w : World} {B C : Nat} {a b : Array Value} {s t : TypeId} (h : w.heap[B]? = some (.cells a s)) (k : w.heap[C]? = some (.cells b t)) (hne : s ≠ t) : B ≠ C := fun e => by
  subst e
  rw [h] at k
  cases k
  exact hne rfl

theorem prog_off {w w' : World} {g : Nat} (h : OffB g w w') {cur : Array Value} {t : TypeId} (hg : w.heap[g]? = some (.cells cur t)) (ht : 27 ≠ t) {B : Nat} {cs : Array Value} (hB : w.heap[B]? = some (.cells cs 27)) : w'.heap[B]? = some (.cells cs 27) := by
  rw [h B (fun e => by rw [e, hg] at hB; cases hB; exact ht rfl)]
  exact hB

/-- The result's box is written. -/
theorem BentTo.stored {w w' : World} {N K n b : Nat} {tv : Value} {vs : List Value} {S : Syms} (h : BentTo w w' N K n b tv vs S) {B : Nat} {a0 a1 : Value} (hB : w'.heap[B]? = some (.cells #[a0, a1] 27)) (hN : N ≤ B) (hw : w.heap.size ≤ B) (u v : Value) : BentTo w ((w'.setCell ⟨B, 0, none⟩ u).setCell ⟨B, 1, none⟩ v) N K n b tv vs S := by
  have h1 : OffB B w' ((w'.setCell ⟨B, 0, none⟩ u).setCell ⟨B, 1, none⟩ v) := fun C hC => (setCell_other hC 1 v).trans (setCell_other hC 0 u)
  exact ⟨h.thr.prog h1 hB, h.sym.off h1 hB (by decide) (by decide), fun w0 h0 h0' => Later.setCell (Later.setCell (h.old w0 h0 h0') (by omega) 0 u) (by omega) 1 v, fun C cs hC => by
    have hne : C ≠ B := by
      have := lt_block hC
      omega
    rw [h1 C hne]
    exact h.prog C cs hC, by
    have hsz : ((w'.setCell ⟨B, 0, none⟩ u).setCell ⟨B, 1, none⟩ v).heap.size = w'.heap.size := by simp [World.setCell]
    rw [hsz]
    exact h.size⟩

/-- The caller's own box is written. -/
theorem BentTo.stored0 {w w' : World} {N K n b : Nat} {tv : Value} {vs : List Value} {S : Syms} (h : BentTo w w' N K n b tv vs S) {B : Nat} {a0 a1 : Value} (hB : w'.heap[B]? = some (.cells #[a0, a1] 27)) (hN : N ≤ B) (u v : Value) : BentOf w ((w'.setCell ⟨B, 0, none⟩ u).setCell ⟨B, 1, none⟩ v) N K n b tv vs S := by
  have h1 : OffB B w' ((w'.setCell ⟨B, 0, none⟩ u).setCell ⟨B, 1, none⟩ v) := fun C hC => (setCell_other hC 1 v).trans (setCell_other hC 0 u)
  have hsz : ((w'.setCell ⟨B, 0, none⟩ u).setCell ⟨B, 1, none⟩ v).heap.size = w'.heap.size := by simp [World.setCell]
  exact ⟨h.thr.prog h1 hB, h.sym.off h1 hB (by decide) (by decide), fun w0 h0 h0' => Later.setCell (Later.setCell (h.old w0 h0 h0') (by omega) 0 u) (by omega) 1 v, by rw [hsz]; exact h.size⟩

/-- make([]T, n), as one step of a region that draws. -/
theorem step_make_full {ops : Array Oper} {o : Oper} {a : Act} {w : World} {K : Act → World → Prop} {Q : Exit → Act → World → Prop} {E : Prop} (hg : o.guard = none) (l c : Operand) (t : TypeId) (hop : o.op = Op.makeSlice t l c)
    (base : Nat) (e : TypeId) (i : TypeInfo) (z : Value) (size : Nat) (h1 : Tryd.prog.underlying t = some (.slice e)) (h2 : Tryd.prog.info? e = some i) (h3 : i.zero = some z) (h4 : i.size = size)
    (kl kc : IntKind) (L C : Int) (n : Nat) (hl : a.eval l = .int kl L) (hc : a.eval c = .int kc C) (hL : L = (n : Int)) (hC : C = (n : Int)) (b2 : i.bytes * n ≤ 281474976710656) (b3 : n ≤ maxLen) (b4 : base ≤ w.heap.size)
    (hK : ∀ w', w'.ownsRow base e size (.slice (some ⟨w.heap.size, 0, none⟩) n n) n (madeCells z.cells (n * size)).toList → w.grownBy w' none → K (a.put o.dst (.slice (some ⟨w.heap.size, 0, none⟩) n n)) w') :
    if Region.wanted o (yielded ops a.tmps) = true then Oper.wp Tryd.prog o a w K Q else E := by
  have hw : Region.wanted o (yielded ops a.tmps) = true := by simp [Region.wanted, hg]
  rw [if_pos hw]
  obtain ⟨w', hrun, r1, r2⟩ := run_make_full (P := Tryd.prog) w base t e i z size h1 h2 h3 h4 kl kc n b2 b3 b4
  subst hL
  subst hC
  unfold Oper.wp
  simp [execOp, hop, hl, hc, hrun, Result.andThen]
  exact hK w' r1 r2

theorem set_alloc (w : World) (o : Obj) {b : Nat} (hb : b < w.heap.size) (j : Nat) (u : Value) : (w.drew.alloc o).setCell ⟨b, j, none⟩ u = ((w.setCell ⟨b, j, none⟩ u).alloc o).drew := by
  have hne : ¬ w.heap.size = b := by omega
  simp only [World.setCell, World.alloc, World.drew]
  congr 1
  apply Array.ext_getElem?
  intro i
  rw [Array.getElem?_modify, Array.getElem?_push, Array.getElem?_push, Array.size_modify, Array.getElem?_modify]
  by_cases h1 : i = w.heap.size
  · subst h1
    simp [Ne.symm hne]
  · simp [h1]

theorem infoInt : (Tryd.prog.info? 2).map (fun i => (i.zero, i.size, i.bytes)) = some (some (.int .i64 0), 1, 8) := by kernel_rfl

theorem made_zeros : ∀ j, j < 5 → (madeCells (Value.int .i64 0).cells (j * 1)).toList = (List.replicate j (0 : Int)).map (Value.int .i64)
  | 0, _ => by kernel_rfl
  | 1, _ => by kernel_rfl
  | 2, _ => by kernel_rfl
  | 3, _ => by kernel_rfl
  | 4, _ => by kernel_rfl

/-- An instruction is a jump, and has no label any more. -/
theorem Bend.jump {w : World} {N K n : Nat} {tv : Value} {vs : List Value} (h : Bend w N K tv n vs) {k g m cap : Nat} (hv : vs[k]? = some (.slice (some ⟨g, 0, none⟩) m cap)) (i : Nat) :
    Bend ((((((((((((((w).setCell ⟨g, i * 13, none⟩ (.int .i64 10)).setCell ⟨g, i * 13 + 1, none⟩ (.bool false)).setCell ⟨g, i * 13 + 2, none⟩ (.int .i64 0)).setCell ⟨g, i * 13 + 3, none⟩ (.int .i64 0)).setCell ⟨g, i * 13 + 4, none⟩ (.int .i64 0)).setCell ⟨g, i * 13 + 5, none⟩ (.int .i64 0)).setCell ⟨g, i * 13 + 6, none⟩ (.int .i64 0)).setCell ⟨g, i * 13 + 7, none⟩ (.int .i64 0)).setCell ⟨g, i * 13 + 8, none⟩ (.int .i64 0)).setCell ⟨g, i * 13 + 9, none⟩ (.int .i64 0)).setCell ⟨g, i * 13 + 10, none⟩ (.int .i64 0)).setCell ⟨g, i * 13 + 11, none⟩ (.string ⟨#[108, 48, 48]⟩)).setCell ⟨g, i * 13 + 12, none⟩ (.slice none 0 0)) N K tv n vs := by
  have z10 : I64 10 := by unfold I64; omega
  have z0 : I64 0 := by unfold I64; omega
  have s3 : (⟨#[108, 48, 48]⟩ : ByteArray).size ≤ 1000 := by decide
  have h0 := Bend.field h hv i 0 (by omega) (.int .i64 10) (fun x => (⟨10, x.lock, x.cond, ⟨x.a.kind, x.a.reg, x.a.sym, x.a.n⟩, ⟨x.b.kind, x.b.reg, x.b.sym, x.b.n⟩, x.dest, x.labels⟩ : Ins)) (fun x L => rfl) (fun x h => ⟨z10, h.cond, h.a, h.b, h.dest⟩) (fun x h => h) (fun x => rfl)
  have h1 := Bend.field h0 hv i 1 (by omega) (.bool false) (fun x => (⟨x.op, false, x.cond, ⟨x.a.kind, x.a.reg, x.a.sym, x.a.n⟩, ⟨x.b.kind, x.b.reg, x.b.sym, x.b.n⟩, x.dest, x.labels⟩ : Ins)) (fun x L => rfl) (fun x h => ⟨h.op, h.cond, h.a, h.b, h.dest⟩) (fun x h => h) (fun x => rfl)
  have h2 := Bend.field h1 hv i 2 (by omega) (.int .i64 0) (fun x => (⟨x.op, x.lock, 0, ⟨x.a.kind, x.a.reg, x.a.sym, x.a.n⟩, ⟨x.b.kind, x.b.reg, x.b.sym, x.b.n⟩, x.dest, x.labels⟩ : Ins)) (fun x L => rfl) (fun x h => ⟨h.op, z0, h.a, h.b, h.dest⟩) (fun x h => h) (fun x => rfl)
  have h3 := Bend.field h2 hv i 3 (by omega) (.int .i64 0) (fun x => (⟨x.op, x.lock, x.cond, ⟨0, x.a.reg, x.a.sym, x.a.n⟩, ⟨x.b.kind, x.b.reg, x.b.sym, x.b.n⟩, x.dest, x.labels⟩ : Ins)) (fun x L => rfl) (fun x h => ⟨h.op, h.cond, ⟨z0, h.a.2.1, h.a.2.2.1, h.a.2.2.2⟩, h.b, h.dest⟩) (fun x h => h) (fun x => rfl)
  have h4 := Bend.field h3 hv i 4 (by omega) (.int .i64 0) (fun x => (⟨x.op, x.lock, x.cond, ⟨x.a.kind, 0, x.a.sym, x.a.n⟩, ⟨x.b.kind, x.b.reg, x.b.sym, x.b.n⟩, x.dest, x.labels⟩ : Ins)) (fun x L => rfl) (fun x h => ⟨h.op, h.cond, ⟨h.a.1, z0, h.a.2.2.1, h.a.2.2.2⟩, h.b, h.dest⟩) (fun x h => h) (fun x => rfl)
  have h5 := Bend.field h4 hv i 5 (by omega) (.int .i64 0) (fun x => (⟨x.op, x.lock, x.cond, ⟨x.a.kind, x.a.reg, 0, x.a.n⟩, ⟨x.b.kind, x.b.reg, x.b.sym, x.b.n⟩, x.dest, x.labels⟩ : Ins)) (fun x L => rfl) (fun x h => ⟨h.op, h.cond, ⟨h.a.1, h.a.2.1, z0, h.a.2.2.2⟩, h.b, h.dest⟩) (fun x h => h) (fun x => rfl)
  have h6 := Bend.field h5 hv i 6 (by omega) (.int .i64 0) (fun x => (⟨x.op, x.lock, x.cond, ⟨x.a.kind, x.a.reg, x.a.sym, 0⟩, ⟨x.b.kind, x.b.reg, x.b.sym, x.b.n⟩, x.dest, x.labels⟩ : Ins)) (fun x L => rfl) (fun x h => ⟨h.op, h.cond, ⟨h.a.1, h.a.2.1, h.a.2.2.1, z0⟩, h.b, h.dest⟩) (fun x h => h) (fun x => rfl)
  have h7 := Bend.field h6 hv i 7 (by omega) (.int .i64 0) (fun x => (⟨x.op, x.lock, x.cond, ⟨x.a.kind, x.a.reg, x.a.sym, x.a.n⟩, ⟨0, x.b.reg, x.b.sym, x.b.n⟩, x.dest, x.labels⟩ : Ins)) (fun x L => rfl) (fun x h => ⟨h.op, h.cond, h.a, ⟨z0, h.b.2.1, h.b.2.2.1, h.b.2.2.2⟩, h.dest⟩) (fun x h => h) (fun x => rfl)
  have h8 := Bend.field h7 hv i 8 (by omega) (.int .i64 0) (fun x => (⟨x.op, x.lock, x.cond, ⟨x.a.kind, x.a.reg, x.a.sym, x.a.n⟩, ⟨x.b.kind, 0, x.b.sym, x.b.n⟩, x.dest, x.labels⟩ : Ins)) (fun x L => rfl) (fun x h => ⟨h.op, h.cond, h.a, ⟨h.b.1, z0, h.b.2.2.1, h.b.2.2.2⟩, h.dest⟩) (fun x h => h) (fun x => rfl)
  have h9 := Bend.field h8 hv i 9 (by omega) (.int .i64 0) (fun x => (⟨x.op, x.lock, x.cond, ⟨x.a.kind, x.a.reg, x.a.sym, x.a.n⟩, ⟨x.b.kind, x.b.reg, 0, x.b.n⟩, x.dest, x.labels⟩ : Ins)) (fun x L => rfl) (fun x h => ⟨h.op, h.cond, h.a, ⟨h.b.1, h.b.2.1, z0, h.b.2.2.2⟩, h.dest⟩) (fun x h => h) (fun x => rfl)
  have h10 := Bend.field h9 hv i 10 (by omega) (.int .i64 0) (fun x => (⟨x.op, x.lock, x.cond, ⟨x.a.kind, x.a.reg, x.a.sym, x.a.n⟩, ⟨x.b.kind, x.b.reg, x.b.sym, 0⟩, x.dest, x.labels⟩ : Ins)) (fun x L => rfl) (fun x h => ⟨h.op, h.cond, h.a, ⟨h.b.1, h.b.2.1, h.b.2.2.1, z0⟩, h.dest⟩) (fun x h => h) (fun x => rfl)
  have h11 := Bend.field h10 hv i 11 (by omega) (.string ⟨#[108, 48, 48]⟩) (fun x => (⟨x.op, x.lock, x.cond, ⟨x.a.kind, x.a.reg, x.a.sym, x.a.n⟩, ⟨x.b.kind, x.b.reg, x.b.sym, x.b.n⟩, ⟨#[108, 48, 48]⟩, x.labels⟩ : Ins)) (fun x L => rfl) (fun x h => ⟨h.op, h.cond, h.a, h.b, by show (⟨#[108, 48, 48]⟩ : ByteArray).size ≤ maxLen; unfold maxLen; omega⟩) (fun x h => s3) (fun x => rfl)
  exact Bend.cell h11 (Nat.le_refl K) hv i 12 (by omega) (.slice none 0 0) (fun x => withLabels x (.slice none 0 0)) (fun _ => []) (fun x L => insC_labels x _ L []) (fun x hx => ⟨hx.op, hx.cond, hx.a, hx.b, hx.dest⟩) (fun x hx => hx) (fun x L _ _ _ => ⟨World.ownsRow_nil _ _ _ _, by simp, by simp⟩)

theorem one_int {w : World} {N : Nat} {B : Nat} {m : Int} (hN : N ≤ B) (h : w.heap[B]? = some (.cells #[.int .i64 m] 2)) : w.ownsRow N 2 1 (.slice (some ⟨B, 0, none⟩) 1 1) 1 [.int .i64 m] :=
  ⟨rfl, Or.inr ⟨B, 1, #[.int .i64 m], rfl, hN, h, Nat.le_refl _, by unfold maxLen; omega, rfl, rfl⟩⟩

theorem XYZ.bend {w : World} {b : Nat} (h : XYZ w b) : BendS w b (b + 1 + 1 + 1) (xyz b) :=
  ⟨h.owns, rfl, fun s hs => by
    have z : ∀ n : Int, n = 0 ∨ n = 1 ∨ n = 2 → I64 n := fun n hn => by unfold I64; omega
    have k : ∀ t : ByteArray, t.size = 1 → t.size ≤ 1000 := fun t ht => by omega
    simp only [xyz, List.mem_cons, List.not_mem_nil, or_false] at hs
    rcases hs with rfl | rfl | rfl
    · exact ⟨k _ rfl, z 1 (by omega), World.ownsRow_nil _ _ _ _, by simp⟩
    · exact ⟨k _ rfl, z 2 (by omega), one_int (by omega) h.y, by intro n hn; simp only [List.mem_singleton] at hn; exact z n (by omega)⟩
    · exact ⟨k _ rfl, z 1 (by omega), one_int (by omega) h.z, by intro n hn; simp only [List.mem_singleton] at hn; exact z n (by omega)⟩⟩

theorem MadeThrs.bend {w : World} {N mn t : Nat} {l : List (List Act5)} {tv : Value} {vs : List Value} {P : List Thr} (hmn : mn ≤ 6) (ht : t ≤ 3) (htl : t ≤ l.length) (ho : w.ownsRow N 39 1 tv t (flatC oneV vs)) (h : MadeThrs w N mn l t vs P) : Bend w N 1 tv t vs :=
  ⟨ho, h.vlen, ht, fun i v hv => by
    have hi := (List.getElem?_eq_some_iff.1 hv).1
    have hv' := h.vlen
    have hp' := h.plen
    have hP : i < P.length := by omega
    have hl : i < l.length := by omega
    have hmk := h.each i v P[i] l[i] hv (List.getElem?_eq_getElem hP) (List.getElem?_eq_getElem hl)
    have hlen := hmk.is.len
    rw [rawL_length (Nat.min_le_left _ _)] at hlen
    have hmin : min l[i].length mn ≤ mn := Nat.min_le_right _ _
    refine ⟨P[i], hmk.own, by omega, by omega, fun x hx => ?_⟩
    obtain ⟨h1, h2, -⟩ := made_each hmk.is x hx
    exact ⟨by omega, h2⟩⟩

set_option maxRecDepth 1000000 in
set_option maxHeartbeats 16000000 in
theorem bent_any (w : World) (N K n b : Nat) (tv : Value) (vs : List Value) (S : Syms) (hB : Bend w N K tv n vs) (hS : BendS w N b S) (hN : N ≤ w.heap.size) (hK : K ≤ 900) (how k1 k2 : Int) (hh : I64 how) (hk1 : I64 k1) (hk2 : I64 k2) (s : ByteArray) (hs : s.size ≤ 1000) :
    Calls Tryd.prog 12 #[.agg #[.slice (some ⟨b, 0, none⟩) 3 3, tv], .int .i64 how, .int .i64 k1, .int .i64 k2, .string s] w fun e w' => ∃ (m : Nat) (S' : Syms), e = .returned (.agg #[.slice (some ⟨b, 0, none⟩) m 3, tv]) ∧ m ≤ 3 ∧ BentTo w w' N (K + 1) n b tv vs S' := by
  obtain ⟨q0, q1, rfl⟩ := owns_slice hB.row
  obtain ⟨HP, HR⟩ := two_new2 w (.cells #[.slice (some ⟨b, 0, none⟩) 3 3, .slice q0 n q1] 27) (.cells #[.slice none 0 0, .slice none 0 0] 27)
  have LW := Later.alloc (Later.alloc (Later.refl w) (.cells #[.slice (some ⟨b, 0, none⟩) 3 3, .slice q0 n q1] 27)) (.cells #[.slice none 0 0, .slice none 0 0] 27)
  have HB0 : Hid (Bend w N K (.slice q0 n q1) n vs) := hB
  have HS0 : Hid (BendS w N b S) := hS
  have hn3 := hB.few
  have hsz : ((w.alloc (.cells #[.slice (some ⟨b, 0, none⟩) 3 3, .slice q0 n q1] 27)).alloc (.cells #[.slice none 0 0, .slice none 0 0] 27)).heap.size = w.heap.size + 2 := by simp
  have hA0 : w.heap.size ≤ ((w.alloc (.cells #[.slice (some ⟨b, 0, none⟩) 3 3, .slice q0 n q1] 27)).alloc (.cells #[.slice none 0 0, .slice none 0 0] 27)).heap.size := LW.size
  go_enter Tryd.func12, Tryd.ntmps12
  go_upto_region 1 with (fail)
  generalize (w.alloc (.cells #[.slice (some ⟨b, 0, none⟩) 3 3, .slice q0 n q1] 27)).alloc (.cells #[.slice none 0 0, .slice none 0 0] 27) = W at *
  have HL : Hid (∀ w0, Later w0 w → w0.heap.size ≤ N → Later w0 W) := fun w0 h0 _ => h0.trans LW
  have HBW : Hid (Bend W N K (.slice q0 n q1) n vs) := hB.later LW
  have HSW : Hid (BendS W N b S) := hS.later LW
  have HPR : Hid (∀ (B : Nat) cs, w.heap[B]? = some (.cells cs 27) → W.heap[B]? = some (.cells cs 27)) := fun B cs h => heap_later LW h
  generalize hA : w.heap.size = A at *
  have HA : Hid (w.heap.size = A) := hA
  clear hB hS hA
  obtain ⟨e0, e1, -, -⟩ := box2_facts HP
  rcases Nat.eq_zero_or_pos n with rfl | hn
  · obtain ⟨-, -, f0, f1⟩ := box2_facts HR
    obtain ⟨d0, d1, -, -⟩ := box2_facts HR
    have hst := (BentTo.stored (w := w) ⟨HBW.out.more (Nat.le_succ K), HSW.out, HL.out, HPR.out, by rw [HA.out]; omega⟩ HR (by omega) (by rw [HA.out]; omega) (.slice (some ⟨b, 0, none⟩) 3 3) (.slice q0 0 q1))
    obtain ⟨r0, r1, -, -⟩ := box2_facts (prog_stored HR (.slice (some ⟨b, 0, none⟩) 3 3) (.slice q0 0 q1))
    go_wp2
    refine bodyPost_ret (by simp [results, Tryd.results12, go_sem, r0, r1]; try rfl) rfl ?_
    exact ⟨3, S, rfl, by omega, hst⟩
  · obtain ⟨p1, hp1, hp1n⟩ := pick_nat k1 n hn
    have cT : ∀ w', Calls Tryd.prog 22 #[.int .i64 k1, .int .i64 n] w' fun e w'' => e = .returned (.int .i64 (p1 : Nat)) ∧ Later w' w'' := fun w' => (pick_any k1 n hk1 (by omega) w').mono fun e w'' h => ⟨by rw [h.1, hp1], by rw [h.2]; exact Later.refl _⟩
    have hv1 : p1 < vs.length := by rw [HBW.out.len]; exact hp1n
    have hvk : vs[p1]? = some vs[p1] := List.getElem?_eq_getElem hv1
    obtain ⟨T, hT, hT0, hT7, hTs⟩ := HBW.out.each p1 _ hvk
    obtain ⟨g, cap, cur, hgv, hgN, hgc⟩ := hT.block hT0
    obtain ⟨aq, caq, hqs, hcrow⟩ := crow_of_owns (by rw [flatC_length oneV 1 oneV_len, HBW.out.len]) HBW.out.row
    cases hqs
    obtain ⟨gq, rfl⟩ := CRow.some oneV_len (by omega) hcrow hvk
    have hcell := CRow.cell oneV_len hcrow hvk (k := 0) (u := vs[p1]) (by omega) rfl
    rw [Nat.mul_one, Nat.add_zero] at hcell
    generalize vs[p1] = vk at *
    subst hgv
    have HT : Hid (OwnThr W N (.slice (some ⟨g, 0, none⟩) T.length cap) T) := hT
    have HVK : Hid (vs[p1]? = some (.slice (some ⟨g, 0, none⟩) T.length cap)) := hvk
    have HTS : Hid (∀ x ∈ T, x.1.dest.size ≤ 1000 ∧ x.2.length ≤ K) := hTs
    have hp1i : (p1 : Int) < n := by omega
    clear hT hvk hcrow hv1 hTs HB0 HS0
    go_upto_region 3 with (fail)
    have ne : Nonempty (After W) := ⟨⟨W, Later.refl W⟩⟩
    have m1 := fun p : After W => cell_after e1 p
    have m2 := fun p : After W => cell_after hcell p
    clear e0 e1 hcell
    refine wp_region_later (by kernel_rfl) (by kernel_rfl) ?_
    repeat (first | go_big_quiet_step ((first | (go_at_call 22; with_reducible (exact Calls.after_of (cT _))))) | quiet_step ((first | (go_at_call 22; with_reducible (exact Calls.after_of (cT _))))))
    refine wpQuiet_nil ?_
    intro _ hw'
    obtain ⟨z, hw''⟩ := hw'
    subst hw''
    clear m1 m2 ne cT
    have L2 := z.later
    generalize z.world = W2 at *
    have HL2 : Hid (∀ w0, Later w0 w → w0.heap.size ≤ N → Later w0 W2) := fun w0 h0 h1 => (HL.out w0 h0 h1).trans L2
    have HPR2 : Hid (∀ (B : Nat) cs, w.heap[B]? = some (.cells cs 27) → W2.heap[B]? = some (.cells cs 27)) := fun B cs h => heap_later L2 (HPR.out B cs h)
    have HB2 : Hid (Bend W2 N K (.slice (some ⟨gq, 0, none⟩) n q1) n vs) := HBW.out.later L2
    have HS2 : Hid (BendS W2 N b S) := HSW.out.later L2
    have HT2 : Hid (OwnThr W2 N (.slice (some ⟨g, 0, none⟩) T.length cap) T) := HT.out.later L2
    replace hgc := heap_later L2 hgc
    replace HP := heap_later L2 HP
    replace HR := heap_later L2 HR
    have hA2 : A + 2 ≤ W2.heap.size := by rw [← hsz]; exact L2.size
    clear HL HBW HSW HT hsz LW L2 HPR
    obtain ⟨hq1, hq2⟩ : I64 (k1.tdiv 3) := by
      have := Int.mul_tdiv_add_tmod k1 3
      have h1 := Int.tmod_lt_of_pos k1 (show (0 : Int) < 3 by omega)
      have h2 := Int.lt_tmod_of_pos k1 (show (0 : Int) < 3 by omega)
      unfold I64 at *
      omega
    obtain ⟨p2, hp2, hp2n⟩ := pick_nat (k1.tdiv 3) T.length hT0
    obtain ⟨y, hy, hy3⟩ := pick_nat k1 3 (by omega)
    have c2 : ∀ w', Calls Tryd.prog 22 #[.int .i64 (k1.tdiv 3), .int .i64 T.length] w' fun e w'' => e = .returned (.int .i64 (p2 : Nat)) ∧ w'' = w' := fun w' => (pick_any (k1.tdiv 3) T.length ⟨hq1, hq2⟩ (by omega) w').mono fun e w'' h => ⟨by rw [h.1, hp2], h.2⟩
    have c3 : ∀ w', Calls Tryd.prog 22 #[.int .i64 k1, .int .i64 3] w' fun e w'' => e = .returned (.int .i64 (y : Nat)) ∧ w'' = w' := fun w' => (pick_any k1 3 hk1 (by omega) w').mono fun e w'' h => ⟨by rw [h.1]; exact congrArg _ (congrArg _ hy), h.2⟩
    have c4 := fun w' => pick_any how 14 hh (by omega) w'
    obtain ⟨j, hj, hj14⟩ := pick_nat how 14 (by omega)
    rw [show ((14 : Nat) : Int) = 14 from rfl] at hj
    rw [hj] at c4
    obtain ⟨e0, e1, -, -⟩ := box2_facts HP
    obtain ⟨d0, d1, f0, f1⟩ := box2_facts HR
    obtain ⟨⟨x, L⟩, hx⟩ : ∃ x, T[p2]? = some x := ⟨_, List.getElem?_eq_getElem hp2n⟩
    have hxm := List.mem_of_getElem? hx
    have hp2i : (p2 : Int) < T.length := by omega
    have HX : Hid (T[p2]? = some (x, L)) := hx
    clear hx hp1 hp2 hy hj
    rcases (show j = 0 ∨ j = 1 ∨ j = 2 ∨ j = 3 ∨ j = 4 ∨ j = 5 ∨ j = 6 ∨ j = 7 ∨ j = 8 ∨ j = 9 ∨ j = 10 ∨ j = 11 ∨ j = 12 ∨ j = 13 by omega) with rfl | rfl | rfl | rfl | rfl | rfl | rfl | rfl | rfl | rfl | rfl | rfl | rfl | rfl
    · skip
      obtain ⟨x', I, hyx, hy1, hy2, hy3', hy4⟩ := HS2.out.get hy3
      obtain ⟨s0, s1, s2⟩ := HS2.out.cells hyx
      obtain ⟨hbN, curb, hbc⟩ := HS2.out.block
      have hz : W2.frozen? ⟨b, y * 3, none⟩ = false := by simp [World.frozen?, hbc]
      have hs4 := HS2.out.field hyx 0 (by omega) (.string s) (⟨s, x'.size, x'.init⟩ : Sym) I rfl hs hy2 hy3' hy4
      have hoff := off_set W2 b (y * 3 + 0) (.string s)
      have hto : BentTo w (W2.setCell ⟨b, y * 3, none⟩ (.string s)) N (K + 1) n b (.slice (some ⟨gq, 0, none⟩) n q1) vs _ := ⟨(HB2.out.off hoff hbc).more (Nat.le_succ K), hs4, fun w0 h0 h1 => Later.setCell (HL2.out w0 h0 h1) (by omega) _ _, fun B cs h => prog_off hoff hbc (by decide) (HPR2.out B cs h), by rw [size_set, HA.out]; omega⟩
      have hgA : A ≠ b ∧ A + 1 ≠ b := ⟨type_ne HP hbc (by decide), type_ne HR hbc (by decide)⟩
      have HP4 := (setCell_other hgA.1 (y * 3) (.string s)).trans HP
      have HR4 := (setCell_other hgA.2 (y * 3) (.string s)).trans HR
      have hy3i : (y : Int) < 3 := by omega
      clear hs4 hoff HP HR hgA hbc
      go_upto_region 33 with (go_at_call 22; apply Calls.mono; (focus (with_reducible (first | exact c2 _ | exact c3 _ | exact c4 _))); rintro e wn ⟨rfl, hr⟩; obtain rfl := hr.symm)
      generalize W2.setCell ⟨b, y * 3, none⟩ (.string s) = W4 at *
      clear e0 e1 d0 d1 f0 f1
      obtain ⟨e0, e1, -, -⟩ := box2_facts HP4
      obtain ⟨d0, d1, f0, f1⟩ := box2_facts HR4
      have hst := hto.stored HR4 (by omega) (by rw [HA.out]; omega) (.slice (some ⟨b, 0, none⟩) 3 3) (.slice (some ⟨gq, 0, none⟩) n q1)
      obtain ⟨r0, r1, -, -⟩ := box2_facts (prog_stored HR4 (.slice (some ⟨b, 0, none⟩) 3 3) (.slice (some ⟨gq, 0, none⟩) n q1))
      clear HP4 HR4 hto
      go_wp2
      refine bodyPost_ret (by simp [results, Tryd.results12, go_sem, r0, r1]; try rfl) rfl ?_
      first | exact ⟨3, _, rfl, by omega, hst⟩ | exact ⟨_, rfl, by omega, hst⟩ | exact ⟨3, rfl, by omega, _, hst⟩
    · skip
      obtain ⟨x', I, hyx, hy1, hy2, hy3', hy4⟩ := HS2.out.get hy3
      obtain ⟨s0, s1, s2⟩ := HS2.out.cells hyx
      obtain ⟨hbN, curb, hbc⟩ := HS2.out.block
      have hz : W2.frozen? ⟨b, y * 3 + 1, none⟩ = false := by simp [World.frozen?, hbc]
      have hs4 := HS2.out.field hyx 1 (by omega) (.int .i64 k2) (⟨x'.name, k2, x'.init⟩ : Sym) I rfl hy1 hk2 hy3' hy4
      have hoff := off_set W2 b (y * 3 + 1) (.int .i64 k2)
      have hto : BentTo w (W2.setCell ⟨b, y * 3 + 1, none⟩ (.int .i64 k2)) N (K + 1) n b (.slice (some ⟨gq, 0, none⟩) n q1) vs _ := ⟨(HB2.out.off hoff hbc).more (Nat.le_succ K), hs4, fun w0 h0 h1 => Later.setCell (HL2.out w0 h0 h1) (by omega) _ _, fun B cs h => prog_off hoff hbc (by decide) (HPR2.out B cs h), by rw [size_set, HA.out]; omega⟩
      have hgA : A ≠ b ∧ A + 1 ≠ b := ⟨type_ne HP hbc (by decide), type_ne HR hbc (by decide)⟩
      have HP4 := (setCell_other hgA.1 (y * 3 + 1) (.int .i64 k2)).trans HP
      have HR4 := (setCell_other hgA.2 (y * 3 + 1) (.int .i64 k2)).trans HR
      have hy3i : (y : Int) < 3 := by omega
      clear hs4 hoff HP HR hgA hbc
      go_upto_region 33 with (go_at_call 22; apply Calls.mono; (focus (with_reducible (first | exact c2 _ | exact c3 _ | exact c4 _))); rintro e wn ⟨rfl, hr⟩; obtain rfl := hr.symm)
      generalize W2.setCell ⟨b, y * 3 + 1, none⟩ (.int .i64 k2) = W4 at *
      clear e0 e1 d0 d1 f0 f1
      obtain ⟨e0, e1, -, -⟩ := box2_facts HP4
      obtain ⟨d0, d1, f0, f1⟩ := box2_facts HR4
      have hst := hto.stored HR4 (by omega) (by rw [HA.out]; omega) (.slice (some ⟨b, 0, none⟩) 3 3) (.slice (some ⟨gq, 0, none⟩) n q1)
      obtain ⟨r0, r1, -, -⟩ := box2_facts (prog_stored HR4 (.slice (some ⟨b, 0, none⟩) 3 3) (.slice (some ⟨gq, 0, none⟩) n q1))
      clear HP4 HR4 hto
      go_wp2
      refine bodyPost_ret (by simp [results, Tryd.results12, go_sem, r0, r1]; try rfl) rfl ?_
      first | exact ⟨3, _, rfl, by omega, hst⟩ | exact ⟨_, rfl, by omega, hst⟩ | exact ⟨3, rfl, by omega, _, hst⟩
    · skip
      obtain ⟨x', I, hyx, hy1, hy2, hy3', hy4⟩ := HS2.out.get hy3
      obtain ⟨s0, s1, s2⟩ := HS2.out.cells hyx
      obtain ⟨hbN, curb, hbc⟩ := HS2.out.block
      have hz : W2.frozen? ⟨b, y * 3, none⟩ = false := by simp [World.frozen?, hbc]
      have hs4 := HS2.out.field hyx 0 (by omega) (.string ⟨#[120]⟩) (⟨⟨#[120]⟩, x'.size, x'.init⟩ : Sym) I rfl (by show (⟨#[120]⟩ : ByteArray).size ≤ 1000; decide) hy2 hy3' hy4
      have hoff := off_set W2 b (y * 3 + 0) (.string ⟨#[120]⟩)
      have hto : BentTo w (W2.setCell ⟨b, y * 3, none⟩ (.string ⟨#[120]⟩)) N (K + 1) n b (.slice (some ⟨gq, 0, none⟩) n q1) vs _ := ⟨(HB2.out.off hoff hbc).more (Nat.le_succ K), hs4, fun w0 h0 h1 => Later.setCell (HL2.out w0 h0 h1) (by omega) _ _, fun B cs h => prog_off hoff hbc (by decide) (HPR2.out B cs h), by rw [size_set, HA.out]; omega⟩
      have hgA : A ≠ b ∧ A + 1 ≠ b := ⟨type_ne HP hbc (by decide), type_ne HR hbc (by decide)⟩
      have HP4 := (setCell_other hgA.1 (y * 3) (.string ⟨#[120]⟩)).trans HP
      have HR4 := (setCell_other hgA.2 (y * 3) (.string ⟨#[120]⟩)).trans HR
      have hy3i : (y : Int) < 3 := by omega
      clear hs4 hoff HP HR hgA hbc
      go_upto_region 33 with (go_at_call 22; apply Calls.mono; (focus (with_reducible (first | exact c2 _ | exact c3 _ | exact c4 _))); rintro e wn ⟨rfl, hr⟩; obtain rfl := hr.symm)
      generalize W2.setCell ⟨b, y * 3, none⟩ (.string ⟨#[120]⟩) = W4 at *
      clear e0 e1 d0 d1 f0 f1
      obtain ⟨e0, e1, -, -⟩ := box2_facts HP4
      obtain ⟨d0, d1, f0, f1⟩ := box2_facts HR4
      have hst := hto.stored HR4 (by omega) (by rw [HA.out]; omega) (.slice (some ⟨b, 0, none⟩) 3 3) (.slice (some ⟨gq, 0, none⟩) n q1)
      obtain ⟨r0, r1, -, -⟩ := box2_facts (prog_stored HR4 (.slice (some ⟨b, 0, none⟩) 3 3) (.slice (some ⟨gq, 0, none⟩) n q1))
      clear HP4 HR4 hto
      go_wp2
      refine bodyPost_ret (by simp [results, Tryd.results12, go_sem, r0, r1]; try rfl) rfl ?_
      first | exact ⟨3, _, rfl, by omega, hst⟩ | exact ⟨_, rfl, by omega, hst⟩ | exact ⟨3, rfl, by omega, _, hst⟩
    · skip
      obtain ⟨j5, hj5, hj5n⟩ := pick_nat k2 5 (by omega)
      rw [show ((5 : Nat) : Int) = 5 from rfl] at hj5
      have c5 := fun w' => pick_any k2 5 hk2 (by omega) w'
      rw [hj5] at c5
      have hi5 : I64 (j5 : Int) := by unfold I64; omega
      obtain ⟨x', I, hyx, hy1, hy2, hy3', hy4⟩ := HS2.out.get hy3
      obtain ⟨s0, s1, s2⟩ := HS2.out.cells hyx
      obtain ⟨hbN, curb, hbc⟩ := HS2.out.block
      have HPd : W2.drew.heap[A]? = some (.cells #[.slice (some ⟨b, 0, none⟩) 3 3, .slice (some ⟨gq, 0, none⟩) n q1] 27) := HP
      have Ld := Later.drew (Later.refl W2)
      have HYX : Hid (S[y]? = some (x', I)) := hyx
      have hbc0 : W2.drew.heap[b]? = some (.cells curb 47) := hbc
      have hy3i : (y : Int) < 3 := by omega
      have s2d : W2.drew.cell? ⟨b, y * 3 + 2, none⟩ = some x'.init := s2
      go_upto_region 14 with (go_at_call 22; apply Calls.mono; (focus (with_reducible (first | exact c2 _ | exact c3 _ | exact c4 _))); rintro e wn ⟨rfl, hr⟩; obtain rfl := hr.symm)
      clear e0 e1 d0 d1 f0 f1 hyx s0 s1 hj5
      have KS3 : Hid (W2.drew.heap.size = W2.heap.size) := rfl
      rcases (show j5 = 0 ∨ j5 = 1 ∨ j5 = 2 ∨ j5 = 3 ∨ j5 = 4 by omega) with rfl | rfl | rfl | rfl | rfl
      · have hms : ∀ w : World, (Instr.makeSlice 45 (.int .i64 0) (.int .i64 0)).run Tryd.prog w = .ok (.slice (some ⟨w.heap.size, 0, none⟩) 0 0) (w.alloc (.cells #[] 2)) := fun w => by kernel_rfl
        rw [show ((0 : Nat) : Int) = 0 from rfl] at c5
        have L23 : Later W2 (W2.drew.alloc (.cells #[] 2)) := Later.alloc Ld _
        have hnew : (W2.drew.alloc (.cells #[] 2)).heap[W2.heap.size]? = some (.cells #[] 2) := at_new W2.drew _
        have hown3 : (W2.drew.alloc (.cells #[] 2)).ownsRow N 2 1 (.slice (some ⟨W2.heap.size, 0, none⟩) 0 0) 0 ((List.replicate 0 (0 : Int)).map (Value.int .i64)) := ⟨rfl, Or.inr ⟨W2.heap.size, 0, #[], rfl, by omega, hnew, Nat.le_refl _, by unfold maxLen; omega, rfl, rfl⟩⟩
        have hbc3 := heap_later (Later.alloc (Later.refl W2.drew) (.cells #[] 2)) hbc0
        obtain ⟨e0, e1, -, -⟩ := box2_facts HPd
        obtain ⟨g0, g1, -, -⟩ := box2_facts (heap_later (Later.alloc (Later.refl W2.drew) (.cells #[] 2)) HPd)
        have g2 := cell_later s2d (Later.alloc (Later.refl W2.drew) (.cells #[] 2))
        have gz : (W2.drew.alloc (.cells #[] 2)).frozen? ⟨b, y * 3 + 2, none⟩ = false := (by simp only [World.frozen?, hbc3]; rfl)
        have hs4 := (HS2.out.later L23).field HYX.out 2 (by omega) (.slice (some ⟨W2.heap.size, 0, none⟩) 0 0) (⟨x'.name, x'.size, (.slice (some ⟨W2.heap.size, 0, none⟩) 0 0)⟩ : Sym) (List.replicate 0 0) rfl hy1 hy2 (by rw [List.length_replicate]; exact hown3) (fun n hn => by rw [(List.mem_replicate.1 hn).2]; unfold I64; omega)
        have hoff := off_set (W2.drew.alloc (.cells #[] 2)) b (y * 3 + 2) (.slice (some ⟨W2.heap.size, 0, none⟩) 0 0)
        have hto : BentTo w ((W2.drew.alloc (.cells #[] 2)).setCell ⟨b, y * 3 + 2, none⟩ (.slice (some ⟨W2.heap.size, 0, none⟩) 0 0)) N (K + 1) n b (.slice (some ⟨gq, 0, none⟩) n q1) vs _ := ⟨((HB2.out.later L23).off hoff hbc3).more (Nat.le_succ K), hs4, fun w0 h0 h1 => Later.setCell ((HL2.out w0 h0 h1).trans L23) (by omega) _ _, fun B cs h => prog_off hoff hbc3 (by decide) (heap_later L23 (HPR2.out B cs h)), by rw [size_set, HA.out]; have := L23.size; omega⟩
        have HP4 := (hoff A (type_ne HP hbc (by decide))).trans (heap_later L23 HP)
        have HR4 := (hoff (A + 1) (type_ne HR hbc (by decide))).trans (heap_later L23 HR)
        have hblt := lt_block hbc
        rw [set_alloc W2 _ hblt] at hto HP4 HR4
        have hAlt := lt_block HP
        have hAne : ¬ A = W2.heap.size := by omega
        have hAne' : ¬ W2.heap.size = A := by omega
        obtain ⟨q2, q3, -, -⟩ := box2_facts HP
        have hbne : ¬ b = W2.heap.size := by omega
        have hbne' : ¬ W2.heap.size = b := by omega
        have hzz : W2.frozen? ⟨b, y * 3 + 2, none⟩ = false := by simp [World.frozen?, hbc]
        have hzd : W2.drew.frozen? ⟨b, y * 3 + 2, none⟩ = false := hzz
        have KTO : PLift _ := ⟨hto⟩
        have KP4 : PLift _ := ⟨HP4⟩
        have KR4 : PLift _ := ⟨HR4⟩
        clear hs4 hoff HP HR hbc hown3 hbc3 hto HP4 HR4 hnew HPd L23
        go_region_with (go_at_call 22; apply Calls.mono; (focus (with_reducible (exact c5 _))); rintro e wn ⟨rfl, hr⟩; obtain rfl := hr.symm)
        all_goals
          have hto := KTO.down
          have HP4 := KP4.down
          have HR4 := KR4.down
          clear KTO KP4 KR4 e0 e1 g0 g1 g2 gz s2 s2d hzz hzd hblt hbne hbne' hAlt hAne hAne' q2 q3
          generalize ((W2.setCell ⟨b, y * 3 + 2, none⟩ (.slice (some ⟨W2.heap.size, 0, none⟩) 0 0)).alloc (.cells #[] 2)).drew = W4 at *
          obtain ⟨e0, e1, -, -⟩ := box2_facts HP4
          obtain ⟨d0, d1, f0, f1⟩ := box2_facts HR4
          have hst := hto.stored HR4 (by omega) (by rw [HA.out]; omega) (.slice (some ⟨b, 0, none⟩) 3 3) (.slice (some ⟨gq, 0, none⟩) n q1)
          obtain ⟨r0, r1, -, -⟩ := box2_facts (prog_stored HR4 (.slice (some ⟨b, 0, none⟩) 3 3) (.slice (some ⟨gq, 0, none⟩) n q1))
          clear HP4 HR4 hto
          go_wp2
          refine bodyPost_ret (by simp [results, Tryd.results12, go_sem, r0, r1]; try rfl) rfl ?_
          first | exact ⟨3, _, rfl, by omega, hst⟩ | exact ⟨_, rfl, by omega, hst⟩ | exact ⟨3, rfl, by omega, _, hst⟩
      · have hms : ∀ w : World, (Instr.makeSlice 45 (.int .i64 1) (.int .i64 1)).run Tryd.prog w = .ok (.slice (some ⟨w.heap.size, 0, none⟩) 1 1) (w.alloc (.cells #[.int .i64 0] 2)) := fun w => by kernel_rfl
        rw [show ((1 : Nat) : Int) = 1 from rfl] at c5
        have L23 : Later W2 (W2.drew.alloc (.cells #[.int .i64 0] 2)) := Later.alloc Ld _
        have hnew : (W2.drew.alloc (.cells #[.int .i64 0] 2)).heap[W2.heap.size]? = some (.cells #[.int .i64 0] 2) := at_new W2.drew _
        have hown3 : (W2.drew.alloc (.cells #[.int .i64 0] 2)).ownsRow N 2 1 (.slice (some ⟨W2.heap.size, 0, none⟩) 1 1) 1 ((List.replicate 1 (0 : Int)).map (Value.int .i64)) := ⟨rfl, Or.inr ⟨W2.heap.size, 1, #[.int .i64 0], rfl, by omega, hnew, Nat.le_refl _, by unfold maxLen; omega, rfl, rfl⟩⟩
        have hbc3 := heap_later (Later.alloc (Later.refl W2.drew) (.cells #[.int .i64 0] 2)) hbc0
        obtain ⟨e0, e1, -, -⟩ := box2_facts HPd
        obtain ⟨g0, g1, -, -⟩ := box2_facts (heap_later (Later.alloc (Later.refl W2.drew) (.cells #[.int .i64 0] 2)) HPd)
        have g2 := cell_later s2d (Later.alloc (Later.refl W2.drew) (.cells #[.int .i64 0] 2))
        have gz : (W2.drew.alloc (.cells #[.int .i64 0] 2)).frozen? ⟨b, y * 3 + 2, none⟩ = false := (by simp only [World.frozen?, hbc3]; rfl)
        have hs4 := (HS2.out.later L23).field HYX.out 2 (by omega) (.slice (some ⟨W2.heap.size, 0, none⟩) 1 1) (⟨x'.name, x'.size, (.slice (some ⟨W2.heap.size, 0, none⟩) 1 1)⟩ : Sym) (List.replicate 1 0) rfl hy1 hy2 (by rw [List.length_replicate]; exact hown3) (fun n hn => by rw [(List.mem_replicate.1 hn).2]; unfold I64; omega)
        have hoff := off_set (W2.drew.alloc (.cells #[.int .i64 0] 2)) b (y * 3 + 2) (.slice (some ⟨W2.heap.size, 0, none⟩) 1 1)
        have hto : BentTo w ((W2.drew.alloc (.cells #[.int .i64 0] 2)).setCell ⟨b, y * 3 + 2, none⟩ (.slice (some ⟨W2.heap.size, 0, none⟩) 1 1)) N (K + 1) n b (.slice (some ⟨gq, 0, none⟩) n q1) vs _ := ⟨((HB2.out.later L23).off hoff hbc3).more (Nat.le_succ K), hs4, fun w0 h0 h1 => Later.setCell ((HL2.out w0 h0 h1).trans L23) (by omega) _ _, fun B cs h => prog_off hoff hbc3 (by decide) (heap_later L23 (HPR2.out B cs h)), by rw [size_set, HA.out]; have := L23.size; omega⟩
        have HP4 := (hoff A (type_ne HP hbc (by decide))).trans (heap_later L23 HP)
        have HR4 := (hoff (A + 1) (type_ne HR hbc (by decide))).trans (heap_later L23 HR)
        have hblt := lt_block hbc
        rw [set_alloc W2 _ hblt] at hto HP4 HR4
        have hAlt := lt_block HP
        have hAne : ¬ A = W2.heap.size := by omega
        have hAne' : ¬ W2.heap.size = A := by omega
        obtain ⟨q2, q3, -, -⟩ := box2_facts HP
        have hbne : ¬ b = W2.heap.size := by omega
        have hbne' : ¬ W2.heap.size = b := by omega
        have hzz : W2.frozen? ⟨b, y * 3 + 2, none⟩ = false := by simp [World.frozen?, hbc]
        have hzd : W2.drew.frozen? ⟨b, y * 3 + 2, none⟩ = false := hzz
        have KTO : PLift _ := ⟨hto⟩
        have KP4 : PLift _ := ⟨HP4⟩
        have KR4 : PLift _ := ⟨HR4⟩
        clear hs4 hoff HP HR hbc hown3 hbc3 hto HP4 HR4 hnew HPd L23
        go_region_with (go_at_call 22; apply Calls.mono; (focus (with_reducible (exact c5 _))); rintro e wn ⟨rfl, hr⟩; obtain rfl := hr.symm)
        all_goals
          have hto := KTO.down
          have HP4 := KP4.down
          have HR4 := KR4.down
          clear KTO KP4 KR4 e0 e1 g0 g1 g2 gz s2 s2d hzz hzd hblt hbne hbne' hAlt hAne hAne' q2 q3
          generalize ((W2.setCell ⟨b, y * 3 + 2, none⟩ (.slice (some ⟨W2.heap.size, 0, none⟩) 1 1)).alloc (.cells #[.int .i64 0] 2)).drew = W4 at *
          obtain ⟨e0, e1, -, -⟩ := box2_facts HP4
          obtain ⟨d0, d1, f0, f1⟩ := box2_facts HR4
          have hst := hto.stored HR4 (by omega) (by rw [HA.out]; omega) (.slice (some ⟨b, 0, none⟩) 3 3) (.slice (some ⟨gq, 0, none⟩) n q1)
          obtain ⟨r0, r1, -, -⟩ := box2_facts (prog_stored HR4 (.slice (some ⟨b, 0, none⟩) 3 3) (.slice (some ⟨gq, 0, none⟩) n q1))
          clear HP4 HR4 hto
          go_wp2
          refine bodyPost_ret (by simp [results, Tryd.results12, go_sem, r0, r1]; try rfl) rfl ?_
          first | exact ⟨3, _, rfl, by omega, hst⟩ | exact ⟨_, rfl, by omega, hst⟩ | exact ⟨3, rfl, by omega, _, hst⟩
      · have hms : ∀ w : World, (Instr.makeSlice 45 (.int .i64 2) (.int .i64 2)).run Tryd.prog w = .ok (.slice (some ⟨w.heap.size, 0, none⟩) 2 2) (w.alloc (.cells #[.int .i64 0, .int .i64 0] 2)) := fun w => by kernel_rfl
        rw [show ((2 : Nat) : Int) = 2 from rfl] at c5
        have L23 : Later W2 (W2.drew.alloc (.cells #[.int .i64 0, .int .i64 0] 2)) := Later.alloc Ld _
        have hnew : (W2.drew.alloc (.cells #[.int .i64 0, .int .i64 0] 2)).heap[W2.heap.size]? = some (.cells #[.int .i64 0, .int .i64 0] 2) := at_new W2.drew _
        have hown3 : (W2.drew.alloc (.cells #[.int .i64 0, .int .i64 0] 2)).ownsRow N 2 1 (.slice (some ⟨W2.heap.size, 0, none⟩) 2 2) 2 ((List.replicate 2 (0 : Int)).map (Value.int .i64)) := ⟨rfl, Or.inr ⟨W2.heap.size, 2, #[.int .i64 0, .int .i64 0], rfl, by omega, hnew, Nat.le_refl _, by unfold maxLen; omega, rfl, rfl⟩⟩
        have hbc3 := heap_later (Later.alloc (Later.refl W2.drew) (.cells #[.int .i64 0, .int .i64 0] 2)) hbc0
        obtain ⟨e0, e1, -, -⟩ := box2_facts HPd
        obtain ⟨g0, g1, -, -⟩ := box2_facts (heap_later (Later.alloc (Later.refl W2.drew) (.cells #[.int .i64 0, .int .i64 0] 2)) HPd)
        have g2 := cell_later s2d (Later.alloc (Later.refl W2.drew) (.cells #[.int .i64 0, .int .i64 0] 2))
        have gz : (W2.drew.alloc (.cells #[.int .i64 0, .int .i64 0] 2)).frozen? ⟨b, y * 3 + 2, none⟩ = false := (by simp only [World.frozen?, hbc3]; rfl)
        have hs4 := (HS2.out.later L23).field HYX.out 2 (by omega) (.slice (some ⟨W2.heap.size, 0, none⟩) 2 2) (⟨x'.name, x'.size, (.slice (some ⟨W2.heap.size, 0, none⟩) 2 2)⟩ : Sym) (List.replicate 2 0) rfl hy1 hy2 (by rw [List.length_replicate]; exact hown3) (fun n hn => by rw [(List.mem_replicate.1 hn).2]; unfold I64; omega)
        have hoff := off_set (W2.drew.alloc (.cells #[.int .i64 0, .int .i64 0] 2)) b (y * 3 + 2) (.slice (some ⟨W2.heap.size, 0, none⟩) 2 2)
        have hto : BentTo w ((W2.drew.alloc (.cells #[.int .i64 0, .int .i64 0] 2)).setCell ⟨b, y * 3 + 2, none⟩ (.slice (some ⟨W2.heap.size, 0, none⟩) 2 2)) N (K + 1) n b (.slice (some ⟨gq, 0, none⟩) n q1) vs _ := ⟨((HB2.out.later L23).off hoff hbc3).more (Nat.le_succ K), hs4, fun w0 h0 h1 => Later.setCell ((HL2.out w0 h0 h1).trans L23) (by omega) _ _, fun B cs h => prog_off hoff hbc3 (by decide) (heap_later L23 (HPR2.out B cs h)), by rw [size_set, HA.out]; have := L23.size; omega⟩
        have HP4 := (hoff A (type_ne HP hbc (by decide))).trans (heap_later L23 HP)
        have HR4 := (hoff (A + 1) (type_ne HR hbc (by decide))).trans (heap_later L23 HR)
        have hblt := lt_block hbc
        rw [set_alloc W2 _ hblt] at hto HP4 HR4
        have hAlt := lt_block HP
        have hAne : ¬ A = W2.heap.size := by omega
        have hAne' : ¬ W2.heap.size = A := by omega
        obtain ⟨q2, q3, -, -⟩ := box2_facts HP
        have hbne : ¬ b = W2.heap.size := by omega
        have hbne' : ¬ W2.heap.size = b := by omega
        have hzz : W2.frozen? ⟨b, y * 3 + 2, none⟩ = false := by simp [World.frozen?, hbc]
        have hzd : W2.drew.frozen? ⟨b, y * 3 + 2, none⟩ = false := hzz
        have KTO : PLift _ := ⟨hto⟩
        have KP4 : PLift _ := ⟨HP4⟩
        have KR4 : PLift _ := ⟨HR4⟩
        clear hs4 hoff HP HR hbc hown3 hbc3 hto HP4 HR4 hnew HPd L23
        go_region_with (go_at_call 22; apply Calls.mono; (focus (with_reducible (exact c5 _))); rintro e wn ⟨rfl, hr⟩; obtain rfl := hr.symm)
        all_goals
          have hto := KTO.down
          have HP4 := KP4.down
          have HR4 := KR4.down
          clear KTO KP4 KR4 e0 e1 g0 g1 g2 gz s2 s2d hzz hzd hblt hbne hbne' hAlt hAne hAne' q2 q3
          generalize ((W2.setCell ⟨b, y * 3 + 2, none⟩ (.slice (some ⟨W2.heap.size, 0, none⟩) 2 2)).alloc (.cells #[.int .i64 0, .int .i64 0] 2)).drew = W4 at *
          obtain ⟨e0, e1, -, -⟩ := box2_facts HP4
          obtain ⟨d0, d1, f0, f1⟩ := box2_facts HR4
          have hst := hto.stored HR4 (by omega) (by rw [HA.out]; omega) (.slice (some ⟨b, 0, none⟩) 3 3) (.slice (some ⟨gq, 0, none⟩) n q1)
          obtain ⟨r0, r1, -, -⟩ := box2_facts (prog_stored HR4 (.slice (some ⟨b, 0, none⟩) 3 3) (.slice (some ⟨gq, 0, none⟩) n q1))
          clear HP4 HR4 hto
          go_wp2
          refine bodyPost_ret (by simp [results, Tryd.results12, go_sem, r0, r1]; try rfl) rfl ?_
          first | exact ⟨3, _, rfl, by omega, hst⟩ | exact ⟨_, rfl, by omega, hst⟩ | exact ⟨3, rfl, by omega, _, hst⟩
      · have hms : ∀ w : World, (Instr.makeSlice 45 (.int .i64 3) (.int .i64 3)).run Tryd.prog w = .ok (.slice (some ⟨w.heap.size, 0, none⟩) 3 3) (w.alloc (.cells #[.int .i64 0, .int .i64 0, .int .i64 0] 2)) := fun w => by kernel_rfl
        rw [show ((3 : Nat) : Int) = 3 from rfl] at c5
        have L23 : Later W2 (W2.drew.alloc (.cells #[.int .i64 0, .int .i64 0, .int .i64 0] 2)) := Later.alloc Ld _
        have hnew : (W2.drew.alloc (.cells #[.int .i64 0, .int .i64 0, .int .i64 0] 2)).heap[W2.heap.size]? = some (.cells #[.int .i64 0, .int .i64 0, .int .i64 0] 2) := at_new W2.drew _
        have hown3 : (W2.drew.alloc (.cells #[.int .i64 0, .int .i64 0, .int .i64 0] 2)).ownsRow N 2 1 (.slice (some ⟨W2.heap.size, 0, none⟩) 3 3) 3 ((List.replicate 3 (0 : Int)).map (Value.int .i64)) := ⟨rfl, Or.inr ⟨W2.heap.size, 3, #[.int .i64 0, .int .i64 0, .int .i64 0], rfl, by omega, hnew, Nat.le_refl _, by unfold maxLen; omega, rfl, rfl⟩⟩
        have hbc3 := heap_later (Later.alloc (Later.refl W2.drew) (.cells #[.int .i64 0, .int .i64 0, .int .i64 0] 2)) hbc0
        obtain ⟨e0, e1, -, -⟩ := box2_facts HPd
        obtain ⟨g0, g1, -, -⟩ := box2_facts (heap_later (Later.alloc (Later.refl W2.drew) (.cells #[.int .i64 0, .int .i64 0, .int .i64 0] 2)) HPd)
        have g2 := cell_later s2d (Later.alloc (Later.refl W2.drew) (.cells #[.int .i64 0, .int .i64 0, .int .i64 0] 2))
        have gz : (W2.drew.alloc (.cells #[.int .i64 0, .int .i64 0, .int .i64 0] 2)).frozen? ⟨b, y * 3 + 2, none⟩ = false := (by simp only [World.frozen?, hbc3]; rfl)
        have hs4 := (HS2.out.later L23).field HYX.out 2 (by omega) (.slice (some ⟨W2.heap.size, 0, none⟩) 3 3) (⟨x'.name, x'.size, (.slice (some ⟨W2.heap.size, 0, none⟩) 3 3)⟩ : Sym) (List.replicate 3 0) rfl hy1 hy2 (by rw [List.length_replicate]; exact hown3) (fun n hn => by rw [(List.mem_replicate.1 hn).2]; unfold I64; omega)
        have hoff := off_set (W2.drew.alloc (.cells #[.int .i64 0, .int .i64 0, .int .i64 0] 2)) b (y * 3 + 2) (.slice (some ⟨W2.heap.size, 0, none⟩) 3 3)
        have hto : BentTo w ((W2.drew.alloc (.cells #[.int .i64 0, .int .i64 0, .int .i64 0] 2)).setCell ⟨b, y * 3 + 2, none⟩ (.slice (some ⟨W2.heap.size, 0, none⟩) 3 3)) N (K + 1) n b (.slice (some ⟨gq, 0, none⟩) n q1) vs _ := ⟨((HB2.out.later L23).off hoff hbc3).more (Nat.le_succ K), hs4, fun w0 h0 h1 => Later.setCell ((HL2.out w0 h0 h1).trans L23) (by omega) _ _, fun B cs h => prog_off hoff hbc3 (by decide) (heap_later L23 (HPR2.out B cs h)), by rw [size_set, HA.out]; have := L23.size; omega⟩
        have HP4 := (hoff A (type_ne HP hbc (by decide))).trans (heap_later L23 HP)
        have HR4 := (hoff (A + 1) (type_ne HR hbc (by decide))).trans (heap_later L23 HR)
        have hblt := lt_block hbc
        rw [set_alloc W2 _ hblt] at hto HP4 HR4
        have hAlt := lt_block HP
        have hAne : ¬ A = W2.heap.size := by omega
        have hAne' : ¬ W2.heap.size = A := by omega
        obtain ⟨q2, q3, -, -⟩ := box2_facts HP
        have hbne : ¬ b = W2.heap.size := by omega
        have hbne' : ¬ W2.heap.size = b := by omega
        have hzz : W2.frozen? ⟨b, y * 3 + 2, none⟩ = false := by simp [World.frozen?, hbc]
        have hzd : W2.drew.frozen? ⟨b, y * 3 + 2, none⟩ = false := hzz
        have KTO : PLift _ := ⟨hto⟩
        have KP4 : PLift _ := ⟨HP4⟩
        have KR4 : PLift _ := ⟨HR4⟩
        clear hs4 hoff HP HR hbc hown3 hbc3 hto HP4 HR4 hnew HPd L23
        go_region_with (go_at_call 22; apply Calls.mono; (focus (with_reducible (exact c5 _))); rintro e wn ⟨rfl, hr⟩; obtain rfl := hr.symm)
        all_goals
          have hto := KTO.down
          have HP4 := KP4.down
          have HR4 := KR4.down
          clear KTO KP4 KR4 e0 e1 g0 g1 g2 gz s2 s2d hzz hzd hblt hbne hbne' hAlt hAne hAne' q2 q3
          generalize ((W2.setCell ⟨b, y * 3 + 2, none⟩ (.slice (some ⟨W2.heap.size, 0, none⟩) 3 3)).alloc (.cells #[.int .i64 0, .int .i64 0, .int .i64 0] 2)).drew = W4 at *
          obtain ⟨e0, e1, -, -⟩ := box2_facts HP4
          obtain ⟨d0, d1, f0, f1⟩ := box2_facts HR4
          have hst := hto.stored HR4 (by omega) (by rw [HA.out]; omega) (.slice (some ⟨b, 0, none⟩) 3 3) (.slice (some ⟨gq, 0, none⟩) n q1)
          obtain ⟨r0, r1, -, -⟩ := box2_facts (prog_stored HR4 (.slice (some ⟨b, 0, none⟩) 3 3) (.slice (some ⟨gq, 0, none⟩) n q1))
          clear HP4 HR4 hto
          go_wp2
          refine bodyPost_ret (by simp [results, Tryd.results12, go_sem, r0, r1]; try rfl) rfl ?_
          first | exact ⟨3, _, rfl, by omega, hst⟩ | exact ⟨_, rfl, by omega, hst⟩ | exact ⟨3, rfl, by omega, _, hst⟩
      · have hms : ∀ w : World, (Instr.makeSlice 45 (.int .i64 4) (.int .i64 4)).run Tryd.prog w = .ok (.slice (some ⟨w.heap.size, 0, none⟩) 4 4) (w.alloc (.cells #[.int .i64 0, .int .i64 0, .int .i64 0, .int .i64 0] 2)) := fun w => by kernel_rfl
        rw [show ((4 : Nat) : Int) = 4 from rfl] at c5
        have L23 : Later W2 (W2.drew.alloc (.cells #[.int .i64 0, .int .i64 0, .int .i64 0, .int .i64 0] 2)) := Later.alloc Ld _
        have hnew : (W2.drew.alloc (.cells #[.int .i64 0, .int .i64 0, .int .i64 0, .int .i64 0] 2)).heap[W2.heap.size]? = some (.cells #[.int .i64 0, .int .i64 0, .int .i64 0, .int .i64 0] 2) := at_new W2.drew _
        have hown3 : (W2.drew.alloc (.cells #[.int .i64 0, .int .i64 0, .int .i64 0, .int .i64 0] 2)).ownsRow N 2 1 (.slice (some ⟨W2.heap.size, 0, none⟩) 4 4) 4 ((List.replicate 4 (0 : Int)).map (Value.int .i64)) := ⟨rfl, Or.inr ⟨W2.heap.size, 4, #[.int .i64 0, .int .i64 0, .int .i64 0, .int .i64 0], rfl, by omega, hnew, Nat.le_refl _, by unfold maxLen; omega, rfl, rfl⟩⟩
        have hbc3 := heap_later (Later.alloc (Later.refl W2.drew) (.cells #[.int .i64 0, .int .i64 0, .int .i64 0, .int .i64 0] 2)) hbc0
        obtain ⟨e0, e1, -, -⟩ := box2_facts HPd
        obtain ⟨g0, g1, -, -⟩ := box2_facts (heap_later (Later.alloc (Later.refl W2.drew) (.cells #[.int .i64 0, .int .i64 0, .int .i64 0, .int .i64 0] 2)) HPd)
        have g2 := cell_later s2d (Later.alloc (Later.refl W2.drew) (.cells #[.int .i64 0, .int .i64 0, .int .i64 0, .int .i64 0] 2))
        have gz : (W2.drew.alloc (.cells #[.int .i64 0, .int .i64 0, .int .i64 0, .int .i64 0] 2)).frozen? ⟨b, y * 3 + 2, none⟩ = false := (by simp only [World.frozen?, hbc3]; rfl)
        have hs4 := (HS2.out.later L23).field HYX.out 2 (by omega) (.slice (some ⟨W2.heap.size, 0, none⟩) 4 4) (⟨x'.name, x'.size, (.slice (some ⟨W2.heap.size, 0, none⟩) 4 4)⟩ : Sym) (List.replicate 4 0) rfl hy1 hy2 (by rw [List.length_replicate]; exact hown3) (fun n hn => by rw [(List.mem_replicate.1 hn).2]; unfold I64; omega)
        have hoff := off_set (W2.drew.alloc (.cells #[.int .i64 0, .int .i64 0, .int .i64 0, .int .i64 0] 2)) b (y * 3 + 2) (.slice (some ⟨W2.heap.size, 0, none⟩) 4 4)
        have hto : BentTo w ((W2.drew.alloc (.cells #[.int .i64 0, .int .i64 0, .int .i64 0, .int .i64 0] 2)).setCell ⟨b, y * 3 + 2, none⟩ (.slice (some ⟨W2.heap.size, 0, none⟩) 4 4)) N (K + 1) n b (.slice (some ⟨gq, 0, none⟩) n q1) vs _ := ⟨((HB2.out.later L23).off hoff hbc3).more (Nat.le_succ K), hs4, fun w0 h0 h1 => Later.setCell ((HL2.out w0 h0 h1).trans L23) (by omega) _ _, fun B cs h => prog_off hoff hbc3 (by decide) (heap_later L23 (HPR2.out B cs h)), by rw [size_set, HA.out]; have := L23.size; omega⟩
        have HP4 := (hoff A (type_ne HP hbc (by decide))).trans (heap_later L23 HP)
        have HR4 := (hoff (A + 1) (type_ne HR hbc (by decide))).trans (heap_later L23 HR)
        have hblt := lt_block hbc
        rw [set_alloc W2 _ hblt] at hto HP4 HR4
        have hAlt := lt_block HP
        have hAne : ¬ A = W2.heap.size := by omega
        have hAne' : ¬ W2.heap.size = A := by omega
        obtain ⟨q2, q3, -, -⟩ := box2_facts HP
        have hbne : ¬ b = W2.heap.size := by omega
        have hbne' : ¬ W2.heap.size = b := by omega
        have hzz : W2.frozen? ⟨b, y * 3 + 2, none⟩ = false := by simp [World.frozen?, hbc]
        have hzd : W2.drew.frozen? ⟨b, y * 3 + 2, none⟩ = false := hzz
        have KTO : PLift _ := ⟨hto⟩
        have KP4 : PLift _ := ⟨HP4⟩
        have KR4 : PLift _ := ⟨HR4⟩
        clear hs4 hoff HP HR hbc hown3 hbc3 hto HP4 HR4 hnew HPd L23
        go_region_with (go_at_call 22; apply Calls.mono; (focus (with_reducible (exact c5 _))); rintro e wn ⟨rfl, hr⟩; obtain rfl := hr.symm)
        all_goals
          have hto := KTO.down
          have HP4 := KP4.down
          have HR4 := KR4.down
          clear KTO KP4 KR4 e0 e1 g0 g1 g2 gz s2 s2d hzz hzd hblt hbne hbne' hAlt hAne hAne' q2 q3
          generalize ((W2.setCell ⟨b, y * 3 + 2, none⟩ (.slice (some ⟨W2.heap.size, 0, none⟩) 4 4)).alloc (.cells #[.int .i64 0, .int .i64 0, .int .i64 0, .int .i64 0] 2)).drew = W4 at *
          obtain ⟨e0, e1, -, -⟩ := box2_facts HP4
          obtain ⟨d0, d1, f0, f1⟩ := box2_facts HR4
          have hst := hto.stored HR4 (by omega) (by rw [HA.out]; omega) (.slice (some ⟨b, 0, none⟩) 3 3) (.slice (some ⟨gq, 0, none⟩) n q1)
          obtain ⟨r0, r1, -, -⟩ := box2_facts (prog_stored HR4 (.slice (some ⟨b, 0, none⟩) 3 3) (.slice (some ⟨gq, 0, none⟩) n q1))
          clear HP4 HR4 hto
          go_wp2
          refine bodyPost_ret (by simp [results, Tryd.results12, go_sem, r0, r1]; try rfl) rfl ?_
          first | exact ⟨3, _, rfl, by omega, hst⟩ | exact ⟨_, rfl, by omega, hst⟩ | exact ⟨3, rfl, by omega, _, hst⟩
    · skip
      obtain ⟨g1, o1, hgo, okx, -, c0', c1', c2', c3', c4', c5', c6', c7', c8', c9', c10', c11', c12'⟩ := HT2.out.insRow.get HX.out
      simp only [Option.some.injEq, Addr.mk.injEq] at hgo
      obtain ⟨rfl, rfl, -⟩ := hgo
      simp only [Nat.zero_add] at c12'
      have HTX := HT2.out.each _ hxm
      have HW5 := Later.alloc (Later.refl W2) (.cells #[.string s] 9)
      have hB5 := HB2.out.later HW5
      have hS5 := HS2.out.later HW5
      have hv5 : OwnTexts (W2.alloc (.cells #[.string s] 9)) N x.labels L := ownsC_later HTX.2.1 HW5
      have hL5 := HTX.2.2
      have hK5 := (HTS.out _ hxm).2
      have hcs : (W2.alloc (.cells #[.string s] 9)).cell? ⟨W2.heap.size, 0, none⟩ = some (.string s) := (box1_facts (at_new W2 (.cells #[.string s] 9))).1
      have hgc5 := heap_later HW5 hgc
      have hP5 := heap_later HW5 HP
      have hR5 := heap_later HW5 HR
      have hsz5 : N ≤ (W2.alloc (.cells #[.string s] 9)).heap.size := by
        have := HW5.size
        omega
      have HL5 : Hid (∀ w0, Later w0 w → w0.heap.size ≤ N → Later w0 (W2.alloc (.cells #[.string s] 9))) := fun w0 h0 h1 => (HL2.out w0 h0 h1).trans HW5
      have HPR5 : Hid (∀ (B : Nat) cs, w.heap[B]? = some (.cells cs 27) → (W2.alloc (.cells #[.string s] 9)).heap[B]? = some (.cells cs 27)) := fun B cs h => heap_later HW5 (HPR2.out B cs h)
      have c12 : Hid (W2.cell? ⟨g, p2 * 13 + 12, none⟩ = some x.labels) := c12'
      have HN5 : Hid (W2.heap.size ≤ (W2.alloc (.cells #[.string s] 9)).heap.size) := HW5.size
      clear HW5 HTX hxm
      go_upto_region 33 with (first
        | (go_at_call 22; apply Calls.mono; (focus (with_reducible (first | exact c2 _ | exact c3 _ | exact c4 _))); rintro e wn ⟨rfl, hr⟩; obtain rfl := hr.symm)
        | (at_builtin; go_loud (refine wpList_append_text (v := x.labels) (L := L) rfl (.tmp 85) (.tmp 87) rfl hB5 hS5 rfl hv5 hL5 (by omega) ⟨W2.heap.size, 0, none⟩ 1 s rfl hs hcs hsz5 ?_); intro v' w' hov hB' hS' hold' hoth hsz'; obtain ⟨vp, vcap, hvv⟩ := owns_slice hov; rw [List.length_append, List.length_singleton] at hvv; subst hvv; have hgc6 := hoth g _ _ _ (by decide) hgc5; have hP6 := hoth A _ _ _ (by decide) hP5; have hR6 := hoth (A + 1) _ _ _ (by decide) hR5; have r12 : w'.cell? ⟨g, p2 * 13 + 12, none⟩ = some x.labels := (by (have h1 := c12.out; simp only [World.cell?, hgc] at h1; simp only [World.cell?, hgc6]; exact h1)); have hz12 : w'.frozen? ⟨g, p2 * 13 + 12, none⟩ = false := (by simp [World.frozen?, hgc6]); have hold6 := fun w0 h0 h1 => hold' w0 (HL5.out w0 h0 h1) h1; have hpr6 : ∀ (B : Nat) cs, w.heap[B]? = some (.cells cs 27) → w'.heap[B]? = some (.cells cs 27) := fun B cs h => hoth B _ _ _ (by decide) (HPR5.out B cs h)))
      have hb4 := hB'.labels HVK.out p2 (.slice vp (L.length + 1) vcap) (L ++ [s]) hov (fun t ht => by
        rcases List.mem_append.1 ht with h | h
        · exact hL5 t h
        · rw [List.mem_singleton.1 h]; exact hs) (by rw [List.length_append, List.length_singleton]; omega)
      have hoff := off_set w' g (p2 * 13 + 12) (.slice vp (L.length + 1) vcap)
      have hto : BentTo w (w'.setCell ⟨g, p2 * 13 + 12, none⟩ (.slice vp (L.length + 1) vcap)) N (K + 1) n b (.slice (some ⟨gq, 0, none⟩) n q1) vs S := ⟨hb4, hS'.off hoff hgc6 (by decide) (by decide), fun w0 h0 h1 => Later.setCell (hold6 w0 h0 h1) (by omega) _ _, fun B cs h => prog_off hoff hgc6 (by decide) (hpr6 B cs h), by have := HN5.out; rw [size_set, HA.out]; omega⟩
      have HP4 := (hoff A (type_ne hP6 hgc6 (by decide))).trans hP6
      have HR4 := (hoff (A + 1) (type_ne hR6 hgc6 (by decide))).trans hR6
      clear hb4 hoff HP HR hgc hgc5 hgc6 hP5 hP6 hR5 hR6 hB5 hS5 hv5 hB' hS' hov hold' hold6 hoth hpr6 r12 hz12 HL5 HPR5 hcs
      generalize w'.setCell ⟨g, p2 * 13 + 12, none⟩ (.slice vp (L.length + 1) vcap) = W4 at *
      clear e0 e1 d0 d1 f0 f1
      obtain ⟨e0, e1, -, -⟩ := box2_facts HP4
      obtain ⟨d0, d1, f0, f1⟩ := box2_facts HR4
      have hst := hto.stored HR4 (by omega) (by rw [HA.out]; omega) (.slice (some ⟨b, 0, none⟩) 3 3) (.slice (some ⟨gq, 0, none⟩) n q1)
      obtain ⟨r0, r1, -, -⟩ := box2_facts (prog_stored HR4 (.slice (some ⟨b, 0, none⟩) 3 3) (.slice (some ⟨gq, 0, none⟩) n q1))
      clear HP4 HR4 hto
      go_wp2
      refine bodyPost_ret (by simp [results, Tryd.results12, go_sem, r0, r1]; try rfl) rfl ?_
      first | exact ⟨3, S, rfl, by omega, hst⟩ | exact ⟨S, rfl, by omega, hst⟩ | exact ⟨3, rfl, by omega, S, hst⟩
    · skip
      obtain ⟨g1, o1, hgo, okx, -, c0', c1', c2', c3', c4', c5', c6', c7', c8', c9', c10', c11', c12'⟩ := HT2.out.insRow.get HX.out
      simp only [Option.some.injEq, Addr.mk.injEq] at hgo
      obtain ⟨rfl, rfl, -⟩ := hgo
      simp only [Nat.zero_add] at c11'
      have hz : W2.frozen? ⟨g, p2 * 13 + 11, none⟩ = false := by simp [World.frozen?, hgc]
      have hb4 := HB2.out.field HVK.out p2 11 (by omega) (.string s) (fun x => (⟨x.op, x.lock, x.cond, ⟨x.a.kind, x.a.reg, x.a.sym, x.a.n⟩, ⟨x.b.kind, x.b.reg, x.b.sym, x.b.n⟩, s, x.labels⟩ : Ins)) (fun x L => rfl) (fun x h => ⟨h.op, h.cond, h.a, h.b, (by show s.size ≤ maxLen; unfold maxLen; omega)⟩) (fun x h => hs) (fun x => rfl)
      have hoff := off_set W2 g (p2 * 13 + 11) (.string s)
      have hto : BentTo w (W2.setCell ⟨g, p2 * 13 + 11, none⟩ (.string s)) N (K + 1) n b (.slice (some ⟨gq, 0, none⟩) n q1) vs S := ⟨hb4.more (Nat.le_succ K), HS2.out.off hoff hgc (by decide) (by decide), fun w0 h0 h1 => Later.setCell (HL2.out w0 h0 h1) (by omega) _ _, fun B cs h => prog_off hoff hgc (by decide) (HPR2.out B cs h), by rw [size_set, HA.out]; omega⟩
      have hgA : A ≠ g ∧ A + 1 ≠ g := ⟨type_ne HP hgc (by decide), type_ne HR hgc (by decide)⟩
      have HP4 := (setCell_other hgA.1 (p2 * 13 + 11) (.string s)).trans HP
      have HR4 := (setCell_other hgA.2 (p2 * 13 + 11) (.string s)).trans HR
      clear hb4 hoff HP HR hgA hgc
      go_upto_region 33 with (go_at_call 22; apply Calls.mono; (focus (with_reducible (first | exact c2 _ | exact c3 _ | exact c4 _))); rintro e wn ⟨rfl, hr⟩; obtain rfl := hr.symm)
      generalize W2.setCell ⟨g, p2 * 13 + 11, none⟩ (.string s) = W4 at *
      clear e0 e1 d0 d1 f0 f1
      obtain ⟨e0, e1, -, -⟩ := box2_facts HP4
      obtain ⟨d0, d1, f0, f1⟩ := box2_facts HR4
      have hst := hto.stored HR4 (by omega) (by rw [HA.out]; omega) (.slice (some ⟨b, 0, none⟩) 3 3) (.slice (some ⟨gq, 0, none⟩) n q1)
      obtain ⟨r0, r1, -, -⟩ := box2_facts (prog_stored HR4 (.slice (some ⟨b, 0, none⟩) 3 3) (.slice (some ⟨gq, 0, none⟩) n q1))
      clear HP4 HR4 hto
      go_wp2
      refine bodyPost_ret (by simp [results, Tryd.results12, go_sem, r0, r1]; try rfl) rfl ?_
      first | exact ⟨3, S, rfl, by omega, hst⟩ | exact ⟨S, rfl, by omega, hst⟩ | exact ⟨3, rfl, by omega, S, hst⟩
    · skip
      obtain ⟨g1, o1, hgo, okx, -, c0', c1', c2', c3', c4', c5', c6', c7', c8', c9', c10', c11', c12'⟩ := HT2.out.insRow.get HX.out
      simp only [Option.some.injEq, Addr.mk.injEq] at hgo
      obtain ⟨rfl, rfl, -⟩ := hgo
      simp only [Nat.zero_add] at c5'
      have hz : W2.frozen? ⟨g, p2 * 13 + 5, none⟩ = false := by simp [World.frozen?, hgc]
      have hb4 := HB2.out.field HVK.out p2 5 (by omega) (.int .i64 k2) (fun x => (⟨x.op, x.lock, x.cond, ⟨x.a.kind, x.a.reg, k2, x.a.n⟩, ⟨x.b.kind, x.b.reg, x.b.sym, x.b.n⟩, x.dest, x.labels⟩ : Ins)) (fun x L => rfl) (fun x h => ⟨h.op, h.cond, ⟨h.a.1, h.a.2.1, hk2, h.a.2.2.2⟩, h.b, h.dest⟩) (fun x h => h) (fun x => rfl)
      have hoff := off_set W2 g (p2 * 13 + 5) (.int .i64 k2)
      have hto : BentTo w (W2.setCell ⟨g, p2 * 13 + 5, none⟩ (.int .i64 k2)) N (K + 1) n b (.slice (some ⟨gq, 0, none⟩) n q1) vs S := ⟨hb4.more (Nat.le_succ K), HS2.out.off hoff hgc (by decide) (by decide), fun w0 h0 h1 => Later.setCell (HL2.out w0 h0 h1) (by omega) _ _, fun B cs h => prog_off hoff hgc (by decide) (HPR2.out B cs h), by rw [size_set, HA.out]; omega⟩
      have hgA : A ≠ g ∧ A + 1 ≠ g := ⟨type_ne HP hgc (by decide), type_ne HR hgc (by decide)⟩
      have HP4 := (setCell_other hgA.1 (p2 * 13 + 5) (.int .i64 k2)).trans HP
      have HR4 := (setCell_other hgA.2 (p2 * 13 + 5) (.int .i64 k2)).trans HR
      clear hb4 hoff HP HR hgA hgc
      go_upto_region 33 with (go_at_call 22; apply Calls.mono; (focus (with_reducible (first | exact c2 _ | exact c3 _ | exact c4 _))); rintro e wn ⟨rfl, hr⟩; obtain rfl := hr.symm)
      generalize W2.setCell ⟨g, p2 * 13 + 5, none⟩ (.int .i64 k2) = W4 at *
      clear e0 e1 d0 d1 f0 f1
      obtain ⟨e0, e1, -, -⟩ := box2_facts HP4
      obtain ⟨d0, d1, f0, f1⟩ := box2_facts HR4
      have hst := hto.stored HR4 (by omega) (by rw [HA.out]; omega) (.slice (some ⟨b, 0, none⟩) 3 3) (.slice (some ⟨gq, 0, none⟩) n q1)
      obtain ⟨r0, r1, -, -⟩ := box2_facts (prog_stored HR4 (.slice (some ⟨b, 0, none⟩) 3 3) (.slice (some ⟨gq, 0, none⟩) n q1))
      clear HP4 HR4 hto
      go_wp2
      refine bodyPost_ret (by simp [results, Tryd.results12, go_sem, r0, r1]; try rfl) rfl ?_
      first | exact ⟨3, S, rfl, by omega, hst⟩ | exact ⟨S, rfl, by omega, hst⟩ | exact ⟨3, rfl, by omega, S, hst⟩
    · skip
      obtain ⟨j5, hj5, hj5n⟩ := pick_nat k2 5 (by omega)
      rw [show ((5 : Nat) : Int) = 5 from rfl] at hj5
      have c5 := fun w' => pick_any k2 5 hk2 (by omega) w'
      rw [hj5] at c5
      have hi5 : I64 (j5 : Int) := by unfold I64; omega
      clear hj5
      obtain ⟨g1, o1, hgo, okx, -, c0', c1', c2', c3', c4', c5', c6', c7', c8', c9', c10', c11', c12'⟩ := HT2.out.insRow.get HX.out
      simp only [Option.some.injEq, Addr.mk.injEq] at hgo
      obtain ⟨rfl, rfl, -⟩ := hgo
      simp only [Nat.zero_add] at c9'
      have hz : W2.frozen? ⟨g, p2 * 13 + 9, none⟩ = false := by simp [World.frozen?, hgc]
      have hb4 := HB2.out.field HVK.out p2 9 (by omega) (.int .i64 (j5 : Nat)) (fun x => (⟨x.op, x.lock, x.cond, ⟨x.a.kind, x.a.reg, x.a.sym, x.a.n⟩, ⟨x.b.kind, x.b.reg, j5, x.b.n⟩, x.dest, x.labels⟩ : Ins)) (fun x L => rfl) (fun x h => ⟨h.op, h.cond, h.a, ⟨h.b.1, h.b.2.1, hi5, h.b.2.2.2⟩, h.dest⟩) (fun x h => h) (fun x => rfl)
      have hoff := off_set W2 g (p2 * 13 + 9) (.int .i64 (j5 : Nat))
      have hto : BentTo w (W2.setCell ⟨g, p2 * 13 + 9, none⟩ (.int .i64 (j5 : Nat))) N (K + 1) n b (.slice (some ⟨gq, 0, none⟩) n q1) vs S := ⟨hb4.more (Nat.le_succ K), HS2.out.off hoff hgc (by decide) (by decide), fun w0 h0 h1 => Later.setCell (HL2.out w0 h0 h1) (by omega) _ _, fun B cs h => prog_off hoff hgc (by decide) (HPR2.out B cs h), by rw [size_set, HA.out]; omega⟩
      have hgA : A ≠ g ∧ A + 1 ≠ g := ⟨type_ne HP hgc (by decide), type_ne HR hgc (by decide)⟩
      have HP4 := (setCell_other hgA.1 (p2 * 13 + 9) (.int .i64 (j5 : Nat))).trans HP
      have HR4 := (setCell_other hgA.2 (p2 * 13 + 9) (.int .i64 (j5 : Nat))).trans HR
      clear hb4 hoff HP HR hgA hgc
      go_upto_region 33 with (go_at_call 22; apply Calls.mono; (focus (with_reducible (first | exact c2 _ | exact c3 _ | exact c4 _ | exact c5 _))); rintro e wn ⟨rfl, hr⟩; obtain rfl := hr.symm)
      generalize W2.setCell ⟨g, p2 * 13 + 9, none⟩ (.int .i64 (j5 : Nat)) = W4 at *
      clear e0 e1 d0 d1 f0 f1
      obtain ⟨e0, e1, -, -⟩ := box2_facts HP4
      obtain ⟨d0, d1, f0, f1⟩ := box2_facts HR4
      have hst := hto.stored HR4 (by omega) (by rw [HA.out]; omega) (.slice (some ⟨b, 0, none⟩) 3 3) (.slice (some ⟨gq, 0, none⟩) n q1)
      obtain ⟨r0, r1, -, -⟩ := box2_facts (prog_stored HR4 (.slice (some ⟨b, 0, none⟩) 3 3) (.slice (some ⟨gq, 0, none⟩) n q1))
      clear HP4 HR4 hto
      go_wp2
      refine bodyPost_ret (by simp [results, Tryd.results12, go_sem, r0, r1]; try rfl) rfl ?_
      first | exact ⟨3, S, rfl, by omega, hst⟩ | exact ⟨S, rfl, by omega, hst⟩ | exact ⟨3, rfl, by omega, S, hst⟩
    · skip
      obtain ⟨g1, o1, hgo, okx, -, c0', c1', c2', c3', c4', c5', c6', c7', c8', c9', c10', c11', c12'⟩ := HT2.out.insRow.get HX.out
      simp only [Option.some.injEq, Addr.mk.injEq] at hgo
      obtain ⟨rfl, rfl, -⟩ := hgo
      simp only [Nat.zero_add] at c6'
      have hz : W2.frozen? ⟨g, p2 * 13 + 6, none⟩ = false := by simp [World.frozen?, hgc]
      have hb4 := HB2.out.field HVK.out p2 6 (by omega) (.int .i64 k2) (fun x => (⟨x.op, x.lock, x.cond, ⟨x.a.kind, x.a.reg, x.a.sym, k2⟩, ⟨x.b.kind, x.b.reg, x.b.sym, x.b.n⟩, x.dest, x.labels⟩ : Ins)) (fun x L => rfl) (fun x h => ⟨h.op, h.cond, ⟨h.a.1, h.a.2.1, h.a.2.2.1, hk2⟩, h.b, h.dest⟩) (fun x h => h) (fun x => rfl)
      have hoff := off_set W2 g (p2 * 13 + 6) (.int .i64 k2)
      have hto : BentTo w (W2.setCell ⟨g, p2 * 13 + 6, none⟩ (.int .i64 k2)) N (K + 1) n b (.slice (some ⟨gq, 0, none⟩) n q1) vs S := ⟨hb4.more (Nat.le_succ K), HS2.out.off hoff hgc (by decide) (by decide), fun w0 h0 h1 => Later.setCell (HL2.out w0 h0 h1) (by omega) _ _, fun B cs h => prog_off hoff hgc (by decide) (HPR2.out B cs h), by rw [size_set, HA.out]; omega⟩
      have hgA : A ≠ g ∧ A + 1 ≠ g := ⟨type_ne HP hgc (by decide), type_ne HR hgc (by decide)⟩
      have HP4 := (setCell_other hgA.1 (p2 * 13 + 6) (.int .i64 k2)).trans HP
      have HR4 := (setCell_other hgA.2 (p2 * 13 + 6) (.int .i64 k2)).trans HR
      clear hb4 hoff HP HR hgA hgc
      go_upto_region 33 with (go_at_call 22; apply Calls.mono; (focus (with_reducible (first | exact c2 _ | exact c3 _ | exact c4 _))); rintro e wn ⟨rfl, hr⟩; obtain rfl := hr.symm)
      generalize W2.setCell ⟨g, p2 * 13 + 6, none⟩ (.int .i64 k2) = W4 at *
      clear e0 e1 d0 d1 f0 f1
      obtain ⟨e0, e1, -, -⟩ := box2_facts HP4
      obtain ⟨d0, d1, f0, f1⟩ := box2_facts HR4
      have hst := hto.stored HR4 (by omega) (by rw [HA.out]; omega) (.slice (some ⟨b, 0, none⟩) 3 3) (.slice (some ⟨gq, 0, none⟩) n q1)
      obtain ⟨r0, r1, -, -⟩ := box2_facts (prog_stored HR4 (.slice (some ⟨b, 0, none⟩) 3 3) (.slice (some ⟨gq, 0, none⟩) n q1))
      clear HP4 HR4 hto
      go_wp2
      refine bodyPost_ret (by simp [results, Tryd.results12, go_sem, r0, r1]; try rfl) rfl ?_
      first | exact ⟨3, S, rfl, by omega, hst⟩ | exact ⟨S, rfl, by omega, hst⟩ | exact ⟨3, rfl, by omega, S, hst⟩
    · skip
      obtain ⟨j5, hj5, hj5n⟩ := pick_nat k2 4 (by omega)
      rw [show ((4 : Nat) : Int) = 4 from rfl] at hj5
      have c5 := fun w' => pick_any k2 4 hk2 (by omega) w'
      rw [hj5] at c5
      have hi5 : I64 (j5 : Int) := by unfold I64; omega
      clear hj5
      obtain ⟨g1, o1, hgo, okx, -, c0', c1', c2', c3', c4', c5', c6', c7', c8', c9', c10', c11', c12'⟩ := HT2.out.insRow.get HX.out
      simp only [Option.some.injEq, Addr.mk.injEq] at hgo
      obtain ⟨rfl, rfl, -⟩ := hgo
      simp only [Nat.zero_add] at c10'
      have hz : W2.frozen? ⟨g, p2 * 13 + 10, none⟩ = false := by simp [World.frozen?, hgc]
      have hb4 := HB2.out.field HVK.out p2 10 (by omega) (.int .i64 (j5 : Nat)) (fun x => (⟨x.op, x.lock, x.cond, ⟨x.a.kind, x.a.reg, x.a.sym, x.a.n⟩, ⟨x.b.kind, x.b.reg, x.b.sym, j5⟩, x.dest, x.labels⟩ : Ins)) (fun x L => rfl) (fun x h => ⟨h.op, h.cond, h.a, ⟨h.b.1, h.b.2.1, h.b.2.2.1, hi5⟩, h.dest⟩) (fun x h => h) (fun x => rfl)
      have hoff := off_set W2 g (p2 * 13 + 10) (.int .i64 (j5 : Nat))
      have hto : BentTo w (W2.setCell ⟨g, p2 * 13 + 10, none⟩ (.int .i64 (j5 : Nat))) N (K + 1) n b (.slice (some ⟨gq, 0, none⟩) n q1) vs S := ⟨hb4.more (Nat.le_succ K), HS2.out.off hoff hgc (by decide) (by decide), fun w0 h0 h1 => Later.setCell (HL2.out w0 h0 h1) (by omega) _ _, fun B cs h => prog_off hoff hgc (by decide) (HPR2.out B cs h), by rw [size_set, HA.out]; omega⟩
      have hgA : A ≠ g ∧ A + 1 ≠ g := ⟨type_ne HP hgc (by decide), type_ne HR hgc (by decide)⟩
      have HP4 := (setCell_other hgA.1 (p2 * 13 + 10) (.int .i64 (j5 : Nat))).trans HP
      have HR4 := (setCell_other hgA.2 (p2 * 13 + 10) (.int .i64 (j5 : Nat))).trans HR
      clear hb4 hoff HP HR hgA hgc
      go_upto_region 33 with (go_at_call 22; apply Calls.mono; (focus (with_reducible (first | exact c2 _ | exact c3 _ | exact c4 _ | exact c5 _))); rintro e wn ⟨rfl, hr⟩; obtain rfl := hr.symm)
      generalize W2.setCell ⟨g, p2 * 13 + 10, none⟩ (.int .i64 (j5 : Nat)) = W4 at *
      clear e0 e1 d0 d1 f0 f1
      obtain ⟨e0, e1, -, -⟩ := box2_facts HP4
      obtain ⟨d0, d1, f0, f1⟩ := box2_facts HR4
      have hst := hto.stored HR4 (by omega) (by rw [HA.out]; omega) (.slice (some ⟨b, 0, none⟩) 3 3) (.slice (some ⟨gq, 0, none⟩) n q1)
      obtain ⟨r0, r1, -, -⟩ := box2_facts (prog_stored HR4 (.slice (some ⟨b, 0, none⟩) 3 3) (.slice (some ⟨gq, 0, none⟩) n q1))
      clear HP4 HR4 hto
      go_wp2
      refine bodyPost_ret (by simp [results, Tryd.results12, go_sem, r0, r1]; try rfl) rfl ?_
      first | exact ⟨3, S, rfl, by omega, hst⟩ | exact ⟨S, rfl, by omega, hst⟩ | exact ⟨3, rfl, by omega, S, hst⟩
    · skip
      obtain ⟨g1, o1, hgo, okx, -, c0', c1', c2', c3', c4', c5', c6', c7', c8', c9', c10', c11', c12'⟩ := HT2.out.insRow.get HX.out
      simp only [Option.some.injEq, Addr.mk.injEq] at hgo
      obtain ⟨rfl, rfl, -⟩ := hgo
      simp only [Nat.zero_add] at c0'
      have hz : W2.frozen? ⟨g, p2 * 13, none⟩ = false := by simp [World.frozen?, hgc]
      have hb4 := HB2.out.field HVK.out p2 0 (by omega) (.int .i64 k2) (fun x => (⟨k2, x.lock, x.cond, ⟨x.a.kind, x.a.reg, x.a.sym, x.a.n⟩, ⟨x.b.kind, x.b.reg, x.b.sym, x.b.n⟩, x.dest, x.labels⟩ : Ins)) (fun x L => rfl) (fun x h => ⟨hk2, h.cond, h.a, h.b, h.dest⟩) (fun x h => h) (fun x => rfl)
      have hoff := off_set W2 g (p2 * 13 + 0) (.int .i64 k2)
      have hto : BentTo w (W2.setCell ⟨g, p2 * 13, none⟩ (.int .i64 k2)) N (K + 1) n b (.slice (some ⟨gq, 0, none⟩) n q1) vs S := ⟨hb4.more (Nat.le_succ K), HS2.out.off hoff hgc (by decide) (by decide), fun w0 h0 h1 => Later.setCell (HL2.out w0 h0 h1) (by omega) _ _, fun B cs h => prog_off hoff hgc (by decide) (HPR2.out B cs h), by rw [size_set, HA.out]; omega⟩
      have hgA : A ≠ g ∧ A + 1 ≠ g := ⟨type_ne HP hgc (by decide), type_ne HR hgc (by decide)⟩
      have HP4 := (setCell_other hgA.1 (p2 * 13) (.int .i64 k2)).trans HP
      have HR4 := (setCell_other hgA.2 (p2 * 13) (.int .i64 k2)).trans HR
      clear hb4 hoff HP HR hgA hgc
      go_upto_region 33 with (go_at_call 22; apply Calls.mono; (focus (with_reducible (first | exact c2 _ | exact c3 _ | exact c4 _))); rintro e wn ⟨rfl, hr⟩; obtain rfl := hr.symm)
      generalize W2.setCell ⟨g, p2 * 13, none⟩ (.int .i64 k2) = W4 at *
      clear e0 e1 d0 d1 f0 f1
      obtain ⟨e0, e1, -, -⟩ := box2_facts HP4
      obtain ⟨d0, d1, f0, f1⟩ := box2_facts HR4
      have hst := hto.stored HR4 (by omega) (by rw [HA.out]; omega) (.slice (some ⟨b, 0, none⟩) 3 3) (.slice (some ⟨gq, 0, none⟩) n q1)
      obtain ⟨r0, r1, -, -⟩ := box2_facts (prog_stored HR4 (.slice (some ⟨b, 0, none⟩) 3 3) (.slice (some ⟨gq, 0, none⟩) n q1))
      clear HP4 HR4 hto
      go_wp2
      refine bodyPost_ret (by simp [results, Tryd.results12, go_sem, r0, r1]; try rfl) rfl ?_
      first | exact ⟨3, S, rfl, by omega, hst⟩ | exact ⟨S, rfl, by omega, hst⟩ | exact ⟨3, rfl, by omega, S, hst⟩
    · skip
      obtain ⟨g1, o1, hgo, okx, -, c0', c1', c2', c3', c4', c5', c6', c7', c8', c9', c10', c11', c12'⟩ := HT2.out.insRow.get HX.out
      simp only [Option.some.injEq, Addr.mk.injEq] at hgo
      obtain ⟨rfl, rfl, -⟩ := hgo
      simp only [Nat.zero_add] at c0' c1' c2' c3' c4' c5' c6' c7' c8' c9' c10' c11' c12'
      have z0 : W2.frozen? ⟨g, p2 * 13, none⟩ = false := by simp [World.frozen?, hgc]
      have z1 : W2.frozen? ⟨g, p2 * 13 + 1, none⟩ = false := by simp [World.frozen?, hgc]
      have z2 : W2.frozen? ⟨g, p2 * 13 + 2, none⟩ = false := by simp [World.frozen?, hgc]
      have z3 : W2.frozen? ⟨g, p2 * 13 + 3, none⟩ = false := by simp [World.frozen?, hgc]
      have z4 : W2.frozen? ⟨g, p2 * 13 + 4, none⟩ = false := by simp [World.frozen?, hgc]
      have z5 : W2.frozen? ⟨g, p2 * 13 + 5, none⟩ = false := by simp [World.frozen?, hgc]
      have z6 : W2.frozen? ⟨g, p2 * 13 + 6, none⟩ = false := by simp [World.frozen?, hgc]
      have z7 : W2.frozen? ⟨g, p2 * 13 + 7, none⟩ = false := by simp [World.frozen?, hgc]
      have z8 : W2.frozen? ⟨g, p2 * 13 + 8, none⟩ = false := by simp [World.frozen?, hgc]
      have z9 : W2.frozen? ⟨g, p2 * 13 + 9, none⟩ = false := by simp [World.frozen?, hgc]
      have z10 : W2.frozen? ⟨g, p2 * 13 + 10, none⟩ = false := by simp [World.frozen?, hgc]
      have z11 : W2.frozen? ⟨g, p2 * 13 + 11, none⟩ = false := by simp [World.frozen?, hgc]
      have z12 : W2.frozen? ⟨g, p2 * 13 + 12, none⟩ = false := by simp [World.frozen?, hgc]
      have hb4 := HB2.out.jump HVK.out p2
      have hoff : OffB g W2 ((((((((((((((W2).setCell ⟨g, p2 * 13, none⟩ (.int .i64 10)).setCell ⟨g, p2 * 13 + 1, none⟩ (.bool false)).setCell ⟨g, p2 * 13 + 2, none⟩ (.int .i64 0)).setCell ⟨g, p2 * 13 + 3, none⟩ (.int .i64 0)).setCell ⟨g, p2 * 13 + 4, none⟩ (.int .i64 0)).setCell ⟨g, p2 * 13 + 5, none⟩ (.int .i64 0)).setCell ⟨g, p2 * 13 + 6, none⟩ (.int .i64 0)).setCell ⟨g, p2 * 13 + 7, none⟩ (.int .i64 0)).setCell ⟨g, p2 * 13 + 8, none⟩ (.int .i64 0)).setCell ⟨g, p2 * 13 + 9, none⟩ (.int .i64 0)).setCell ⟨g, p2 * 13 + 10, none⟩ (.int .i64 0)).setCell ⟨g, p2 * 13 + 11, none⟩ (.string ⟨#[108, 48, 48]⟩)).setCell ⟨g, p2 * 13 + 12, none⟩ (.slice none 0 0)) := fun B hB => by
        iterate 12 refine (setCell_other hB _ _).trans ?_
        exact setCell_other hB _ _
      have hold : ∀ w0, Later w0 w → w0.heap.size ≤ N → Later w0 ((((((((((((((W2).setCell ⟨g, p2 * 13, none⟩ (.int .i64 10)).setCell ⟨g, p2 * 13 + 1, none⟩ (.bool false)).setCell ⟨g, p2 * 13 + 2, none⟩ (.int .i64 0)).setCell ⟨g, p2 * 13 + 3, none⟩ (.int .i64 0)).setCell ⟨g, p2 * 13 + 4, none⟩ (.int .i64 0)).setCell ⟨g, p2 * 13 + 5, none⟩ (.int .i64 0)).setCell ⟨g, p2 * 13 + 6, none⟩ (.int .i64 0)).setCell ⟨g, p2 * 13 + 7, none⟩ (.int .i64 0)).setCell ⟨g, p2 * 13 + 8, none⟩ (.int .i64 0)).setCell ⟨g, p2 * 13 + 9, none⟩ (.int .i64 0)).setCell ⟨g, p2 * 13 + 10, none⟩ (.int .i64 0)).setCell ⟨g, p2 * 13 + 11, none⟩ (.string ⟨#[108, 48, 48]⟩)).setCell ⟨g, p2 * 13 + 12, none⟩ (.slice none 0 0)) := fun w0 h0 h1 => by
        iterate 13 refine Later.setCell ?_ (by omega) _ _
        exact HL2.out w0 h0 h1
      have hszc : w.heap.size ≤ ((((((((((((((W2).setCell ⟨g, p2 * 13, none⟩ (.int .i64 10)).setCell ⟨g, p2 * 13 + 1, none⟩ (.bool false)).setCell ⟨g, p2 * 13 + 2, none⟩ (.int .i64 0)).setCell ⟨g, p2 * 13 + 3, none⟩ (.int .i64 0)).setCell ⟨g, p2 * 13 + 4, none⟩ (.int .i64 0)).setCell ⟨g, p2 * 13 + 5, none⟩ (.int .i64 0)).setCell ⟨g, p2 * 13 + 6, none⟩ (.int .i64 0)).setCell ⟨g, p2 * 13 + 7, none⟩ (.int .i64 0)).setCell ⟨g, p2 * 13 + 8, none⟩ (.int .i64 0)).setCell ⟨g, p2 * 13 + 9, none⟩ (.int .i64 0)).setCell ⟨g, p2 * 13 + 10, none⟩ (.int .i64 0)).setCell ⟨g, p2 * 13 + 11, none⟩ (.string ⟨#[108, 48, 48]⟩)).setCell ⟨g, p2 * 13 + 12, none⟩ (.slice none 0 0)).heap.size := by
        iterate 13 rw [size_set]
        rw [HA.out]
        omega
      have hto : BentTo w ((((((((((((((W2).setCell ⟨g, p2 * 13, none⟩ (.int .i64 10)).setCell ⟨g, p2 * 13 + 1, none⟩ (.bool false)).setCell ⟨g, p2 * 13 + 2, none⟩ (.int .i64 0)).setCell ⟨g, p2 * 13 + 3, none⟩ (.int .i64 0)).setCell ⟨g, p2 * 13 + 4, none⟩ (.int .i64 0)).setCell ⟨g, p2 * 13 + 5, none⟩ (.int .i64 0)).setCell ⟨g, p2 * 13 + 6, none⟩ (.int .i64 0)).setCell ⟨g, p2 * 13 + 7, none⟩ (.int .i64 0)).setCell ⟨g, p2 * 13 + 8, none⟩ (.int .i64 0)).setCell ⟨g, p2 * 13 + 9, none⟩ (.int .i64 0)).setCell ⟨g, p2 * 13 + 10, none⟩ (.int .i64 0)).setCell ⟨g, p2 * 13 + 11, none⟩ (.string ⟨#[108, 48, 48]⟩)).setCell ⟨g, p2 * 13 + 12, none⟩ (.slice none 0 0)) N (K + 1) n b (.slice (some ⟨gq, 0, none⟩) n q1) vs S := ⟨hb4.more (Nat.le_succ K), HS2.out.off hoff hgc (by decide) (by decide), hold, fun B cs h => prog_off hoff hgc (by decide) (HPR2.out B cs h), hszc⟩
      have HP4 := (hoff A (type_ne HP hgc (by decide))).trans HP
      have HR4 := (hoff (A + 1) (type_ne HR hgc (by decide))).trans HR
      clear hb4 hoff HP HR hgc hold hszc
      go_upto_region 33 with (go_at_call 22; apply Calls.mono; (focus (with_reducible (first | exact c2 _ | exact c3 _ | exact c4 _))); rintro e wn ⟨rfl, hr⟩; obtain rfl := hr.symm)
      generalize (((((((((((((W2).setCell ⟨g, p2 * 13, none⟩ (.int .i64 10)).setCell ⟨g, p2 * 13 + 1, none⟩ (.bool false)).setCell ⟨g, p2 * 13 + 2, none⟩ (.int .i64 0)).setCell ⟨g, p2 * 13 + 3, none⟩ (.int .i64 0)).setCell ⟨g, p2 * 13 + 4, none⟩ (.int .i64 0)).setCell ⟨g, p2 * 13 + 5, none⟩ (.int .i64 0)).setCell ⟨g, p2 * 13 + 6, none⟩ (.int .i64 0)).setCell ⟨g, p2 * 13 + 7, none⟩ (.int .i64 0)).setCell ⟨g, p2 * 13 + 8, none⟩ (.int .i64 0)).setCell ⟨g, p2 * 13 + 9, none⟩ (.int .i64 0)).setCell ⟨g, p2 * 13 + 10, none⟩ (.int .i64 0)).setCell ⟨g, p2 * 13 + 11, none⟩ (.string ⟨#[108, 48, 48]⟩)).setCell ⟨g, p2 * 13 + 12, none⟩ (.slice none 0 0) = W4 at *
      clear e0 e1 d0 d1 f0 f1
      obtain ⟨e0, e1, -, -⟩ := box2_facts HP4
      obtain ⟨d0, d1, f0, f1⟩ := box2_facts HR4
      have hst := hto.stored HR4 (by omega) (by rw [HA.out]; omega) (.slice (some ⟨b, 0, none⟩) 3 3) (.slice (some ⟨gq, 0, none⟩) n q1)
      obtain ⟨r0, r1, -, -⟩ := box2_facts (prog_stored HR4 (.slice (some ⟨b, 0, none⟩) 3 3) (.slice (some ⟨gq, 0, none⟩) n q1))
      clear HP4 HR4 hto
      go_wp2
      refine bodyPost_ret (by simp [results, Tryd.results12, go_sem, r0, r1]; try rfl) rfl ?_
      first | exact ⟨3, S, rfl, by omega, hst⟩ | exact ⟨S, rfl, by omega, hst⟩ | exact ⟨3, rfl, by omega, S, hst⟩
    · skip
      have hTl : T.length = T.length := rfl
      generalize hm : T.length = m at *
      obtain ⟨r, rfl⟩ : ∃ r, m = r + 1 := ⟨m - 1, by omega⟩
      obtain ⟨⟨x2, L2⟩, hx2⟩ : ∃ a, T[r]? = some a := ⟨_, List.getElem?_eq_getElem (by omega)⟩
      have HTL : Hid (T.length = r + 1) := hm
      have c5 := c2
      rw [show ((r + 1 : Nat) : Int) = (r : Int) + 1 by omega] at c5
      clear hm hTl
      obtain ⟨g1, o1, hgo, okx, -, c0', -⟩ := HT2.out.insRow.get hx2
      simp only [Option.some.injEq, Addr.mk.injEq] at hgo
      obtain ⟨rfl, rfl, -⟩ := hgo
      simp only [Nat.zero_add] at c0'
      have hz : W2.frozen? ⟨g, r * 13, none⟩ = false := by simp [World.frozen?, hgc]
      have hb4 := HB2.out.field HVK.out r 0 (by omega) (.int .i64 13) (fun x => (⟨13, x.lock, x.cond, ⟨x.a.kind, x.a.reg, x.a.sym, x.a.n⟩, ⟨x.b.kind, x.b.reg, x.b.sym, x.b.n⟩, x.dest, x.labels⟩ : Ins)) (fun x L => rfl) (fun x h => ⟨by show I64 13; unfold I64; omega, h.cond, h.a, h.b, h.dest⟩) (fun x h => h) (fun x => rfl)
      have hoff := off_set W2 g (r * 13 + 0) (.int .i64 13)
      have hto : BentTo w (W2.setCell ⟨g, r * 13, none⟩ (.int .i64 13)) N (K + 1) n b (.slice (some ⟨gq, 0, none⟩) n q1) vs S := ⟨hb4.more (Nat.le_succ K), HS2.out.off hoff hgc (by decide) (by decide), fun w0 h0 h1 => Later.setCell (HL2.out w0 h0 h1) (by omega) _ _, fun B cs h => prog_off hoff hgc (by decide) (HPR2.out B cs h), by rw [size_set, HA.out]; omega⟩
      have hgA : A ≠ g ∧ A + 1 ≠ g := ⟨type_ne HP hgc (by decide), type_ne HR hgc (by decide)⟩
      have HP4 := (setCell_other hgA.1 (r * 13) (.int .i64 13)).trans HP
      have HR4 := (setCell_other hgA.2 (r * 13) (.int .i64 13)).trans HR
      clear hb4 hoff HP HR hgA hgc hx2
      go_upto_region 33 with (go_at_call 22; apply Calls.mono; (focus (with_reducible (first | exact c2 _ | exact c3 _ | exact c4 _ | exact c5 _))); rintro e wn ⟨rfl, hr⟩; obtain rfl := hr.symm)
      generalize W2.setCell ⟨g, r * 13, none⟩ (.int .i64 13) = W4 at *
      clear e0 e1 d0 d1 f0 f1
      obtain ⟨e0, e1, -, -⟩ := box2_facts HP4
      obtain ⟨d0, d1, f0, f1⟩ := box2_facts HR4
      have hst := hto.stored HR4 (by omega) (by rw [HA.out]; omega) (.slice (some ⟨b, 0, none⟩) 3 3) (.slice (some ⟨gq, 0, none⟩) n q1)
      obtain ⟨r0, r1, -, -⟩ := box2_facts (prog_stored HR4 (.slice (some ⟨b, 0, none⟩) 3 3) (.slice (some ⟨gq, 0, none⟩) n q1))
      clear HP4 HR4 hto
      go_wp2
      refine bodyPost_ret (by simp [results, Tryd.results12, go_sem, r0, r1]; try rfl) rfl ?_
      first | exact ⟨3, S, rfl, by omega, hst⟩ | exact ⟨S, rfl, by omega, hst⟩ | exact ⟨3, rfl, by omega, S, hst⟩
    · skip
      obtain ⟨j5, hj5, hj5n⟩ := pick_nat k2 3 (by omega)
      rw [show ((3 : Nat) : Int) = 3 from rfl] at hj5
      have c5 := fun w' => pick_any k2 3 hk2 (by omega) w'
      rw [hj5] at c5
      have hi5 : I64 (j5 : Int) := by unfold I64; omega
      clear hj5
      have HPd : W2.drew.heap[A]? = some (.cells #[.slice (some ⟨b, 0, none⟩) 3 3, .slice (some ⟨gq, 0, none⟩) n q1] 27) := HP
      have HRd : W2.drew.heap[A + 1]? = some (.cells #[.slice none 0 0, .slice none 0 0] 27) := HR
      have Ld := Later.drew (Later.refl W2)
      have hBd := HB2.out.later Ld
      have hSd := HS2.out.later Ld
      have hoff : OffB A W2.drew (W2.drew.setCell ⟨A, 0, none⟩ (.slice (some ⟨b, 0, none⟩) j5 3)) := off_set W2.drew A 0 _
      have hto : BentTo w (W2.drew.setCell ⟨A, 0, none⟩ (.slice (some ⟨b, 0, none⟩) j5 3)) N (K + 1) n b (.slice (some ⟨gq, 0, none⟩) n q1) vs S := ⟨(hBd.prog hoff HPd).more (Nat.le_succ K), hSd.off hoff HPd (by decide) (by decide), fun w0 h0 h1 => Later.setCell ((HL2.out w0 h0 h1).trans Ld) (by omega) _ _, fun B cs h => (hoff B (fun e => by
        have h1 := lt_block h
        rw [e, HA.out] at h1
        omega)).trans (heap_later Ld (HPR2.out B cs h)), by rw [size_set, HA.out]; have := Ld.size; omega⟩
      have HP4 := prog_set HPd (.slice (some ⟨b, 0, none⟩) j5 3)
      have HR4 := (setCell_other (show A + 1 ≠ A by omega) 0 (.slice (some ⟨b, 0, none⟩) j5 3)).trans HRd
      go_upto_region 6 with (go_at_call 22; apply Calls.mono; (focus (with_reducible (first | exact c2 _ | exact c3 _ | exact c4 _))); rintro e wn ⟨rfl, hr⟩; obtain rfl := hr.symm)
      clear e0 e1 d0 d1 f0 f1
      obtain ⟨e0, e1, f0, f1⟩ := box2_facts HPd
      have hj53 : (j5 : Int) ≤ 3 := by omega
      have hto' : BentTo w ((W2.setCell ⟨A, 0, none⟩ (.slice (some ⟨b, 0, none⟩) j5 3)).drew) N (K + 1) n b (.slice (some ⟨gq, 0, none⟩) n q1) vs S := hto
      have HP4' : ((W2.setCell ⟨A, 0, none⟩ (.slice (some ⟨b, 0, none⟩) j5 3)).drew).heap[A]? = _ := HP4
      have HR4' : ((W2.setCell ⟨A, 0, none⟩ (.slice (some ⟨b, 0, none⟩) j5 3)).drew).heap[A + 1]? = _ := HR4
      clear hoff hBd hSd HP HR HPd HRd hto HP4 HR4
      go_region_law (first | (go_simp; go_at_call 22; apply Calls.mono; (focus (with_reducible (exact c5 W2.drew))); rintro e wn ⟨rfl, hr⟩; obtain rfl := hr.symm))
      all_goals
        have hto := hto'
        have HP4 := HP4'
        have HR4 := HR4'
        clear hto' HP4' HR4'
        generalize (W2.setCell ⟨A, 0, none⟩ (.slice (some ⟨b, 0, none⟩) j5 3)).drew = W4 at *
        clear e0 e1 f0 f1
        obtain ⟨e0, e1, -, -⟩ := box2_facts HP4
        obtain ⟨d0, d1, f0, f1⟩ := box2_facts HR4
        have hst := hto.stored HR4 (by omega) (by rw [HA.out]; omega) (.slice (some ⟨b, 0, none⟩) j5 3) (.slice (some ⟨gq, 0, none⟩) n q1)
        obtain ⟨r0, r1, -, -⟩ := box2_facts (prog_stored HR4 (.slice (some ⟨b, 0, none⟩) j5 3) (.slice (some ⟨gq, 0, none⟩) n q1))
        clear HP4 HR4 hto
        go_wp2
        refine bodyPost_ret (by simp [results, Tryd.results12, go_sem, r0, r1]; try rfl) rfl ?_
        first | exact ⟨j5, S, rfl, by omega, hst⟩ | exact ⟨S, rfl, by omega, hst⟩ | exact ⟨j5, rfl, by omega, S, hst⟩

end Go.Proofs.YtgkdejldpldkiaaDoor
