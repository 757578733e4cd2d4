/-
  Copies of states in memory: rows of the call's own, between two bounds; what leaves them as they are. Conditions: as each theorem names them.
-/
import Derived.Test.YtpnbpjhoilibcaaDoorStateOk
import Derived.Test.YtpnbpjhoilibcaaDoorCloneAll
import Derived.Test.YtpnbpjhoilibcaaDoorOwnSet
namespace Go.Proofs.YtpnbpjhoilibcaaDoor
open Go.RowKit Go.WideShapes
set_option linter.unusedVariables false
set_option linter.unusedSimpArgs false

def intsC (L : List Int) : List Value := L.map (Value.int .i64)
theorem intsC_len (L : List Int) : (intsC L).length = L.length := by simp [intsC]
theorem intsC_flat (L : List Int) : intsC L = flatC (fun n => [Value.int .i64 n]) L := by
  unfold intsC flatC
  induction L with
  | nil => rfl
  | cons a L ih => simp [ih]

theorem mem_src {w : World} {v : Value} {L : List Int} (h : IntsIn w v L) : Src w v L.length 1 (intsC L) := by
  rw [intsC_flat]
  exact src_row h (fun n => [Value.int .i64 n]) (by omega) (fun _ => rfl) (fun a _ u hu => by simp at hu; subst hu; rfl) (fun i a cs _ he => he.1)

theorem ts_src {w : World} {v : Value} {L : List TS} (h : TsRow w v L) : Src w v L.length 16 (flatC tsC L) :=
  src_row h tsC (by omega) tsC_len (fun a _ u hu => tsC_one a u hu) (fun i a cs _ he => he.1)

theorem ent_src {w : World} {v : Value} {L : List (Int × Int)} (h : EntRow w v L) : Src w v L.length 2 (flatC entC L) :=
  src_row h entC (by omega) entC_len (fun a _ u hu => by simp [entC] at hu; rcases hu with rfl | rfl <;> rfl) (fun i a cs _ he => he)

/-- The buffers' own slices. -/
theorem buf_src {w : World} {v : Value} {B : List (List (Int × Int))} (h : BufRow w v B) : ∃ H : List Value, H.length = B.length ∧ (∀ (i : Nat) u l, H[i]? = some u → B[i]? = some l → EntRow w u l) ∧ Src w v B.length 1 H := by
  obtain ⟨p, cap, rfl, h1, h2, h3⟩ := h
  have ex : ∀ (n : Nat), n ≤ B.length → ∃ vs : List Value, vs.length = n ∧ (∀ (i : Nat) u l, vs[i]? = some u → B[i]? = some l → EntRow w u l ∧ ∀ g o, p = some ⟨g, o, none⟩ → w.cell? ⟨g, o + i, none⟩ = some u) := by
    intro n
    induction n with
    | zero => intro _; exact ⟨[], rfl, by simp⟩
    | succ n ih =>
      intro hn
      obtain ⟨vs, v1, v2⟩ := ih (by omega)
      have hT : B[n]? = some (B[n]'(by omega)) := List.getElem?_eq_getElem (by omega)
      obtain ⟨g, o, rfl, h4⟩ := h3 (by rintro rfl; simp at hn)
      obtain ⟨cs, ⟨u, rfl, hu, -⟩, h6⟩ := h4 n _ hT
      refine ⟨vs ++ [u], by simp [v1], fun i z T hz hi => ?_⟩
      rcases Nat.lt_or_ge i n with hin | hin
      · rw [List.getElem?_append_left (by omega)] at hz
        exact v2 i z T hz hi
      · have hil := (List.getElem?_eq_some_iff.1 hz).1
        simp at hil
        obtain rfl : i = n := by omega
        rw [List.getElem?_append_right (by omega), v1, Nat.sub_self] at hz
        cases hz
        rw [hT] at hi
        cases hi
        refine ⟨hu, fun g' o' e => ?_⟩
        cases e
        have := h6 0 u rfl
        rwa [Nat.mul_one] at this
  obtain ⟨vs, v1, v2⟩ := ex B.length (Nat.le_refl _)
  have hget : ∀ (i : Nat) u, vs[i]? = some u → ∃ l, B[i]? = some l := fun i u hu => ⟨_, List.getElem?_eq_getElem (by rw [← v1]; exact (List.getElem?_eq_some_iff.1 hu).1)⟩
  refine ⟨vs, v1, fun i u l hu hl => (v2 i u l hu hl).1, p, cap, rfl, by rw [v1, Nat.mul_one], fun u hu => ?_, fun hp => ?_, fun a ha j u hj => ?_⟩
  · obtain ⟨i, hi, rfl⟩ := List.getElem_of_mem hu
    obtain ⟨l, hl⟩ := hget i _ (List.getElem?_eq_getElem hi)
    obtain ⟨q, c, e, -⟩ := RowIn.slice (v2 i _ l (List.getElem?_eq_getElem hi) hl).1
    rw [e]; rfl
  · subst hp
    rcases B with _ | ⟨l, B⟩
    · rfl
    · obtain ⟨g, o, e, -⟩ := h3 (by simp)
      cases e
  · obtain ⟨l, hl⟩ := hget j u hj
    obtain ⟨g, o, rfl, -⟩ := h3 (by rintro rfl; simp at hl)
    cases ha
    rw [add_plain]
    exact (v2 j u l hj hl).2 g o rfl

/-- append of a row in memory to no slice: a row of the call's own with the same cells. -/
theorem wp_append_src {o : Oper} {a : Act} {w : World} {K : Act → World → Prop} {Q : Exit → Act → World → Prop} (hg : o.guard = none) (s x : Operand) (t : TypeId)
    (ho : o.op = .call { callee := .builtin .append, args := #[s, x], argTypes := #[t, t] })
    (e : TypeId) (i : TypeInfo) (z : Value) (size bytes : Nat) (ht : Tryd.prog.underlying t = some (.slice e)) (hi : Tryd.prog.info? e = some i) (hz : i.zero = some z)
    (hsize : i.size = size) (hby : i.bytes = bytes) (hzs : z.cells.size = size) (hsz : 0 < size) (hs : a.eval s = .slice none 0 0)
    (v : Value) (n : Nat) (C : List Value) (hx : a.eval x = v) (hv : Src w v n size C) (hn : n ≤ 1000000) (hb : n * bytes ≤ 140737488355328)
    (h : ∀ p q w', w'.ownsRow w.heap.size e size (.slice p n q) n C → Later w w' → K (a.put o.dst (.slice p n q)) w') : Oper.wp Tryd.prog o a w K Q := by
  obtain ⟨p, cap, rfl, hlen, hone, hp, hnews⟩ := hv
  cases p with
  | none =>
    obtain rfl := hp rfl
    obtain rfl : C = [] := List.length_eq_zero_iff.1 (by omega)
    have hr : (Builtin.append_ #[t, t] o.type #[.slice none 0 0, .slice none 0 cap]).run Tryd.prog w = .ok (.slice none 0 0) w := by
      simp [Builtin.append_, run_underlying ht, sizeOf, typeInfo, hi, Builtin.lenOf, Builtin.firstCells, loadCells, loadCellsFrom]
    unfold Oper.wp execOp
    simp only [ho, resolve, invoke, builtin, Sem.run_bind, Sem.run_pure, Result.andThen_ok, List.map_toArray, List.map_cons, List.map_nil, hs, hx, hr]
    exact h none 0 w (World.ownsRow_nil _ _ _ _) (Later.refl w)
  | some ad =>
    have h0 := wp_append_own (K := K) (Q := Q) (o := o) (a := a) w s x t ho w.heap.size e i z size bytes ht hi hz hsize hby hzs hsz (.slice none 0 0) 0 [] hs (World.ownsRow_nil _ _ _ _) ad n cap C hx hlen (hnews ad rfl) hone (by unfold maxLen; omega) (by rw [Nat.zero_add]; exact hb) (Nat.le_refl _)
    refine h0 (fun v' w' hown hgrow _ => ?_)
    obtain ⟨p', q', rfl⟩ := owns_slice hown
    rw [List.nil_append, Nat.zero_add] at hown
    have := h p' q' w' hown (Below.grown (Below.refl _ _) hgrow (Nat.le_refl _) (fun j hj => by cases hj))
    rwa [Nat.zero_add]

/-! ### Rows between two bounds -/

/-- A row of the call's own, its block below hi. -/
def OwnIn (lo hi : Nat) (w : World) (e : TypeId) (k : Nat) (v : Value) (n : Nat) (xs : List Value) : Prop := w.ownsRow lo e k v n xs ∧ ∀ g, v.ownBlock = some g → g < hi

theorem OwnIn.of {lo : Nat} {w : World} {e : TypeId} {k : Nat} {v : Value} {n : Nat} {xs : List Value} (h : w.ownsRow lo e k v n xs) : OwnIn lo w.heap.size w e k v n xs := ⟨h, fun g hg => (h.lt g hg).2⟩

/-- The blocks between the bounds stand as they stood. -/
def KeptIn (lo hi : Nat) (w w' : World) : Prop := ∀ g, lo ≤ g → g < hi → w'.heap[g]? = w.heap[g]?

theorem OwnIn.kept {lo hi : Nat} {w w' : World} {e : TypeId} {k : Nat} {v : Value} {n : Nat} {xs : List Value} (h : OwnIn lo hi w e k v n xs) (hk : KeptIn lo hi w w') : OwnIn lo hi w' e k v n xs := by
  obtain ⟨h1, h2⟩ := h
  refine ⟨⟨h1.1, ?_⟩, h2⟩
  rcases h1.2 with hn | ⟨g, cap, cur, rfl, hb, hg, rest⟩
  · exact .inl hn
  · exact .inr ⟨g, cap, cur, rfl, hb, by rw [hk g hb (h2 g rfl)]; exact hg, rest⟩

theorem OwnIn.wide {lo lo' hi hi' : Nat} {w : World} {e : TypeId} {k : Nat} {v : Value} {n : Nat} {xs : List Value} (h : OwnIn lo hi w e k v n xs) (h1 : lo' ≤ lo) (h2 : hi ≤ hi') : OwnIn lo' hi' w e k v n xs := ⟨owns_base h.1 h1, fun g hg => Nat.lt_of_lt_of_le (h.2 g hg) h2⟩

theorem KeptIn.refl (lo hi : Nat) (w : World) : KeptIn lo hi w w := fun _ _ _ => rfl
theorem KeptIn.trans {lo hi : Nat} {a b c : World} (h : KeptIn lo hi a b) (k : KeptIn lo hi b c) : KeptIn lo hi a c := fun g h1 h2 => (k g h1 h2).trans (h g h1 h2)
theorem KeptIn.later {lo hi : Nat} {w w' : World} (h : Later w w') (hh : hi ≤ w.heap.size) : KeptIn lo hi w w' := fun g _ h2 => h.block g (by omega)
theorem KeptIn.set {lo hi : Nat} {w : World} {B : Nat} (hB : B < lo ∨ hi ≤ B) (j : Nat) (u : Value) : KeptIn lo hi w (w.setCell ⟨B, j, none⟩ u) := fun g h1 h2 => by
  show (w.heap.modify B _)[g]? = _
  rw [Array.getElem?_modify, if_neg (by omega)]

/-- A state whose rows are the call's own, between two bounds; H: its buffers' slices. -/
structure MsOwn (lo hi : Nat) (w : World) (m t b : Value) (s : MSt) (H : List Value) : Prop where
  mem : OwnIn lo hi w 2 1 m s.mem.length (intsC s.mem)
  thr : OwnIn lo hi w 38 16 t s.thr.length (flatC tsC s.thr)
  bufs : OwnIn lo hi w 39 1 b s.bufs.length H
  len : H.length = s.bufs.length
  each : ∀ (i : Nat) u l, H[i]? = some u → s.bufs[i]? = some l → OwnIn lo hi w 41 2 u l.length (flatC entC l)
  ok : s.Ok

theorem MsOwn.kept {lo hi : Nat} {w w' : World} {m t b : Value} {s : MSt} {H : List Value} (h : MsOwn lo hi w m t b s H) (hk : KeptIn lo hi w w') : MsOwn lo hi w' m t b s H :=
  ⟨h.mem.kept hk, h.thr.kept hk, h.bufs.kept hk, h.len, fun i u l hu hl => (h.each i u l hu hl).kept hk, h.ok⟩

theorem MsOwn.wide {lo lo' hi hi' : Nat} {w : World} {m t b : Value} {s : MSt} {H : List Value} (h : MsOwn lo hi w m t b s H) (h1 : lo' ≤ lo) (h2 : hi ≤ hi') : MsOwn lo' hi' w m t b s H :=
  ⟨h.mem.wide h1 h2, h.thr.wide h1 h2, h.bufs.wide h1 h2, h.len, fun i u l hu hl => (h.each i u l hu hl).wide h1 h2, h.ok⟩

theorem ints_own {lo hi : Nat} {w : World} {v : Value} {n : Nat} {L : List Int} (hn : L.length = n) (h : OwnIn lo hi w 2 1 v n (intsC L)) (hL : ∀ a ∈ L, I64 a) : IntsIn w v L := by
  have h1 := h.1
  rw [intsC_flat] at h1
  exact RowIn.of_owns (E := IntE) (f := fun n : Int => [Value.int .i64 n]) (k := 1) (fun _ => rfl) (by omega) hn h1 (fun a ha => ⟨rfl, hL a ha⟩)

theorem ts_own {lo hi : Nat} {w : World} {v : Value} {n : Nat} {L : List TS} (hn : L.length = n) (h : OwnIn lo hi w 38 16 v n (flatC tsC L)) (hL : ∀ a ∈ L, a.Ok) : TsRow w v L :=
  RowIn.of_owns tsC_len (by omega) hn h.1 (fun a ha => ⟨rfl, hL a ha⟩)

theorem flatV (xs : List Value) : flatC (fun v => [v]) xs = xs := by
  unfold flatC
  induction xs with
  | nil => rfl
  | cons a xs ih => simp [ih]

/-- Slices of entries, whose buffers they are. -/
theorem bufs_own {lo hi : Nat} {w : World} {v : Value} {n : Nat} {H : List Value} {B : List (List (Int × Int))} (hn : B.length = n) (hH : H.length = n) (h : OwnIn lo hi w 39 1 v n H)
    (hE : ∀ (i : Nat) u l, H[i]? = some u → B[i]? = some l → EntRow w u l) (h64 : ∀ l ∈ B, ∀ x ∈ l, I64 x.1 ∧ I64 x.2) : BufRow w v B := by
  subst hn
  have h1 := h.1
  rw [← flatV H] at h1
  obtain ⟨a, cap, rfl, hrow⟩ := crow_of_owns (by rw [flatC_length (fun v => [v]) 1 (fun _ => rfl), hH]) h1
  obtain ⟨c1, c2⟩ := owns_cap h1
  refine ⟨a, cap, rfl, c1, c2, fun hne => ?_⟩
  obtain ⟨l0, B', rfl⟩ := List.exists_cons_of_ne_nil hne
  have h0 : H[0]? = some (H[0]'(by rw [hH]; simp)) := List.getElem?_eq_getElem _
  obtain ⟨g, rfl⟩ := CRow.some (f := fun v : Value => [v]) (n := 1) (fun _ => rfl) (by omega) hrow h0
  refine ⟨g, 0, rfl, fun i l hi => ?_⟩
  have hil := (List.getElem?_eq_some_iff.1 hi).1
  have hu : H[i]? = some (H[i]'(by omega)) := List.getElem?_eq_getElem (by omega)
  refine ⟨[H[i]'(by omega)], ⟨_, rfl, hE i _ l hu hi, h64 l (List.mem_of_getElem? hi)⟩, fun j c hj => ?_⟩
  obtain rfl : j = 0 := by
    have := (List.getElem?_eq_some_iff.1 hj).1
    simp at this
    omega
  simp at hj
  subst hj
  have := CRow.cell (f := fun v : Value => [v]) (n := 1) (fun _ => rfl) hrow hu (k := 0) (by omega) rfl
  rwa [Nat.zero_add]

theorem MsOwn.isIn {lo hi : Nat} {w : World} {m t b : Value} {s : MSt} {H : List Value} (h : MsOwn lo hi w m t b s H) : MsIn w m t b s :=
  ⟨ints_own rfl h.mem h.ok.mem, ts_own rfl h.thr h.ok.thr, bufs_own rfl h.len h.bufs (fun i u l hu hl => EntRow.of_owns rfl (h.each i u l hu hl).1) h.ok.bufs, h.ok.lock⟩

/-- A slice's cell of a row of the call's own. -/
theorem own_slot {lo hi : Nat} {w : World} {p : Option Addr} {n cap : Nat} {e : TypeId} {H : List Value} (hH : H.length = n) (h : OwnIn lo hi w e 1 (.slice p n cap) n H) {i : Nat} {u : Value} (hu : H[i]? = some u) :
    ∃ g cur, p = some ⟨g, 0, none⟩ ∧ lo ≤ g ∧ g < hi ∧ w.heap[g]? = some (.cells cur e) ∧ w.cell? ⟨g, i, none⟩ = some u ∧ w.frozen? ⟨g, i, none⟩ = false := by
  have hil := (List.getElem?_eq_some_iff.1 hu).1
  have h1 := h.1
  rw [← flatV H] at h1
  obtain ⟨a, cap', hv, hrow⟩ := crow_of_owns (by rw [flatC_length (fun v => [v]) 1 (fun _ => rfl), hH]) h1
  cases hv
  obtain ⟨h2, h3⟩ := h
  rcases h2.2 with ⟨-, hz⟩ | ⟨g, cap', cur, hv, hb, hg, -⟩
  · omega
  · cases hv
    refine ⟨g, cur, rfl, hb, h3 g rfl, hg, ?_, by simp [World.frozen?, hg]⟩
    have := CRow.cell (f := fun v : Value => [v]) (n := 1) (fun _ => rfl) hrow hu (k := 0) (by omega) rfl
    rwa [Nat.mul_one, Nat.add_zero] at this

/-- Buffers of which the first i are the call's own; W: where the others lie. -/
structure HalfB (W w : World) (N : Nat) (v : Value) (B : List (List (Int × Int))) (H : List Value) (i : Nat) : Prop where
  row : w.ownsRow N 39 1 v B.length H
  len : H.length = B.length
  each : ∀ (j : Nat) l, B[j]? = some l → ∃ u, H[j]? = some u ∧ (j < i → w.ownsRow N 41 2 u l.length (flatC entC l)) ∧ (i ≤ j → EntRow W u l)

theorem HalfB.later {W w w' : World} {N : Nat} {v : Value} {B : List (List (Int × Int))} {H : List Value} {i : Nat} (h : HalfB W w N v B H i) (hl : Later w w') : HalfB W w' N v B H i :=
  ⟨ownsC_later h.row hl, h.len, fun j l hj => by
    obtain ⟨u, h1, h2, h3⟩ := h.each j l hj
    exact ⟨u, h1, fun hi => ownsC_later (h2 hi) hl, h3⟩⟩

theorem HalfB.next {W w : World} {N g n cap : Nat} {B : List (List (Int × Int))} {H : List Value} {i : Nat} (h : HalfB W w N (.slice (some ⟨g, 0, none⟩) n cap) B H i) {l : List (Int × Int)} (hi : B[i]? = some l) {u : Value} (ho : w.ownsRow N 41 2 u l.length (flatC entC l)) {cur : Array Value} (hg : w.heap[g]? = some (.cells cur 39)) (hn : B.length = n) :
    HalfB W (w.setCell ⟨g, i, none⟩ u) N (.slice (some ⟨g, 0, none⟩) n cap) B (H.set i u) (i + 1) := by
  obtain ⟨l0, h1, -, h3⟩ := h.each i l hi
  have hil := (List.getElem?_eq_some_iff.1 h1).1
  subst hn
  refine ⟨owns_set_own h.row u, by rw [List.length_set]; exact h.len, fun j U hj => ?_⟩
  obtain ⟨l1, k1, k2, k3⟩ := h.each j U hj
  by_cases hji : j = i
  · subst hji
    rw [hi] at hj
    cases hj
    exact ⟨u, List.getElem?_set_self hil, fun _ => owns_set_other ho hg (fun cs fz e0 => by cases e0) _ _, fun h => absurd h (by omega)⟩
  · exact ⟨l1, by rw [List.getElem?_set_ne (Ne.symm hji)]; exact k1, fun h => owns_set_other (k2 (by omega)) hg (fun cs fz e0 => by cases e0) _ _, fun h => k3 (by omega)⟩

theorem HalfB.off {W w : World} {N : Nat} {v : Value} {B : List (List (Int × Int))} {H : List Value} {i : Nat} (h : HalfB W w N v B H i) {C : Nat} {ob : Obj} (hC : w.heap[C]? = some ob) (h0 : ∀ cs fz, ob ≠ .cells cs 39 fz) (h1 : ∀ cs fz, ob ≠ .cells cs 41 fz) (j : Nat) (u : Value) : HalfB W (w.setCell ⟨C, j, none⟩ u) N v B H i :=
  ⟨owns_set_other h.row hC h0 j u, h.len, fun k l hk => by
    obtain ⟨z, e1, e2, e3⟩ := h.each k l hk
    exact ⟨z, e1, fun hi => owns_set_other (e2 hi) hC h1 j u, e3⟩⟩

theorem HalfB.done {W w : World} {N n : Nat} {v : Value} {B : List (List (Int × Int))} {H : List Value} (hn : B.length = n) (h : HalfB W w N v B H n) : ∀ (i : Nat) u l, H[i]? = some u → B[i]? = some l → w.ownsRow N 41 2 u l.length (flatC entC l) := fun i u l hu hl => by
  obtain ⟨z, e1, e2, -⟩ := h.each i l hl
  rw [hu] at e1
  cases e1
  exact e2 (by rw [← hn]; exact (List.getElem?_eq_some_iff.1 hl).1)

theorem wpList_append_src {ops : Array Oper} {rest : List Oper} {o : Oper} {a : Act} {w : World} {Q : Exit → Act → World → Prop} (hg : o.guard = none) (s x : Operand) (t : TypeId)
    (ho : o.op = .call { callee := .builtin .append, args := #[s, x], argTypes := #[t, t] })
    (e : TypeId) (i : TypeInfo) (z : Value) (size bytes : Nat) (ht : Tryd.prog.underlying t = some (.slice e)) (hi : Tryd.prog.info? e = some i) (hz : i.zero = some z)
    (hsize : i.size = size) (hby : i.bytes = bytes) (hzs : z.cells.size = size) (hsz : 0 < size) (hs : a.eval s = .slice none 0 0)
    (v : Value) (n : Nat) (C : List Value) (hx : a.eval x = v) (hv : Src w v n size C) (hn : n ≤ 1000000) (hb : n * bytes ≤ 140737488355328)
    (h : ∀ p q w', w'.ownsRow w.heap.size e size (.slice p n q) n C → Later w w' → wpList Tryd.prog ops Q rest (a.put o.dst (.slice p n q)) w') : wpList Tryd.prog ops Q (o :: rest) a w :=
  wpList_plain hg fun _ hK => wp_append_src hg s x t ho e i z size bytes ht hi hz hsize hby hzs hsz hs v n C hx hv hn hb (fun p q w' h1 h2 => hK _ _ (h p q w' h1 h2))

/-- A copy that is under way: a box with three rows of the call's own. -/
structure CopyAt (W w : World) (C : Nat) (m t b : Value) (x : MSt) (n1 n2 i : Nat) (H : List Value) : Prop where
  later : Later W w
  box : w.heap[C]? = some (.cells #[m, t, b, .int .i64 x.lock] 26)
  mem : w.ownsRow W.heap.size 2 1 m n1 (intsC x.mem)
  thr : w.ownsRow W.heap.size 38 16 t n2 (flatC tsC x.thr)
  bufs : w.ownsRow W.heap.size 39 1 b i H
  len : H.length = i
  each : ∀ (j : Nat) u l, H[j]? = some u → x.bufs[j]? = some l → w.ownsRow W.heap.size 41 2 u l.length (flatC entC l)

theorem CopyAt.next {W w w' : World} {C : Nat} {m t b : Value} {x : MSt} {n1 n2 i : Nat} {H : List Value} (h : CopyAt W w C m t b x n1 n2 i H) (hl : Later w w') : CopyAt W w' C m t b x n1 n2 i H :=
  ⟨h.later.trans hl, heap_later hl h.box, ownsC_later h.mem hl, ownsC_later h.thr hl, ownsC_later h.bufs hl, h.len, fun j u l hu hx => ownsC_later (h.each j u l hu hx) hl⟩

/-- Behind the append of one more buffer, ahead of the store. -/
theorem CopyAt.grow {W w w' : World} {C : Nat} {m t b b' u : Value} {x : MSt} {n1 n2 i : Nat} {H : List Value} (h : CopyAt W w C m t b x n1 n2 i H) (hg : w.grownBy w' b.ownBlock) (hown : w'.ownsRow W.heap.size 39 1 b' (i + 1) (H ++ [u]))
    {l : List (Int × Int)} (hx : x.bufs[i]? = some l) (ho : w.ownsRow W.heap.size 41 2 u l.length (flatC entC l)) :
    Later W w' ∧ w'.heap[C]? = some (.cells #[m, t, b, .int .i64 x.lock] 26) ∧ (W.heap.size ≤ C → CopyAt W (w'.setCell ⟨C, 2, none⟩ b') C m t b' x n1 n2 (i + 1) (H ++ [u])) := by
  have hl : Later W w' := Below.grown h.later hg h.later.size (fun j hj => (h.bufs.lt j hj).1)
  have hC := other_kept h.bufs hg h.box (fun cs fz e0 => by cases e0)
  refine ⟨hl, hC, fun hW => ⟨Later.setCell hl hW 2 b', setCell_block hC 2 b', ?_, ?_, ?_, by simp [h.len], fun j v k hv hk => ?_⟩⟩
  · exact owns_set_other (owns_kept (by decide) h.bufs h.mem hg) hC (fun cs fz e0 => by cases e0) _ _
  · exact owns_set_other (owns_kept (by decide) h.bufs h.thr hg) hC (fun cs fz e0 => by cases e0) _ _
  · exact owns_set_other hown hC (fun cs fz e0 => by cases e0) _ _
  · refine owns_set_other (owns_kept (by decide) h.bufs ?_ hg) hC (fun cs fz e0 => by cases e0) _ _
    rcases Nat.lt_or_ge j i with hji | hji
    · rw [List.getElem?_append_left (by rw [h.len]; exact hji)] at hv
      exact h.each j v k hv hk
    · have hjl := (List.getElem?_eq_some_iff.1 hv).1
      simp [h.len] at hjl
      obtain rfl : j = i := by omega
      rw [List.getElem?_append_right (by rw [h.len]; omega), h.len, Nat.sub_self] at hv
      cases hv
      rw [hx] at hk
      cases hk
      exact ho

theorem CopyAt.done {W w : World} {C : Nat} {m t b : Value} {x : MSt} {n1 n2 n3 : Nat} {H : List Value} (h : CopyAt W w C m t b x n1 n2 n3 H) (h1 : x.mem.length = n1) (h2 : x.thr.length = n2) (h3 : x.bufs.length = n3) (hok : x.Ok) : MsOwn W.heap.size w.heap.size w m t b x H :=
  ⟨by rw [h1]; exact OwnIn.of h.mem, by rw [h2]; exact OwnIn.of h.thr, by rw [h3]; exact OwnIn.of h.bufs, by rw [h.len, h3], fun i u l hu hl => OwnIn.of (h.each i u l hu hl), hok⟩

end Go.Proofs.YtpnbpjhoilibcaaDoor
