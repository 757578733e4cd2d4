/-
  How long a program's text is at most. Conditions: as each theorem names them.
-/
import Derived.Test.YtegogmbcjjjjjaaDoorShowPlain
import Derived.Test.YtegogmbcjjjjjaaDoorJl
namespace Go.Proofs.YtegogmbcjjjjjaaDoor
open Go.RowKit
set_option linter.unusedVariables false
set_option linter.unusedSimpArgs false

theorem flatM_bound {α : Type} {f : α → List UInt8} {m : Nat} : ∀ {l : List α}, (∀ x ∈ l, (f x).length ≤ m) → (l.flatMap f).length ≤ l.length * m
  | [], _ => by simp
  | x :: r, h => by
    have h1 := h x (List.mem_cons_self ..)
    have h2 := flatM_bound (l := r) (fun y hy => h y (List.mem_cons_of_mem _ hy))
    rw [List.flatMap_cons, List.length_append, List.length_cons, Nat.add_mul]
    omega

/-- Numbers of 64 bits, and few of all things. -/
structure SmallP (S : Syms) (P : List Thr) : Prop where
  syms : S.length ≤ 66
  name : ∀ s ∈ S, s.1.name.size ≤ 60
  size : ∀ s ∈ S, I64 s.1.size
  inits : ∀ s ∈ S, s.2.length ≤ 66
  init : ∀ s ∈ S, ∀ n ∈ s.2, I64 n
  thrs : P.length ≤ 66
  inss : ∀ T ∈ P, T.length ≤ 100
  ok : ∀ T ∈ P, ∀ x ∈ T, x.1.Ok
  dest : ∀ T ∈ P, ∀ x ∈ T, x.1.dest.size ≤ 60
  labs : ∀ T ∈ P, ∀ x ∈ T, x.2.length ≤ 6
  lab : ∀ T ∈ P, ∀ x ∈ T, ∀ t ∈ x.2, t.size ≤ 60

theorem symL_length {s : Sym × List Int} (h1 : s.1.name.size ≤ 60) (h2 : I64 s.1.size) (h3 : s.2.length ≤ 66) (h4 : ∀ n ∈ s.2, I64 n) : (symL s).length ≤ 1600 := by
  have a := txt_size s.1.size h2.1 h2.2
  have b : (s.2.flatMap (fun n => [32] ++ (txt n).data.toList)).length ≤ s.2.length * 22 := flatM_bound fun n hn => by
    have := txt_size n (h4 n hn).1 (h4 n hn).2
    rw [List.length_append, bytes_size]
    simp only [List.length_cons, List.length_nil]
    omega
  unfold symL
  simp only [List.length_append, bytes_size, List.length_cons, List.length_nil]
  omega

theorem insL_length {N : List ByteArray} {x : Ins × List ByteArray} (hN : ∀ t ∈ N, t.size ≤ 60) (h1 : x.1.Ok) (h2 : x.1.dest.size ≤ 60) (h3 : x.2.length ≤ 6) (h4 : ∀ t ∈ x.2, t.size ≤ 60) : (insL N x).length ≤ 600 := by
  have a := insT_size x.1 h1.a.2.2.2 h1.b.2.2.2 N 60 hN h2
  have b : (x.2.flatMap (fun l => l.data.toList ++ [58, 10])).length ≤ x.2.length * 62 := flatM_bound fun t ht => by
    have := h4 t ht
    rw [List.length_append, bytes_size]
    simp only [List.length_cons, List.length_nil]
    omega
  unfold insL
  simp only [List.length_append, bytes_size, List.length_cons, List.length_nil]
  omega

theorem names_small {S : Syms} (h : ∀ s ∈ S, s.1.name.size ≤ 60) : ∀ t ∈ namesOf S, t.size ≤ 60 := by
  intro t ht
  obtain ⟨s, hs, rfl⟩ := List.mem_map.1 ht
  exact h s hs

theorem progL_length {S : Syms} {P : List Thr} (h : SmallP S P) : (progL S P).length ≤ 10000000 := by
  have a : (S.flatMap symL).length ≤ S.length * 1600 := flatM_bound fun s hs => symL_length (h.name s hs) (h.size s hs) (h.inits s hs) (h.init s hs)
  have b : (P.flatMap (thrL (namesOf S))).length ≤ P.length * 61000 := flatM_bound fun T hT => by
    have c : (T.flatMap (insL (namesOf S))).length ≤ T.length * 600 := flatM_bound fun x hx => insL_length (names_small h.name) (h.ok T hT x hx) (h.dest T hT x hx) (h.labs T hT x hx) (h.lab T hT x hx)
    have := h.inss T hT
    unfold thrL
    simp only [List.length_append, List.length_cons, List.length_nil]
    omega
  have := h.syms
  have := h.thrs
  unfold progL
  split
  · rw [List.length_append]; omega
  · simp

theorem progL_near {S : Syms} {P : List Thr} (h : SmallP S P) (hS : S.length ≤ 3) (hP : P.length ≤ 3) : (progL S P).length ≤ 200000 := by
  have a : (S.flatMap symL).length ≤ S.length * 1600 := flatM_bound fun s hs => symL_length (h.name s hs) (h.size s hs) (h.inits s hs) (h.init s hs)
  have b : (P.flatMap (thrL (namesOf S))).length ≤ P.length * 61000 := flatM_bound fun T hT => by
    have c : (T.flatMap (insL (namesOf S))).length ≤ T.length * 600 := flatM_bound fun x hx => insL_length (names_small h.name) (h.ok T hT x hx) (h.dest T hT x hx) (h.labs T hT x hx) (h.lab T hT x hx)
    have := h.inss T hT
    unfold thrL
    simp only [List.length_append, List.length_cons, List.length_nil]
    omega
  unfold progL
  split
  · rw [List.length_append]; omega
  · simp

theorem InsRow.ok {w : World} {v : Value} {T : Thr} (h : InsRow w v T) : ∀ x ∈ T, x.1.Ok := by
  intro x hx
  obtain ⟨p, cap, rfl, -, -⟩ := RowIn.slice h
  obtain ⟨i, hi⟩ := List.getElem?_of_mem hx
  obtain ⟨g, o, -, h2, -⟩ := InsRow.get h (i := i) (x := x.1) (L := x.2) hi
  exact h2
theorem ThrRow.ok {w : World} {v : Value} {P : List Thr} (h : ThrRow w v P) : ∀ T ∈ P, ∀ x ∈ T, x.1.Ok := by
  intro T hT
  obtain ⟨p, cap, rfl, -, -⟩ := RowIn.slice h
  obtain ⟨i, hi⟩ := List.getElem?_of_mem hT
  obtain ⟨g, o, v, -, h2, -⟩ := ThrRow.get h hi
  exact h2.ok
theorem IntsIn.ok {w : World} {v : Value} {L : List Int} (h : IntsIn w v L) : ∀ n ∈ L, I64 n := by
  intro n hn
  obtain ⟨p, cap, rfl, -, -⟩ := RowIn.slice h
  obtain ⟨i, hi⟩ := List.getElem?_of_mem hn
  obtain ⟨g, o, -, h2, -⟩ := IntsIn.get h hi
  exact h2
theorem SymRow.ok {w : World} {v : Value} {S : Syms} (h : SymRow w v S) : ∀ s ∈ S, I64 s.1.size ∧ ∀ n ∈ s.2, I64 n := by
  intro s hs
  obtain ⟨p, cap, rfl, -, -⟩ := RowIn.slice h
  obtain ⟨i, hi⟩ := List.getElem?_of_mem hs
  obtain ⟨g, o, -, -, h2, h3, -⟩ := SymRow.get h (i := i) (x := s.1) (L := s.2) hi
  exact ⟨h2, h3.ok⟩

theorem small_prog {w : World} {u v : Value} {S : Syms} {P : List Thr} (hS : SymRow w u S) (hP : ThrRow w v P) (h : greatPF S P = false) : SmallP S P := by
  have h' := h
  simp only [greatPF, Bool.or_eq_false_iff, List.any_eq_false, decide_eq_false_iff_not] at h
  obtain ⟨⟨⟨h0, h1⟩, h2⟩, h3⟩ := h
  have hs : ∀ s ∈ S, s.1.name.size ≤ 60 ∧ s.2.length ≤ 66 := fun s hs => by
    have := h2 s hs
    simp [greatS] at this
    omega
  have ht : ∀ T ∈ P, greatTF T = false := fun T hT => by simpa using h3 T hT
  have hx : ∀ T ∈ P, ∀ x ∈ T, greatF x.1 x.2 = false := fun T hT x hx => by
    have := ht T hT
    simp only [greatTF, Bool.or_eq_false_iff, decide_eq_false_iff_not, List.any_eq_false] at this
    simpa using this.2 x hx
  exact ⟨by omega, fun s h => (hs s h).1, fun s h => (hS.ok s h).1, fun s h => (hs s h).2, fun s h => (hS.ok s h).2, by omega, fun T hT => by have := (fine_thread (ht T hT)).2; omega, hP.ok,
    fun T hT x hx' => (great_size (hx T hT x hx')).1, fun T hT x hx' => (great_size (hx T hT x hx')).2.1, fun T hT x hx' => (great_size (hx T hT x hx')).2.2⟩

end Go.Proofs.YtegogmbcjjjjjaaDoor
