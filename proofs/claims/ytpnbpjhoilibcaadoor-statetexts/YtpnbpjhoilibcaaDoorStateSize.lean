/-
  How long a state's text is. Conditions: as the theorems name them.
-/
import Derived.Test.YtpnbpjhoilibcaaDoorStateOk
import Derived.Test.YtpnbpjhoilibcaaDoorStateText
import Derived.Test.YtpnbpjhoilibcaaDoorStateB
namespace Go.Proofs.YtpnbpjhoilibcaaDoor
open Go.RowKit
set_option linter.unusedVariables false
set_option linter.unusedSimpArgs false

theorem num_len {n : Int} (h : I64 n) : (numL n).length ≤ 21 := by
  unfold numL
  rw [bytes_size]
  exact txt_size n h.1 h.2

theorem flat_len {α : Type} (f : α → List UInt8) (m : Nat) : ∀ L : List α, (∀ x ∈ L, (f x).length ≤ m) → (L.flatMap f).length ≤ L.length * m
  | [], _ => by simp
  | x :: L, h => by
    have h1 := h x (List.mem_cons_self ..)
    have h2 := flat_len f m L (fun y hy => h y (List.mem_cons_of_mem _ hy))
    rw [List.flatMap_cons, List.length_append, List.length_cons, Nat.succ_mul]
    omega

theorem join_len {α : Type} (f : α → List UInt8) (m : Nat) (L : List α) (h : ∀ x ∈ L, (f x).length ≤ m) : (joinL f L).length ≤ L.length * (m + 1) := by
  cases L with
  | nil => simp [joinL]
  | cons x L =>
    have h1 := h x (List.mem_cons_self ..)
    have h2 := flat_len (fun y => 44 :: f y) (m + 1) L (fun y hy => by have := h y (List.mem_cons_of_mem _ hy); simp; omega)
    simp only [joinL, List.length_append, List.length_cons, Nat.succ_mul]
    omega

theorem ts_len {x : TS} (h : x.Ok) : (tsL x).length ≤ 300 := by
  have h0 := num_len h.pc
  have h1 := num_len h.phase
  have h2 := num_len h.latch
  have h3 := num_len h.status
  have h4 := join_len numL 21 (regsL x) (fun n hn => by
    obtain ⟨i, hi, e⟩ := List.getElem_of_mem hn
    have : (regsL x)[i]? = some n := by rw [List.getElem?_eq_getElem hi, e]
    simp only [regsL, List.mem_cons, List.not_mem_nil, or_false] at hn
    rcases hn with rfl | rfl | rfl | rfl | rfl | rfl | rfl | rfl <;> exact num_len (h.r _))
  have h5 : (regsL x).length = 8 := rfl
  have h6 : (flagsL x).length = 4 := rfl
  simp only [tsL, rowL, List.length_cons, List.length_append] at *
  omega

theorem buf_len {l : List (Int × Int)} (h : ∀ x ∈ l, I64 x.1 ∧ I64 x.2) : (bufL l).length ≤ l.length * 44 + 2 := by
  have h1 := join_len entL 43 l (fun x hx => by
    have h2 := num_len (h x hx).1
    have h3 := num_len (h x hx).2
    simp only [entL, List.length_append, List.length_cons]
    omega)
  simp only [bufL, List.length_cons, List.length_append, List.length_nil]
  omega

/-- A state's text is no longer than this. -/
theorem ms_len {s : MSt} (h : s.Ok) {a b c d : Nat} (h1 : s.mem.length ≤ a) (h2 : s.thr.length ≤ b) (h3 : s.bufs.length ≤ c) (h4 : ∀ l ∈ s.bufs, l.length ≤ d) : (msL s).length ≤ a * 22 + b * 300 + c * (d * 44 + 2) + 22 := by
  have k1 := join_len numL 21 s.mem (fun n hn => num_len (h.mem n hn))
  have k2 := flat_len tsL 300 s.thr (fun x hx => ts_len (h.thr x hx))
  have k3 := flat_len bufL (d * 44 + 2) s.bufs (fun l hl => by
    have := buf_len (h.bufs l hl)
    have := h4 l hl
    have := Nat.mul_le_mul_right 44 this
    omega)
  have k4 := num_len h.lock
  have m1 := Nat.mul_le_mul_right 22 h1
  have m2 := Nat.mul_le_mul_right 300 h2
  have m3 := Nat.mul_le_mul_right (d * 44 + 2) h3
  simp only [msL, rowL, List.length_append, List.length_cons] at *
  omega

theorem great_facts {s : MSt} (h : greatMF s = false) : s.mem.length ≤ 30 ∧ s.thr.length ≤ 8 ∧ s.bufs.length ≤ 8 ∧ ∀ l ∈ s.bufs, l.length ≤ 12 := by
  unfold greatMF at h
  simp only [Bool.or_eq_false_iff, decide_eq_false_iff_not] at h
  obtain ⟨⟨⟨h1, h2⟩, h3⟩, h4⟩ := h
  refine ⟨by omega, by omega, by omega, fun l hl => ?_⟩
  have := List.any_eq_false.1 h4 l hl
  simp at this
  exact this

theorem ms_small {s : MSt} (h : s.Ok) (hg : greatMF s = false) : (msL s).length ≤ 10000 := by
  obtain ⟨h1, h2, h3, h4⟩ := great_facts hg
  have := ms_len h h1 h2 h3 h4
  omega

end Go.Proofs.YtpnbpjhoilibcaaDoor
