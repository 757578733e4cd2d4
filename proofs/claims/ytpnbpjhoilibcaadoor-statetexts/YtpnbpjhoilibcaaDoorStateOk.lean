/-
  All numbers of a state that lies in memory are of 64 bits. Conditions: none.
-/
import Derived.Test.YtpnbpjhoilibcaaDoorStateIn
namespace Go.Proofs.YtpnbpjhoilibcaaDoor
open Go.RowKit

theorem RowIn.all {α : Type} {k : Nat} {E : World → α → List Value → Prop} {P : α → Prop} {w : World} {v : Value} {l : List α} (h : RowIn k E w v l) (hE : ∀ a cs, E w a cs → P a) : ∀ a ∈ l, P a := by
  intro a ha
  obtain ⟨p, cap, h0, h1, h2, h3⟩ := h
  obtain ⟨g, o, rfl, h4⟩ := h3 (by rintro rfl; cases ha)
  obtain ⟨i, hi, rfl⟩ := List.getElem_of_mem ha
  obtain ⟨cs, h5, -⟩ := h4 i _ (List.getElem?_eq_getElem hi)
  exact hE _ _ h5

/-- All numbers of a state are of 64 bits. -/
structure MSt.Ok (s : MSt) : Prop where
  mem : ∀ n ∈ s.mem, I64 n
  thr : ∀ x ∈ s.thr, x.Ok
  bufs : ∀ l ∈ s.bufs, ∀ x ∈ l, I64 x.1 ∧ I64 x.2
  lock : I64 s.lock

theorem MsIn.ok {w : World} {m t b : Value} {s : MSt} (h : MsIn w m t b s) : s.Ok :=
  ⟨RowIn.all h.mem (fun _ _ h => h.2), RowIn.all h.thr (fun _ _ h => h.2), RowIn.all h.bufs (fun _ _ ⟨_, _, _, h⟩ => h), h.lock⟩

end Go.Proofs.YtpnbpjhoilibcaaDoor
