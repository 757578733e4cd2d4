/-
  A strings.Builder that the call has made: what it holds; what a writer leaves as it was. Conditions: as each theorem names them.
-/
import Derived.Test.YtpnbpjhoilibcaaDoorShowShelf
import Derived.Test.YtpnbpjhoilibcaaDoorLater
import Derived.Test.YtpnbpjhoilibcaaDoorCRow
namespace Go.Proofs.YtpnbpjhoilibcaaDoor
open Go.RowKit
set_option linter.unusedVariables false
set_option linter.unusedSimpArgs false

/-- The builder in block b holds these bytes; its own blocks lie from B on. -/
def Bld (B b : Nat) (l : List UInt8) (w : World) : Prop := Lib.IsBuilderF 50 5 B b (Lib.byteCells l) w ∧ B ≤ w.heap.size

/-- All blocks but the builder's, and rows of bytes, stand as they stood. -/
def Others (b : Nat) (w w' : World) : Prop := Lib.OthersKept 5 (some b) w w'

theorem Others.trans {b : Nat} {x y z : World} (h : Others b x y) (k : Others b y z) : Others b x z := Lib.OthersKept.trans h k

theorem Later.others {b : Nat} {w w' : World} (h : Later w w') : Others b w w' := fun k o hk _ _ => by
  rw [h.block k (Array.getElem?_eq_some_iff.1 hk).1]; exact hk

theorem builderAt_later {T e : TypeId} {B b : Nat} {p : Value} {bs : List Value} {W W' : World} (h : Lib.BuilderAtF T e B b p bs W) (hb : Later W W') : Lib.BuilderAtF T e B b p bs W' := by
  have hlt := h.lt
  obtain ⟨hB, v, hv, hown, hne⟩ := h
  exact ⟨hB, v, (hb.block b hlt).trans hv, hown.kept (row := none) ⟨hb.os, hb.tape, hb.output, hb.size, fun k hk _ => hb.block k hk⟩ (Classical.em _), hne⟩

theorem Bld.later {B b : Nat} {l : List UInt8} {w w' : World} (h : Bld B b l w) (hl : Later w w') : Bld B b l w' :=
  ⟨h.1.elim (fun x => .inl (builderAt_later x hl)) (fun x => .inr (builderAt_later x hl)), Nat.le_trans h.2 hl.size⟩

theorem Bld.block {B b : Nat} {l : List UInt8} {w : World} (h : Bld B b l w) : ∃ cs, w.heap[b]? = some (.cells cs 50 (0, 0)) := by
  rcases h.1 with ⟨_, v, hv, _⟩ | ⟨_, v, hv, _⟩
  · exact ⟨_, hv⟩
  · exact ⟨_, hv⟩

/-- A block that is neither the builder nor a row of bytes stands as it stood. -/
theorem Others.box {B b k : Nat} {l : List UInt8} {w w' : World} {c : Array Value} {t : TypeId} (h : Others b w w') (hb : Bld B b l w) (hk : w.heap[k]? = some (.cells c t)) (h1 : t ≠ 5) (h2 : t ≠ 50) : w'.heap[k]? = some (.cells c t) := by
  refine h k _ hk ?_ ?_
  · intro e
    cases e
    obtain ⟨cs, hc⟩ := hb.block
    rw [hk] at hc
    cases hc
    exact h2 rfl
  · intro c' fz e
    cases e
    exact h1 rfl

theorem Others.owns {B b : Nat} {l : List UInt8} {w w' : World} {base : Nat} {e : TypeId} {sz : Nat} {v : Value} {n : Nat} {xs : List Value} (h : Others b w w') (hb : Bld B b l w) (h1 : e ≠ 5) (h2 : e ≠ 50) (ho : w.ownsRow base e sz v n xs) : w'.ownsRow base e sz v n xs := by
  obtain ⟨h3, h4 | ⟨g, cap, cur, h5, h6, h7, h8⟩⟩ := ho
  · exact ⟨h3, Or.inl h4⟩
  · exact ⟨h3, Or.inr ⟨g, cap, cur, h5, h6, h.box hb h7 h1 h2, h8⟩⟩

theorem fresh_bld (w : World) : Bld w.heap.size w.heap.size [] (w.alloc (.cells #[.pointer none, .slice none 0 0] 50)) :=
  ⟨Lib.IsBuilderF.of (Lib.fresh_isBuilder 50 5 w), by simp⟩

theorem byteCells_app (l : List UInt8) (s : ByteArray) : Lib.byteCells l ++ Lib.strCells s = Lib.byteCells (l ++ s.data.toList) := by
  simp [Lib.byteCells, Lib.strCells]

theorem write_any (B b : Nat) (l : List UInt8) (s : ByteArray) (w : World) (h : Bld B b l w) (hs : l.length + s.size ≤ 1000000000) :
    Calls Tryd.prog 27 #[.pointer (some ⟨b, 0, none⟩), .string s] w fun e w' => e = .returned (.tuple #[.int .i64 s.size, .nilIface]) ∧ Bld B b (l ++ s.data.toList) w' ∧ Below B w w' ∧ Others b w w' := by
  refine (Tryd.Builder_WriteString_k B b (Lib.byteCells l) s w h.1 (by rw [Lib.byteCells_length]; omega) h.2).mono ?_
  rintro e w' ⟨rfl, h1, h2, h3⟩
  rw [byteCells_app] at h1
  exact ⟨rfl, ⟨Or.inr h1, Nat.le_trans h.2 h2.size⟩, h2, h3⟩

theorem string_any (B b : Nat) (l : List UInt8) (w : World) (h : Bld B b l w) :
    Calls Tryd.prog 29 #[.pointer (some ⟨b, 0, none⟩)] w fun e w' => e = .returned (.string ⟨l.toArray⟩) ∧ Below B w w' := by
  refine (Tryd.Builder_String_any_k B b l w h.1 h.2).mono ?_
  rintro e w' ⟨rfl, h1, h2, h3⟩
  exact ⟨rfl, h2⟩

end Go.Proofs.YtpnbpjhoilibcaaDoor
