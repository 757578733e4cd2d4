/-
  The words of the language as tables of texts, where a text stands in one, and what the document makes of that: registers, what instructions do, conditions, words. Nothing runs here. Conditions: as each theorem names them.
-/
import Derived.Test.YtginggelbfbcfaaDoorPlain
namespace Go.Proofs.YtginggelbfbcfaaDoor

/-- The registers' words. -/
def regsT : List ByteArray := [⟨#[114, 97, 120]⟩, ⟨#[114, 98, 120]⟩, ⟨#[114, 99, 120]⟩, ⟨#[114, 100, 120]⟩, ⟨#[114, 115, 105]⟩, ⟨#[114, 100, 105]⟩, ⟨#[114, 56]⟩, ⟨#[114, 57]⟩]
/-- The words of what is no jump on a condition. -/
def opsT : List ByteArray := [⟨#[]⟩, ⟨#[109, 111, 118]⟩, ⟨#[97, 100, 100]⟩, ⟨#[115, 117, 98]⟩, ⟨#[97, 110, 100]⟩, ⟨#[111, 114]⟩, ⟨#[120, 111, 114]⟩, ⟨#[99, 109, 112]⟩, ⟨#[120, 99, 104, 103]⟩, ⟨#[99, 109, 112, 120, 99, 104, 103]⟩, ⟨#[106, 109, 112]⟩, ⟨#[]⟩, ⟨#[109, 102, 101, 110, 99, 101]⟩, ⟨#[110, 111, 112]⟩, ⟨#[104, 108, 116]⟩]
/-- The words of jumps, by condition. -/
def jumpsT : List ByteArray := [⟨#[]⟩, ⟨#[106, 101]⟩, ⟨#[106, 110, 101]⟩, ⟨#[106, 108]⟩, ⟨#[106, 108, 101]⟩, ⟨#[106, 103]⟩, ⟨#[106, 103, 101]⟩, ⟨#[106, 98]⟩, ⟨#[106, 98, 101]⟩, ⟨#[106, 97]⟩, ⟨#[106, 97, 101]⟩]

/-- Where a text stands first, counted on from a number; -1. -/
def firstAt (s : ByteArray) : List ByteArray → Nat → Int
  | [], _ => -1
  | t :: T, k => if (t.data.toList == s.data.toList) = true then k else firstAt s T (k + 1)

theorem first_drop (s : ByteArray) (T : List ByteArray) (i : Nat) (t : ByteArray) (h : T[i]? = some t) : firstAt s (T.drop i) i = if (t.data.toList == s.data.toList) = true then (i : Int) else firstAt s (T.drop (i + 1)) (i + 1) := by
  obtain ⟨hi, ht⟩ := List.getElem?_eq_some_iff.1 h
  rw [List.drop_eq_getElem_cons hi, ht]
  rfl

theorem first_ge (s : ByteArray) : ∀ (T : List ByteArray) (k : Nat), firstAt s T k = -1 ∨ (k : Int) ≤ firstAt s T k ∧ firstAt s T k < k + T.length
  | [], k => .inl rfl
  | t :: T, k => by
    simp only [firstAt, List.length_cons]
    split
    · right; omega
    · have := first_ge s T (k + 1); omega

/-- The register that a text is the word of. -/
def regF (s : ByteArray) : Int × Bool := if 0 ≤ firstAt s regsT 0 then (firstAt s regsT 0, true) else (0, false)

/-- What a text says that an instruction does, and the condition. -/
def opF (s : ByteArray) : Int × Int × Bool :=
  if s.data.toList.isEmpty = true then (0, 0, false)
  else if 0 ≤ firstAt s opsT 0 then (firstAt s opsT 0, 0, true)
  else if 0 ≤ firstAt s jumpsT 0 then (11, firstAt s jumpsT 0, true)
  else (0, 0, false)

def symT : ByteArray := ⟨#[115, 121, 109]⟩
def threadT : ByteArray := ⟨#[116, 104, 114, 101, 97, 100]⟩
def lockT : ByteArray := ⟨#[108, 111, 99, 107]⟩

/-- Whether a text is a word of the language. -/
def wordF (s : ByteArray) : Bool := s.data.toList == symT.data.toList || s.data.toList == threadT.data.toList || s.data.toList == lockT.data.toList || (regF s).2 || (opF s).2.2

/-- The text at a place; empty, if there is none. -/
def textAt (T : List ByteArray) (i : Int) : ByteArray := if 0 ≤ i ∧ i < T.length then T.getD i.toNat ⟨#[]⟩ else ⟨#[]⟩

def regTextF (r : Int) : ByteArray := textAt regsT r
def opTextF (op cond : Int) : ByteArray := if op = 11 then textAt jumpsT cond else if cond = 0 then textAt opsT op else ⟨#[]⟩

/-- A text that is not empty does not stand where an empty one does. -/
theorem first_zero (s : ByteArray) (T : List ByteArray) (h : ¬ s.data.toList.isEmpty = true) : firstAt s (⟨#[]⟩ :: T) 0 ≠ 0 := by
  have e : ((⟨#[]⟩ : ByteArray).data.toList == s.data.toList) = false := by
    have : (⟨#[]⟩ : ByteArray).data.toList = [] := rfl
    rw [this]
    cases hs : s.data.toList with
    | nil => rw [hs] at h; exact absurd rfl h
    | cons a l => rfl
  have := first_ge s T (0 + 1)
  intro h0
  rw [firstAt, e] at h0
  simp only [Bool.false_eq_true, if_false] at h0
  omega

theorem ops_pos (s : ByteArray) (h : ¬ s.data.toList.isEmpty = true) : (0 ≤ firstAt s opsT 0) ↔ 0 < firstAt s opsT 0 := by
  have : firstAt s opsT 0 ≠ 0 := first_zero s opsT.tail h
  omega

theorem jumps_pos (s : ByteArray) (h : ¬ s.data.toList.isEmpty = true) : (0 ≤ firstAt s jumpsT 0) ↔ 0 < firstAt s jumpsT 0 := by
  have : firstAt s jumpsT 0 ≠ 0 := first_zero s jumpsT.tail h
  omega

end Go.Proofs.YtginggelbfbcfaaDoor
