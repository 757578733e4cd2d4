/-
  The text of an instruction and of a program, as plain recursions over lists. Conditions: none.
-/
import Derived.Test.YtegogmbcjjjjjaaDoorJi
import Derived.Test.YtegogmbcjjjjjaaDoorRefOpndText
namespace Go.Proofs.YtegogmbcjjjjjaaDoor
open Go.RowKit
set_option linter.unusedVariables false
set_option linter.unusedSimpArgs false

/-- What an instruction's text begins with. -/
def headT (x : Ins) : ByteArray := if x.lock = true then ⟨#[108, 111, 99, 107, 32]⟩ ++ opTextF x.op x.cond else opTextF x.op x.cond

/-- Whether the names lack an operand's symbol. -/
def lacksF (o : Opd) (T : List ByteArray) : Bool := memF o && decide ((T.length : Int) ≤ o.sym)

/-- An instruction's text. -/
def insT (x : Ins) (T : List ByteArray) : ByteArray :=
  if ¬ insF x = 0 then ⟨#[]⟩
  else if jumpsF x.op = true then headT x ++ ⟨#[32]⟩ ++ x.dest
  else if 9 < x.op then headT x
  else if (lacksF x.a T || lacksF x.b T) = true then ⟨#[]⟩
  else headT x ++ ⟨#[32]⟩ ++ opdTextF x.a T ++ ⟨#[44, 32]⟩ ++ opdTextF x.b T

theorem bytes_app (a b : ByteArray) : (a ++ b).data.toList = a.data.toList ++ b.data.toList := by simp
theorem bytes_empty (a : ByteArray) : (⟨#[]⟩ : ByteArray) ++ a = a := ByteArray.empty_append
theorem bytes_ext {a b : ByteArray} (h : a.data.toList = b.data.toList) : a = b := by
  cases a; cases b
  simpa using congrArg List.toArray h
theorem bytes_size (a : ByteArray) : a.data.toList.length = a.size := Array.length_toList

/-- A symbol's line. -/
def symL (s : Sym × List Int) : List UInt8 :=
  [115, 121, 109, 32] ++ s.1.name.data.toList ++ [32] ++ (txt s.1.size).data.toList ++ s.2.flatMap (fun n => [32] ++ (txt n).data.toList) ++ [10]
/-- An instruction's lines. -/
def insL (N : List ByteArray) (x : Ins × List ByteArray) : List UInt8 :=
  x.2.flatMap (fun l => l.data.toList ++ [58, 10]) ++ ([9] ++ (insT x.1 N).data.toList ++ [10])
/-- A thread's lines. -/
def thrL (N : List ByteArray) (T : Thr) : List UInt8 := [116, 104, 114, 101, 97, 100, 10] ++ T.flatMap (insL N)
/-- The symbols' names. -/
def namesOf (S : Syms) : List ByteArray := S.map (·.1.name)
/-- A program's text. -/
def progL (S : Syms) (P : List Thr) : List UInt8 := if checkC S P = 0 then S.flatMap symL ++ P.flatMap (thrL (namesOf S)) else []

theorem flatM_next {α β : Type} (f : α → List β) {l : List α} {i : Nat} {x : α} (h : l[i]? = some x) : (l.take (i + 1)).flatMap f = (l.take i).flatMap f ++ f x := by
  rw [List.take_add_one, h]
  simp

theorem flatM_le {α β : Type} (f : α → List β) (l : List α) (i : Nat) : ((l.take i).flatMap f).length ≤ (l.flatMap f).length := by
  conv => rhs; rw [← List.take_append_drop i l]
  rw [List.flatMap_append, List.length_append]
  omega

theorem names_next {S : Syms} {i : Nat} {s : Sym} {L : List Int} (h : S[i]? = some (s, L)) : namesOf (S.take (i + 1)) = namesOf (S.take i) ++ [s.name] := by
  unfold namesOf
  rw [List.take_add_one, h]
  simp

/-- An operand that may be has a text, but for a symbol that lacks. -/
theorem opdText_empty {o : Opd} {T : List ByteArray} (h : opdRightF o = true) (hn : -9223372036854775808 ≤ o.n ∧ o.n ≤ 9223372036854775807) : (opdTextF o T).data.toList.isEmpty = lacksF o T := by
  have hk : (o.kind = 1 ∧ 0 ≤ o.reg ∧ o.reg ≤ 7) ∨ o.kind = 2 ∨ (o.kind = 3 ∧ 0 ≤ o.sym) ∨ (o.kind = 4 ∧ 0 ≤ o.sym) := by
    simp only [opdRightF, decide_eq_true_eq] at h
    omega
  unfold opdTextF lacksF memF
  rw [if_neg (by simp [h])]
  rcases hk with ⟨hk, h0, h1⟩ | hk | ⟨hk, h0⟩ | ⟨hk, h0⟩
  · rw [if_pos hk, hk]
    have h2 : o.reg = 0 ∨ o.reg = 1 ∨ o.reg = 2 ∨ o.reg = 3 ∨ o.reg = 4 ∨ o.reg = 5 ∨ o.reg = 6 ∨ o.reg = 7 := by omega
    rcases h2 with h2 | h2 | h2 | h2 | h2 | h2 | h2 | h2 <;> rw [h2] <;> rfl
  · rw [if_neg (by omega), if_pos hk, hk, txt_list]
    have : (Lib.itoa o.n).isEmpty = false := by
      have h3 : Lib.itoa o.n ≠ [] := by
        unfold Lib.itoa
        split
        · simp
        · intro h4
          rw [ahead_step] at h4
          simp at h4
      simpa using h3
    rw [this]
    rfl
  all_goals
    rw [if_neg (by omega), if_neg (by omega)]
    cases ht : T[o.sym.toNat]? with
    | none =>
      have h5 := List.getElem?_eq_none_iff.1 ht
      rw [show decide ((T.length : Int) ≤ o.sym) = true by rw [decide_eq_true_eq]; omega]
      simp [hk]
    | some t =>
      have h5 := (List.getElem?_eq_some_iff.1 ht).1
      rw [show decide ((T.length : Int) ≤ o.sym) = false by rw [decide_eq_false_iff_not]; omega, Bool.and_false]
      simp only
      split <;> simp

/-- What an instruction that may be has for operands. -/
theorem ins_shape {x : Ins} (h : insF x = 0) : (jumpsF x.op = true ∧ 9 < x.op) ∨ (jumpsF x.op = false ∧ 9 < x.op ∧ x.a.kind = 0) ∨ (jumpsF x.op = false ∧ x.op ≤ 9 ∧ opdRightF x.a = true ∧ opdRightF x.b = true ∧ x.a.kind ≠ 0) := by
  have hr := ins_right h
  have ho : 1 ≤ x.op ∧ x.op ≤ 14 := by
    unfold insF at h
    split at h
    · cases h
    · omega
  unfold rowF at hr
  split at hr
  · rename_i h1
    simp only [Bool.and_eq_true] at hr
    have h2 : x.a.kind = 0 := by
      have := hr.1.1
      simp only [opdZero, decide_eq_true_eq] at this
      exact this.1
    cases hj : jumpsF x.op with
    | true => exact Or.inl ⟨rfl, by omega⟩
    | false => exact Or.inr (Or.inl ⟨rfl, by omega, h2⟩)
  split at hr
  · cases hr
  · rename_i h1 h2
    simp only [not_or, Bool.not_eq_false] at h2
    refine Or.inr (Or.inr ⟨by simp [jumpsF]; omega, by omega, h2.1, h2.2, ?_⟩)
    have := h2.1
    simp only [opdRightF, decide_eq_true_eq] at this
    omega

theorem opText_size (op cond : Int) : (opTextF op cond).size ≤ 7 := by
  have h : ∀ (T : List ByteArray) (i : Int), (∀ t ∈ T, t.size ≤ 7) → (textAt T i).size ≤ 7 := fun T i hT => by
    unfold textAt
    split
    · rename_i hi
      have : i.toNat < T.length := by omega
      rw [List.getD_eq_getElem?_getD, List.getElem?_eq_getElem this]
      exact hT _ (List.getElem_mem _)
    · decide
  unfold opTextF
  split
  · exact h _ _ (by decide)
  split
  · exact h _ _ (by decide)
  · decide

theorem head_size (x : Ins) : (headT x).size ≤ 12 := by
  have := opText_size x.op x.cond
  unfold headT
  split
  · rw [ByteArray.size_append]
    have : (⟨#[108, 111, 99, 107, 32]⟩ : ByteArray).size = 5 := rfl
    omega
  · omega

theorem opdText_size (o : Opd) (hn : -9223372036854775808 ≤ o.n ∧ o.n ≤ 9223372036854775807) (T : List ByteArray) (m : Nat) (hts : ∀ t ∈ T, t.size ≤ m) : (opdTextF o T).size ≤ m + 23 := by
  have h0 : (⟨#[]⟩ : ByteArray).size = 0 := rfl
  have h1 := regText_size o.reg
  have h2 := txt_size o.n hn.1 hn.2
  have h3 : (⟨#[91]⟩ : ByteArray).size = 1 := rfl
  have h4 : (⟨#[93]⟩ : ByteArray).size = 1 := rfl
  unfold opdTextF
  split
  · omega
  split
  · omega
  split
  · omega
  split
  · omega
  · rename_i t ht
    have h5 := hts t (List.mem_of_getElem? ht)
    split
    all_goals simp only [ByteArray.size_append]
    all_goals omega

theorem insT_size (x : Ins) (ha : -9223372036854775808 ≤ x.a.n ∧ x.a.n ≤ 9223372036854775807) (hb : -9223372036854775808 ≤ x.b.n ∧ x.b.n ≤ 9223372036854775807) (T : List ByteArray) (m : Nat) (hts : ∀ t ∈ T, t.size ≤ m) (hd : x.dest.size ≤ m) : (insT x T).size ≤ 2 * m + 61 := by
  have h0 : (⟨#[]⟩ : ByteArray).size = 0 := rfl
  have h1 := head_size x
  have h2 := opdText_size x.a ha T m hts
  have h3 := opdText_size x.b hb T m hts
  have h4 : (⟨#[32]⟩ : ByteArray).size = 1 := rfl
  have h5 : (⟨#[44, 32]⟩ : ByteArray).size = 2 := rfl
  unfold insT
  split
  · omega
  split
  · simp only [ByteArray.size_append]; omega
  split
  · omega
  split
  · omega
  · simp only [ByteArray.size_append]; omega

end Go.Proofs.YtegogmbcjjjjjaaDoor
