/-
  What package lex's small functions do, of any text of at most 1000000 bytes: whether a rune is bad, a remark's and a word's bytes, what a text begins with, what is wrong with it. Nothing that was in memory turns. Conditions: the library's variables stand as its text lays them.
-/
import Derived.Test.YtfgnogdlkhagdaaDoorJb
import Derived.Test.YtfgnogdlkhagdaaDoorJa
import Derived.Test.YtfgnogdlkhagdaaDoorNumCalls
import Derived.Test.YtfgnogdlkhagdaaDoorJh
namespace Go.Proofs.YtfgnogdlkhagdaaDoor
open Go.RowKit
open Go.Lib (decodeL)
set_option linter.unusedVariables false

theorem ext_list (s : ByteArray) (a b : Nat) : (s.extract a b).data.toList = (s.data.toList.drop a).take (b - a) := by
  have : (s.extract a b).data = s.data.extract a b := by simp
  rw [this]
  simp
theorem ext_ofL (s : ByteArray) (a b : Nat) : s.extract a b = ofL ((s.data.toList.drop a).take (b - a)) := by
  rw [← ext_list, ofL_self]
theorem ext_tail (s : ByteArray) (a : Nat) : (s.extract a s.size).data.toList = s.data.toList.drop a := by
  rw [ext_list, List.take_of_length_le (by rw [List.length_drop, size_len]; omega)]
theorem ext_head (s : ByteArray) (b : Nat) : s.extract 0 b = ofL (s.data.toList.take b) := by
  rw [ext_ofL, List.drop_zero, Nat.sub_zero]

theorem ne_nil (t : ByteArray) (h : 0 < t.size) : t.data.toList ≠ [] := by
  intro e
  have h1 := size_len t
  rw [e, List.length_nil] at h1
  omega

theorem decodeGo_L (t : ByteArray) (h : 0 < t.size) : Lib.decodeGo t = decodeL t.data.toList := by
  unfold Lib.decodeGo
  rw [if_neg (by omega), ← decodeL_drop, List.drop_zero]

set_option maxRecDepth 1000000 in
theorem bad_any (t : ByteArray) (h : 0 < t.size) (w : World) (g : Good w) :
    Calls Tryd.prog 31 #[.int .i32 ((mk1 t.data.toList).r : Nat), .string t] w fun e w' => e = .returned (.bool (mk1 t.data.toList).bad) ∧ Later w w' := by
  have hne := ne_nil t h
  have dc : ∀ w', Good w' → _ := fun w' (g' : Good w') => Tryd.utf8_DecodeRuneInString t w' g'.utf
  rw [decodeGo_L t h] at dc
  have e1 : (mk1 t.data.toList).r = (decodeL t.data.toList).1 := rfl
  have e2 : (mk1 t.data.toList).bad = badOf (decodeL t.data.toList).1 (decodeL t.data.toList).2 := by
    show badOf _ _ = _
    rw [mk1_len _ hne]; rfl
  rw [e1, e2]
  generalize (decodeL t.data.toList).1 = r at *
  generalize (decodeL t.data.toList).2 = k at *
  cases hb : ((r : Int) == 65533) with
  | true =>
    have e3 : badOf r k = ((k : Int) == 1) := by simp [badOf, hb]
    rw [e3]
    have hb' : ((r : Int) != 65533) = false := by simp [bne, hb]
    go_enter Tryd.func31, Tryd.ntmps31
    go_wp2_with (go_at_call 73; refine (dc _ g).mono ?_; rintro e w2 ⟨rfl, hl2⟩)
    go_ret
    exact ⟨rfl, hl2⟩
  | false =>
    have e3 : badOf r k = false := by simp [badOf, hb]
    rw [e3]
    have hb' : ((r : Int) != 65533) = true := by simp [bne, hb]
    go_enter Tryd.func31, Tryd.ntmps31
    go_wp2
    go_ret
    exact ⟨rfl, Later.refl _⟩

theorem clone_any (t : ByteArray) (h : t.size ≤ 1000000) (w : World) :
    Calls Tryd.prog 34 #[.string t] w fun e w' => e = .returned (.string t) ∧ Later w w' := by
  go_enter Tryd.func34, Tryd.ntmps34
  go_wp2_with (go_at_call 81; refine (Tryd.stringslite_Clone t _ (by omega)).mono ?_; rintro e w2 ⟨rfl, hl2⟩)
  go_ret
  exact ⟨rfl, hl2⟩

/-! ### A remark -/

theorem idx_none : ∀ (l : List UInt8) (c : UInt8), Lib.indexByte l c = -1 → l.takeWhile (fun b => b != c) = l
  | [], _, _ => rfl
  | b :: l, c, h => by
    unfold Lib.indexByte at h
    by_cases hb : (b == c) = true
    · rw [if_pos hb] at h; cases h
    · rw [if_neg hb] at h
      have hi := Lib.indexByte_ge l c
      have h2 : Lib.indexByte l c = -1 := by
        by_cases h3 : (Lib.indexByte l c == -1) = true
        · simpa using h3
        · rw [if_neg h3] at h; omega
      have hb2 : (b != c) = true := by simp only [bne, hb]; rfl
      rw [List.takeWhile_cons, hb2, if_pos rfl, idx_none l c h2]

theorem idx_some : ∀ (l : List UInt8) (c : UInt8), 0 ≤ Lib.indexByte l c → l.takeWhile (fun b => b != c) = l.take (Lib.indexByte l c).toNat ∧ (Lib.indexByte l c).toNat < l.length
  | [], _, h => by simp [Lib.indexByte] at h
  | b :: l, c, h => by
    unfold Lib.indexByte at h ⊢
    by_cases hb : (b == c) = true
    · rw [if_pos hb]
      have hb2 : (b != c) = false := by simp only [bne, hb]; rfl
      rw [List.takeWhile_cons, hb2]
      simp
    · rw [if_neg hb] at h ⊢
      have hi := Lib.indexByte_ge l c
      have hb2 : (b != c) = true := by simp only [bne, hb]; rfl
      by_cases h3 : (Lib.indexByte l c == -1) = true
      · rw [if_pos h3] at h; omega
      · rw [if_neg h3] at h ⊢
        have h4 : 0 ≤ Lib.indexByte l c := by
          have : Lib.indexByte l c ≠ -1 := by simpa using h3
          omega
        obtain ⟨h5, h6⟩ := idx_some l c h4
        have e : (Lib.indexByte l c + 1).toNat = (Lib.indexByte l c).toNat + 1 := by omega
        rw [List.takeWhile_cons, hb2, if_pos rfl, h5, e, List.take_succ_cons, List.length_cons]
        exact ⟨rfl, by omega⟩

set_option maxRecDepth 1000000 in
theorem index10_any (t : ByteArray) (h : t.size ≤ 1000000) (w : World) :
    Calls Tryd.prog 151 #[.string t, .string ⟨#[10]⟩] w fun e w' => e = .returned (.int .i64 (Lib.indexByte t.data.toList 10)) ∧ Later w w' := by
  cases he : (([10] : List UInt8) == t.toList) with
  | true =>
    have e1 : Lib.indexByte t.data.toList 10 = 0 := by
      rw [← ByteArray.toList_eq, ← (beq_iff_eq.1 he)]; rfl
    rw [e1]
    go_enter Tryd.func151, Tryd.ntmps151
    go_wp2
    go_ret
    exact ⟨rfl, Later.refl _⟩
  | false =>
    go_enter Tryd.func151, Tryd.ntmps151
    go_wp2_with (go_at_call 164; refine (Tryd.stringslite_IndexByte t 10 _).mono ?_; rintro e w2 ⟨rfl, rfl⟩)
    go_ret
    exact ⟨rfl, Later.refl _⟩

end Go.Proofs.YtfgnogdlkhagdaaDoor
