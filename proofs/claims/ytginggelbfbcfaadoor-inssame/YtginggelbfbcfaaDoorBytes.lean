/-
  A rune that is not bad is written by its own bytes; a bad one is one byte from 128 on. Nothing runs here. Conditions: the place lies in the text.
-/
import Derived.Test.YtginggelbfbcfaaDoorPlain
namespace Go.Proofs.YtginggelbfbcfaaDoor
open Go.Lib

theorem get_at' (s : ByteArray) (i : Nat) (h : i < s.size) : s.data[i]? = some (s.get! i) := by
  have h' : i < s.data.size := h
  rw [Array.getElem?_eq_getElem h']
  show _ = some (s.data[i]!)
  rw [getElem!_pos s.data i h']

theorem extract_data (s : ByteArray) (a b : Nat) : (s.extract a b).data = s.data.extract a b := by simp

theorem extract_eq (s : ByteArray) (pos k : Nat) (cs : Array UInt8) (hk : cs.size = k) (h : pos + k ≤ s.size) (hc : ∀ j, j < k → cs[j]? = some (s.get! (pos + j))) : s.extract pos (pos + k) = ⟨cs⟩ := by
  have hd : (s.extract pos (pos + k)).data = cs := by
    rw [extract_data]
    apply Array.ext_getElem?
    intro j
    rw [Array.getElem?_extract]
    have hs : s.data.size = s.size := rfl
    by_cases hj : j < k
    · rw [if_pos (by omega), hc j hj, get_at' s (pos + j) (by omega)]
    · rw [if_neg (by omega), Array.getElem?_eq_none (by omega)]
  rw [← hd]

theorem byte_eq (n : Nat) (x : UInt8) (h : n = x.toNat) : UInt8.ofNat n = x := by
  subst h; simp

theorem valid_nat (n : Nat) (h : n < 55296 ∨ (57344 ≤ n ∧ n ≤ 1114111)) : Utf8.valid (n : Int) = true := by
  simp only [Utf8.valid, Bool.or_eq_true, Bool.and_eq_true, decide_eq_true_eq]
  omega

theorem enc_ok (s : ByteArray) (pos : Nat) (h : pos < s.size) (hb : ¬ ((Utf8.decode s pos).1 = 65533 ∧ (Utf8.decode s pos).2 = 1)) :
    Utf8.encode ((Utf8.decode s pos).1 : Nat) = s.extract pos (pos + (Utf8.decode s pos).2) := by
  have hd := decode_pos s pos h
  have e1 : pos + 1 ≤ s.size → s.extract pos (pos + 1) = ⟨#[s.get! pos]⟩ := fun hk => extract_eq s pos 1 _ rfl hk (fun j hj => by
    match j, hj with
    | 0, _ => rfl)
  have e2 : pos + 2 ≤ s.size → s.extract pos (pos + 2) = ⟨#[s.get! pos, s.get! (pos + 1)]⟩ := fun hk => extract_eq s pos 2 _ rfl hk (fun j hj => by
    match j, hj with
    | 0, _ => rfl
    | 1, _ => rfl)
  have e3 : pos + 3 ≤ s.size → s.extract pos (pos + 3) = ⟨#[s.get! pos, s.get! (pos + 1), s.get! (pos + 2)]⟩ := fun hk => extract_eq s pos 3 _ rfl hk (fun j hj => by
    match j, hj with
    | 0, _ => rfl
    | 1, _ => rfl
    | 2, _ => rfl)
  have e4 : pos + 4 ≤ s.size → s.extract pos (pos + 4) = ⟨#[s.get! pos, s.get! (pos + 1), s.get! (pos + 2), s.get! (pos + 3)]⟩ := fun hk => extract_eq s pos 4 _ rfl hk (fun j hj => by
    match j, hj with
    | 0, _ => rfl
    | 1, _ => rfl
    | 2, _ => rfl
    | 3, _ => rfl)
  rw [decode_at] at hb hd ⊢
  have t0 := (s.get! pos).toNat_lt
  have t1 := (s.get! (pos + 1)).toNat_lt
  have t2 := (s.get! (pos + 2)).toNat_lt
  have t3 := (s.get! (pos + 3)).toNat_lt
  generalize s.get! pos = x0 at *
  generalize s.get! (pos + 1) = x1 at *
  generalize s.get! (pos + 2) = x2 at *
  generalize s.get! (pos + 3) = x3 at *
  unfold decodeN at hb hd ⊢
  split
  · rename_i c0
    rw [if_pos c0] at hd
    rw [e1 (by simp only at hd; omega)]
    simp only [Utf8.encode, valid_nat x0.toNat (by omega), if_true, Int.toNat_natCast, if_pos c0]
    rw [byte_eq _ x0 rfl]
  · rename_i c0
    rw [if_neg c0] at hb hd
    split
    · rename_i c1
      rw [if_pos c1] at hb hd
      split
      · rename_i c2
        rw [if_pos c2] at hd
        rw [e2 (by simp only at hd; omega)]
        simp only [Utf8.encode, valid_nat (x0.toNat % 32 * 64 + x1.toNat % 64) (by omega), if_true, Int.toNat_natCast]
        rw [if_neg (by omega), if_pos (by omega), byte_eq _ x0 (by omega), byte_eq _ x1 (by omega)]
      · rename_i c2
        rw [if_neg c2] at hb
        exact absurd ⟨rfl, rfl⟩ hb
    · rename_i c1
      rw [if_neg c1] at hb hd
      split
      · rename_i c2
        rw [if_pos c2] at hb hd
        split
        · rename_i c3
          rw [if_pos c3] at hd
          rw [e3 (by simp only at hd; omega)]
          simp only [Utf8.encode, valid_nat (x0.toNat % 16 * 4096 + x1.toNat % 64 * 64 + x2.toNat % 64) (by omega), if_true, Int.toNat_natCast]
          rw [if_neg (by omega), if_neg (by omega), if_pos (by omega), byte_eq _ x0 (by omega), byte_eq _ x1 (by omega), byte_eq _ x2 (by omega)]
        · rename_i c3
          rw [if_neg c3] at hb
          exact absurd ⟨rfl, rfl⟩ hb
      · rename_i c2
        rw [if_neg c2] at hb hd
        split
        · rename_i c3
          rw [if_pos c3] at hb hd
          split
          · rename_i c4
            rw [if_pos c4] at hd
            rw [e4 (by simp only at hd; omega)]
            simp only [Utf8.encode, valid_nat (x0.toNat % 8 * 262144 + x1.toNat % 64 * 4096 + x2.toNat % 64 * 64 + x3.toNat % 64) (by omega), if_true, Int.toNat_natCast]
            rw [if_neg (by omega), if_neg (by omega), if_neg (by omega), byte_eq _ x0 (by omega), byte_eq _ x1 (by omega), byte_eq _ x2 (by omega), byte_eq _ x3 (by omega)]
          · rename_i c4
            rw [if_neg c4] at hb
            exact absurd ⟨rfl, rfl⟩ hb
        · rename_i c3
          rw [if_neg c3] at hb
          exact absurd ⟨rfl, rfl⟩ hb

theorem bad_byte (s : ByteArray) (pos : Nat) (h : pos < s.size) (hb : (Utf8.decode s pos).1 = 65533) (_h1 : (Utf8.decode s pos).2 = 1) : 128 ≤ (s[pos]'h).toNat := by
  rw [decode_at] at hb
  have := dN_bad _ _ _ _ _ hb
  have e : s.get! pos = s[pos]'h := by
    show s.data[pos]! = s.data[pos]
    rw [getElem!_pos s.data pos h]
  rw [← e]; exact this

theorem badOf_true {r k : Nat} (h : badOf r k = true) : r = 65533 ∧ k = 1 := by
  simp only [badOf, Bool.and_eq_true, beq_iff_eq] at h
  omega

theorem badOf_false {r k : Nat} (h : badOf r k = false) : ¬ (r = 65533 ∧ k = 1) := by
  intro ⟨a, b⟩
  subst a; subst b
  simp [badOf] at h

end Go.Proofs.YtginggelbfbcfaaDoor
