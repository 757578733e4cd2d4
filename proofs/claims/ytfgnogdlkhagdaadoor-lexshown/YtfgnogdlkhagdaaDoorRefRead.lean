/-
  The document's own reader, Read: for every text it returns the number whose text it is, or 0 and false; nothing in memory turns. Conditions: the text's length is of 64 bits.
-/
import Derived.Test.YtfgnogdlkhagdaaDoorJb
import Derived.Test.YtfgnogdlkhagdaaDoorJa
import Derived.Lib.Hide
import Derived.Lib.Strings
namespace Go.Proofs.YtfgnogdlkhagdaaDoor
open Go.RowKit
set_option linter.unusedVariables false

theorem spell_pow : ∀ (l : List UInt8) (a : Nat), Digs l → spell a l + 1 ≤ (a + 1) * 10 ^ l.length
  | [], a, _ => by
    show a + 1 ≤ (a + 1) * 10 ^ 0
    omega
  | c :: r, a, hd => by
    have hc := hd c (by simp)
    have h := spell_pow r (a * 10 + (c.toNat - 48)) (fun x hx => hd x (by simp [hx]))
    have e : spell a (c :: r) = spell (a * 10 + (c.toNat - 48)) r := rfl
    rw [e, List.length_cons, Nat.pow_succ, Nat.mul_comm (10 ^ r.length) 10, ← Nat.mul_assoc]
    exact Nat.le_trans h (Nat.mul_le_mul_right _ (by omega))

theorem take_snoc (s : ByteArray) (k : Nat) (h : k < s.size) : s.data.toList.take (k + 1) = s.data.toList.take k ++ [s[k]] := by
  rw [List.take_succ_eq_append_getElem (by simpa using h)]; rfl

theorem size_list' (s : ByteArray) : s.data.toList.length = s.size := Array.length_toList

/-- The first k bytes are digits, and spell so much. -/
def Sum (t : ByteArray) (k : Nat) (u : Nat) : Prop := Digs (t.data.toList.take k) ∧ u = spell 0 (t.data.toList.take k)

theorem Sum.start (t : ByteArray) : Sum t 0 0 := ⟨fun c hc => by simp at hc, rfl⟩
theorem Sum.step {t : ByteArray} {k u : Nat} (h : Sum t k u) (hk : k < t.size) (h1 : 48 ≤ (t[k].toNat : Int)) (h2 : (t[k].toNat : Int) ≤ 57) : Sum t (k + 1) (u * 10 + (t[k].toNat - 48)) := by
  refine ⟨?_, ?_⟩
  · rw [take_snoc t k hk]
    intro c hc
    rcases List.mem_append.1 hc with h' | h'
    · exact h.1 c h'
    · obtain rfl := List.mem_singleton.1 h'
      omega
  · rw [take_snoc t k hk, spell_append, ← h.2]
theorem Sum.bound {t : ByteArray} {k u : Nat} (h : Sum t k u) (hk : k ≤ 19) : u < 10000000000000000000 := by
  have := spell_pow _ 0 h.1
  rw [← h.2] at this
  have h2 : 10 ^ (t.data.toList.take k).length ≤ 10 ^ 19 := Nat.pow_le_pow_right (by decide) (Nat.le_trans (List.length_take_le _ _) hk)
  omega
theorem Sum.done {t : ByteArray} {u : Nat} (h : Sum t t.size u) : Digs t.data.toList ∧ u = spell 0 t.data.toList := by
  have e : t.data.toList.take t.size = t.data.toList := List.take_of_length_le (by rw [size_list']; exact Nat.le_refl _)
  unfold Sum at h
  rw [e] at h
  exact h
theorem Sum.not {t : ByteArray} {k : Nat} (hk : k < t.size) (h : (t[k].toNat : Int) < 48 ∨ 57 < (t[k].toNat : Int)) : ¬ Digs t.data.toList := fun hd => by
  have hm : t[k] ∈ t.data.toList := by
    show t.data[k] ∈ t.data.toList
    simp
  have := hd _ hm
  omega

/-! ### What is read, and what is not -/
theorem no_plain {l : List UInt8} (hm : ∀ r, l ≠ 45 :: r) (h : ¬ (Digs l ∧ l ≠ [] ∧ l.length ≤ 19 ∧ (∀ r, l = 48 :: r → r = []) ∧ spell 0 l < 9223372036854775808)) : okOf l = false := by
  cases ho : okOf l with
  | false => rfl
  | true => exact absurd (plain_read ho hm) h
theorem no_minus {l : List UInt8} (h : ¬ (Digs l ∧ l ≠ [] ∧ l.length ≤ 19 ∧ (∀ r, l ≠ 48 :: r) ∧ spell 0 l ≤ 9223372036854775808)) : okOf (45 :: l) = false := by
  cases ho : okOf (45 :: l) with
  | false => rfl
  | true => exact absurd (minus_read ho) h
theorem ret_two {l : List UInt8} (h : okOf l = false) : Ending.returned (.tuple #[.int .i64 0, .bool false]) = .returned (.tuple #[.int .i64 (valOf l), .bool (okOf l)]) := by
  rw [h, val_none h]
theorem ret_yes {l : List UInt8} {v : Int} (h : okOf l = true ∧ valOf l = v) : Ending.returned (.tuple #[.int .i64 v, .bool true]) = .returned (.tuple #[.int .i64 (valOf l), .bool (okOf l)]) := by
  rw [h.1, h.2]
theorem ret_yes2 {l : List UInt8} {x v : Int} (hx : x = v) (h : okOf l = true ∧ valOf l = v) : Ending.returned (.tuple #[.int .i64 x, .bool true]) = .returned (.tuple #[.int .i64 (valOf l), .bool (okOf l)]) := by
  rw [h.1, h.2, hx]
theorem turn_minus (u : Nat) (h : (u : Int) ≤ 9223372036854775808) : wrap64 (IntKind.u64.wrap (-(u : Int))) = -(u : Int) := by
  have e : ∀ n, IntKind.u64.wrap n = n % 18446744073709551616 := fun n => rfl
  rw [e]
  unfold wrap64
  omega
theorem add_digit (u d : Nat) (h1 : 48 ≤ (d : Int)) : (u : Int) * 10 + ((d : Int) - 48) = ((u * 10 + (d - 48) : Nat) : Int) := by
  omega
theorem Sum.bound18 {t : ByteArray} {k u : Nat} (h : Sum t k u) (hk : k ≤ 18) : u < 1000000000000000000 := by
  have := spell_pow _ 0 h.1
  rw [← h.2] at this
  have h2 : 10 ^ (t.data.toList.take k).length ≤ 10 ^ 18 := Nat.pow_le_pow_right (by decide) (Nat.le_trans (List.length_take_le _ _) hk)
  omega

set_option maxHeartbeats 1000000 in
theorem read_p (t : ByteArray) (h0 : 0 < t.size) (h19 : (t.size : Int) ≤ 19) (hE : t.toList.isEmpty = false) (hN : ¬ t.toList = []) (hm : ((t[0].toNat : Int) == 45) = false) (h48 : ((t[0].toNat : Int) == 48) = false) 
    (hm' : ∀ r, t.data.toList ≠ 45 :: r) (hne : t.data.toList ≠ []) (hz : ∀ r, t.data.toList = 48 :: r → r = []) (w : World) :
    Calls Tryd.prog 40 #[.string t] w fun e w' => e = .returned (.tuple #[.int .i64 (valOf t.data.toList), .bool (okOf t.data.toList)]) ∧ Later w w' := by
  go_enter Tryd.func40, Tryd.ntmps40
  go_wp2
  go_loopw [5, 6] (fun uv iv wr => ∃ k u : Nat, k ≤ t.size ∧ iv = .int .i64 (k : Int) ∧ uv = .int .u64 (u : Int) ∧ Later w wr ∧ Sum t k u) (fun _ iv _ => t.size - (intOf iv).toNat)
  case atStart => exact ⟨0, 0, Nat.zero_le _, rfl, rfl, Later.refl _, Sum.start t⟩
  case round =>
    obtain ⟨k, u, hk, rfl, rfl, hl, hS⟩ := hrel
    have hb := hS.bound (by omega)
    by_cases hlt : k < t.size
    · by_cases hlo : (t[k].toNat : Int) < 48
      · have hn := Lib.hid (no_plain hm' fun h => absurd h.1 (Sum.not hlt (Or.inl hlo)))
        clear hS
        go_wp2
        go_ret2
        exact ⟨ret_two hn.out, hl⟩
      by_cases hhi : 57 < (t[k].toNat : Int)
      · have hn := Lib.hid (no_plain hm' fun h => absurd h.1 (Sum.not hlt (Or.inr hhi)))
        clear hS
        go_wp2
        go_ret2
        exact ⟨ret_two hn.out, hl⟩
      · have hst := Lib.hid (hS.step hlt (by omega) (by omega))
        have hb18 := hS.bound18 (by omega)
        clear hS
        go_wp2
        refine ⟨⟨k + 1, _, by omega, by go_num, congrArg (Value.int .u64) (add_digit u t[k].toNat (by omega)), hl, hst.out⟩, ?_⟩
        simp [intOf]
        omega
    · have hkt : k = t.size := by omega
      subst hkt
      obtain ⟨hd, hu⟩ := hS.done
      by_cases hbig : 9223372036854775808 ≤ (u : Int)
      · have hn := Lib.hid (show okOf t.data.toList = false from no_plain hm' fun h => by have := h.2.2.2.2; omega)
        clear hS hu hd
        go_wp2
        go_ret2
        exact ⟨ret_two hn.out, hl⟩
      · have hr0 := read_plain hd hne hz (by omega)
        rw [← hu] at hr0
        have hr := Lib.hid hr0
        clear hS hu hd hr0
        go_wp2
        go_ret2
        exact ⟨ret_yes hr.out, hl⟩

set_option maxHeartbeats 1000000 in
theorem read_p0 (t : ByteArray) (h0 : 0 < t.size) (h19 : (t.size : Int) ≤ 19) (hE : t.toList.isEmpty = false) (hN : ¬ t.toList = []) (hm : ((t[0].toNat : Int) == 45) = false) (h48 : ((t[0].toNat : Int) == 48) = true) (h1 : (t.size : Int) ≤ 1)
    (hm' : ∀ r, t.data.toList ≠ 45 :: r) (hne : t.data.toList ≠ []) (hz : ∀ r, t.data.toList = 48 :: r → r = []) (w : World) :
    Calls Tryd.prog 40 #[.string t] w fun e w' => e = .returned (.tuple #[.int .i64 (valOf t.data.toList), .bool (okOf t.data.toList)]) ∧ Later w w' := by
  go_enter Tryd.func40, Tryd.ntmps40
  go_wp2
  go_loopw [5, 6] (fun uv iv wr => ∃ k u : Nat, k ≤ t.size ∧ iv = .int .i64 (k : Int) ∧ uv = .int .u64 (u : Int) ∧ Later w wr ∧ Sum t k u) (fun _ iv _ => t.size - (intOf iv).toNat)
  case atStart => exact ⟨0, 0, Nat.zero_le _, rfl, rfl, Later.refl _, Sum.start t⟩
  case round =>
    obtain ⟨k, u, hk, rfl, rfl, hl, hS⟩ := hrel
    have hb := hS.bound (by omega)
    by_cases hlt : k < t.size
    · by_cases hlo : (t[k].toNat : Int) < 48
      · have hn := Lib.hid (no_plain hm' fun h => absurd h.1 (Sum.not hlt (Or.inl hlo)))
        clear hS
        go_wp2
        go_ret2
        exact ⟨ret_two hn.out, hl⟩
      by_cases hhi : 57 < (t[k].toNat : Int)
      · have hn := Lib.hid (no_plain hm' fun h => absurd h.1 (Sum.not hlt (Or.inr hhi)))
        clear hS
        go_wp2
        go_ret2
        exact ⟨ret_two hn.out, hl⟩
      · have hst := Lib.hid (hS.step hlt (by omega) (by omega))
        have hb18 := hS.bound18 (by omega)
        clear hS
        go_wp2
        refine ⟨⟨k + 1, _, by omega, by go_num, congrArg (Value.int .u64) (add_digit u t[k].toNat (by omega)), hl, hst.out⟩, ?_⟩
        simp [intOf]
        omega
    · have hkt : k = t.size := by omega
      subst hkt
      obtain ⟨hd, hu⟩ := hS.done
      by_cases hbig : 9223372036854775808 ≤ (u : Int)
      · have hn := Lib.hid (show okOf t.data.toList = false from no_plain hm' fun h => by have := h.2.2.2.2; omega)
        clear hS hu hd
        go_wp2
        go_ret2
        exact ⟨ret_two hn.out, hl⟩
      · have hr0 := read_plain hd hne hz (by omega)
        rw [← hu] at hr0
        have hr := Lib.hid hr0
        clear hS hu hd hr0
        go_wp2
        go_ret2
        exact ⟨ret_yes hr.out, hl⟩

set_option maxHeartbeats 1000000 in
theorem read_m (s t : ByteArray) (hT : s.extract 1 s.size = t) (hs : (1 : Int) ≤ (s.size : Int)) (hs' : 0 < s.size) (hs47 : s.size ≤ 140737488355328) (hm : ((s[0].toNat : Int) == 45) = true) (h0 : 0 < t.size) (h19 : (t.size : Int) ≤ 19) (hE : t.toList.isEmpty = false) (hN : ¬ t.toList = []) (h48 : ((t[0].toNat : Int) == 48) = false)
    (hl45 : s.data.toList = 45 :: t.data.toList) (hne : t.data.toList ≠ []) (hz : ∀ r, t.data.toList ≠ 48 :: r) (w : World) :
    Calls Tryd.prog 40 #[.string s] w fun e w' => e = .returned (.tuple #[.int .i64 (valOf s.data.toList), .bool (okOf s.data.toList)]) ∧ Later w w' := by
  rw [hl45]
  clear hl45
  go_enter Tryd.func40, Tryd.ntmps40
  go_wp2
  go_loopw [5, 6] (fun uv iv wr => ∃ k u : Nat, k ≤ t.size ∧ iv = .int .i64 (k : Int) ∧ uv = .int .u64 (u : Int) ∧ Later w wr ∧ Sum t k u) (fun _ iv _ => t.size - (intOf iv).toNat)
  case atStart => exact ⟨0, 0, Nat.zero_le _, rfl, rfl, Later.refl _, Sum.start t⟩
  case round =>
    obtain ⟨k, u, hk, rfl, rfl, hl, hS⟩ := hrel
    have hb := hS.bound (by omega)
    by_cases hlt : k < t.size
    · by_cases hlo : (t[k].toNat : Int) < 48
      · have hn := Lib.hid (no_minus fun h => absurd h.1 (Sum.not hlt (Or.inl hlo)))
        clear hS
        go_wp2
        go_ret2
        exact ⟨ret_two hn.out, hl⟩
      by_cases hhi : 57 < (t[k].toNat : Int)
      · have hn := Lib.hid (no_minus fun h => absurd h.1 (Sum.not hlt (Or.inr hhi)))
        clear hS
        go_wp2
        go_ret2
        exact ⟨ret_two hn.out, hl⟩
      · have hst := Lib.hid (hS.step hlt (by omega) (by omega))
        have hb18 := hS.bound18 (by omega)
        clear hS
        go_wp2
        refine ⟨⟨k + 1, _, by omega, by go_num, congrArg (Value.int .u64) (add_digit u t[k].toNat (by omega)), hl, hst.out⟩, ?_⟩
        simp [intOf]
        omega
    · have hkt : k = t.size := by omega
      subst hkt
      obtain ⟨hd, hu⟩ := hS.done
      by_cases hbig : 9223372036854775808 < (u : Int)
      · have hn := Lib.hid (show okOf (45 :: t.data.toList) = false from no_minus fun h => by have := h.2.2.2.2; omega)
        clear hS hu hd
        go_wp2
        go_ret2
        exact ⟨ret_two hn.out, hl⟩
      · have hr0 := read_minus hd hne hz (by omega)
        rw [← hu] at hr0
        have hr := Lib.hid hr0
        clear hS hu hd hr0
        go_wp2
        go_ret2
        exact ⟨ret_yes2 (turn_minus u (by omega)) hr.out, hl⟩

set_option maxHeartbeats 1000000 in
theorem no_p0 (hn : okOf (⟨#[]⟩ : ByteArray).data.toList = false) (w : World) :
    Calls Tryd.prog 40 #[.string ⟨#[]⟩] w fun e w' => e = .returned (.tuple #[.int .i64 (valOf (⟨#[]⟩ : ByteArray).data.toList), .bool (okOf (⟨#[]⟩ : ByteArray).data.toList)]) ∧ Later w w' := by
  have HN := Lib.hid hn
  clear hn
  go_enter Tryd.func40, Tryd.ntmps40
  go_wp2
  go_ret2
  exact ⟨ret_two HN.out, Later.refl _⟩

set_option maxHeartbeats 1000000 in
theorem no_p1 (t : ByteArray) (h0 : 0 < t.size) (hE : t.toList.isEmpty = false) (hN : ¬ t.toList = []) (hm : ((t[0].toNat : Int) == 45) = false) (hs47 : t.size ≤ 140737488355328) (h19 : 19 < (t.size : Int)) (hn : okOf t.data.toList = false) (w : World) :
    Calls Tryd.prog 40 #[.string t] w fun e w' => e = .returned (.tuple #[.int .i64 (valOf t.data.toList), .bool (okOf t.data.toList)]) ∧ Later w w' := by
  have HN := Lib.hid hn
  clear hn
  go_enter Tryd.func40, Tryd.ntmps40
  go_wp2
  go_ret2
  exact ⟨ret_two HN.out, Later.refl _⟩

set_option maxHeartbeats 1000000 in
theorem no_p2 (t : ByteArray) (h0 : 0 < t.size) (hE : t.toList.isEmpty = false) (hN : ¬ t.toList = []) (hm : ((t[0].toNat : Int) == 45) = false) (h19 : (t.size : Int) ≤ 19) (h1 : 1 < (t.size : Int)) (h48 : ((t[0].toNat : Int) == 48) = true) (hn : okOf t.data.toList = false) (w : World) :
    Calls Tryd.prog 40 #[.string t] w fun e w' => e = .returned (.tuple #[.int .i64 (valOf t.data.toList), .bool (okOf t.data.toList)]) ∧ Later w w' := by
  have HN := Lib.hid hn
  clear hn
  go_enter Tryd.func40, Tryd.ntmps40
  go_wp2
  go_ret2
  exact ⟨ret_two HN.out, Later.refl _⟩

set_option maxHeartbeats 1000000 in
theorem no_mnil (s : ByteArray) (hT : s.extract 1 s.size = ⟨#[]⟩) (hs : (1 : Int) ≤ (s.size : Int)) (hs' : 0 < s.size) (hs47 : s.size ≤ 140737488355328) (hm : ((s[0].toNat : Int) == 45) = true) (hn : okOf s.data.toList = false) (w : World) :
    Calls Tryd.prog 40 #[.string s] w fun e w' => e = .returned (.tuple #[.int .i64 (valOf s.data.toList), .bool (okOf s.data.toList)]) ∧ Later w w' := by
  have HN := Lib.hid hn
  clear hn
  go_enter Tryd.func40, Tryd.ntmps40
  go_wp2
  go_ret2
  exact ⟨ret_two HN.out, Later.refl _⟩

set_option maxHeartbeats 1000000 in
theorem no_m1 (s t : ByteArray) (hT : s.extract 1 s.size = t) (hs : (1 : Int) ≤ (s.size : Int)) (hs' : 0 < s.size) (hs47 : s.size ≤ 140737488355328) (hm : ((s[0].toNat : Int) == 45) = true) (h0 : 0 < t.size) (hE : t.toList.isEmpty = false) (hN : ¬ t.toList = []) (h19 : 19 < (t.size : Int)) (hn : okOf s.data.toList = false) (w : World) :
    Calls Tryd.prog 40 #[.string s] w fun e w' => e = .returned (.tuple #[.int .i64 (valOf s.data.toList), .bool (okOf s.data.toList)]) ∧ Later w w' := by
  have HN := Lib.hid hn
  clear hn
  go_enter Tryd.func40, Tryd.ntmps40
  go_wp2
  go_ret2
  exact ⟨ret_two HN.out, Later.refl _⟩

set_option maxHeartbeats 1000000 in
theorem no_m2 (s t : ByteArray) (hT : s.extract 1 s.size = t) (hs : (1 : Int) ≤ (s.size : Int)) (hs' : 0 < s.size) (hs47 : s.size ≤ 140737488355328) (hm : ((s[0].toNat : Int) == 45) = true) (h0 : 0 < t.size) (hE : t.toList.isEmpty = false) (hN : ¬ t.toList = []) (h19 : (t.size : Int) ≤ 19) (h48 : ((t[0].toNat : Int) == 48) = true) (h1 : 1 < (t.size : Int)) (hn : okOf s.data.toList = false) (w : World) :
    Calls Tryd.prog 40 #[.string s] w fun e w' => e = .returned (.tuple #[.int .i64 (valOf s.data.toList), .bool (okOf s.data.toList)]) ∧ Later w w' := by
  have HN := Lib.hid hn
  clear hn
  go_enter Tryd.func40, Tryd.ntmps40
  go_wp2
  go_ret2
  exact ⟨ret_two HN.out, Later.refl _⟩

set_option maxHeartbeats 1000000 in
theorem no_m3 (s t : ByteArray) (hT : s.extract 1 s.size = t) (hs : (1 : Int) ≤ (s.size : Int)) (hs' : 0 < s.size) (hs47 : s.size ≤ 140737488355328) (hm : ((s[0].toNat : Int) == 45) = true) (h0 : 0 < t.size) (hE : t.toList.isEmpty = false) (hN : ¬ t.toList = []) (h19 : (t.size : Int) ≤ 19) (h48 : ((t[0].toNat : Int) == 48) = true) (h1 : (t.size : Int) ≤ 1) (hn : okOf s.data.toList = false) (w : World) :
    Calls Tryd.prog 40 #[.string s] w fun e w' => e = .returned (.tuple #[.int .i64 (valOf s.data.toList), .bool (okOf s.data.toList)]) ∧ Later w w' := by
  have HN := Lib.hid hn
  clear hn
  go_enter Tryd.func40, Tryd.ntmps40
  go_wp2
  go_ret2
  exact ⟨ret_two HN.out, Later.refl _⟩

theorem head_list (s : ByteArray) (h : 0 < s.size) : s.data.toList = s[0] :: (s.extract 1 s.size).data.toList := by
  rw [Lib.extract_data]
  have e : (s.data.toList.drop 1).take (s.size - 1) = s.data.toList.drop 1 := List.take_of_length_le (by rw [List.length_drop, size_list']; exact Nat.le_refl _)
  rw [e]
  have hl : 0 < s.data.toList.length := by rw [size_list']; exact h
  have := List.drop_eq_getElem_cons hl
  rw [List.drop_zero] at this
  exact this

theorem toNat_eq {c : UInt8} {n : Nat} (hn : n < 256) (h : (c.toNat : Int) = n) : c = UInt8.ofNat n := by
  apply UInt8.toNat_inj.1
  rw [UInt8.toNat_ofNat']
  omega

theorem refRead_any (s : ByteArray) (hs : s.size ≤ 140737488355328) (w : World) :
    Calls Tryd.prog 40 #[.string s] w fun e w' => e = .returned (.tuple #[.int .i64 (valOf s.data.toList), .bool (okOf s.data.toList)]) ∧ Later w w' := by
  have isE : ∀ t : ByteArray, 0 < t.size → t.toList.isEmpty = false ∧ (¬ t.toList = []) ∧ t.data.toList ≠ [] := fun t ht => by
    have hne : t.data.toList ≠ [] := fun e => by have := size_list' t; rw [e] at this; simp at this; omega
    rw [ByteArray.toList_eq]
    exact ⟨by simpa using hne, hne, hne⟩
  have isNil : ∀ t : ByteArray, t.size = 0 → t = ⟨#[]⟩ := fun t ht => by
    have h1 := size_list' t
    rw [ht] at h1
    have h2 := List.length_eq_zero_iff.1 h1
    cases t with
    | mk d => cases d with
      | mk l => simp only at h2; rw [h2]
  by_cases h0 : s.size = 0
  · obtain rfl := isNil s h0
    exact no_p0 (by decide +kernel) w
  have h0' : 0 < s.size := by omega
  have hl := head_list s h0'
  obtain ⟨e1, e2, e3⟩ := isE s h0'
  by_cases hm : (s[0].toNat : Int) = 45
  · have hm' : ((s[0].toNat : Int) == 45) = true := by simpa using hm
    have h45 : s[0] = 45 := toNat_eq (n := 45) (by decide) hm
    rw [h45] at hl
    obtain ⟨t, hT⟩ : ∃ t, s.extract 1 s.size = t := ⟨_, rfl⟩
    rw [hT] at hl
    by_cases ht0 : t.size = 0
    · obtain rfl := isNil t ht0
      exact no_mnil s hT (by omega) h0' hs hm' (by rw [hl]; exact no_minus fun h => h.2.1 rfl) w
    have ht0' : 0 < t.size := by omega
    obtain ⟨f1, f2, f3⟩ := isE t ht0'
    have hlt := head_list t ht0'
    by_cases h19 : 19 < t.size
    · exact no_m1 s t hT (by omega) h0' hs hm' ht0' f1 f2 (by omega) (by rw [hl]; exact no_minus fun h => by have := h.2.2.1; rw [size_list'] at this; omega) w
    by_cases h48 : (t[0].toNat : Int) = 48
    · have hc : t[0] = 48 := toNat_eq (n := 48) (by decide) h48
      rw [hc] at hlt
      have hn : okOf s.data.toList = false := by rw [hl]; exact no_minus fun h => h.2.2.2.1 _ hlt
      by_cases h1 : 1 < t.size
      · exact no_m2 s t hT (by omega) h0' hs hm' ht0' f1 f2 (by omega) (by simpa using h48) (by omega) hn w
      · exact no_m3 s t hT (by omega) h0' hs hm' ht0' f1 f2 (by omega) (by simpa using h48) (by omega) hn w
    · exact read_m s t hT (by omega) h0' hs hm' ht0' (by omega) f1 f2 (by simpa using h48) hl f3 (fun r e => by
        rw [hlt, List.cons.injEq] at e
        exact h48 (by rw [e.1]; rfl)) w
  · have hm' : ((s[0].toNat : Int) == 45) = false := by simpa using hm
    have hm2 : ∀ r, s.data.toList ≠ 45 :: r := fun r e => by
      rw [hl, List.cons.injEq] at e
      exact hm (by rw [e.1]; rfl)
    by_cases h19 : 19 < s.size
    · exact no_p1 s h0' e1 e2 hm' hs (by omega) (no_plain hm2 fun h => by have := h.2.2.1; rw [size_list'] at this; omega) w
    by_cases h48 : (s[0].toNat : Int) = 48
    · have hc : s[0] = 48 := toNat_eq (n := 48) (by decide) h48
      rw [hc] at hl
      have hsz : (s.extract 1 s.size).data.toList.length = s.size - 1 := by
        have := congrArg List.length hl
        rw [size_list', List.length_cons] at this
        omega
      by_cases h1 : 1 < s.size
      · exact no_p2 s h0' e1 e2 hm' (by omega) (by omega) (by simpa using h48) (no_plain hm2 fun h => by
          have := h.2.2.2.1 _ hl
          rw [this] at hsz
          simp at hsz
          omega) w
      · exact read_p0 s h0' (by omega) e1 e2 hm' (by simpa using h48) (by omega) hm2 e3 (fun r e => by
          rw [hl, List.cons.injEq] at e
          rw [← e.2]
          exact List.length_eq_zero_iff.1 (by omega)) w
    · exact read_p s h0' (by omega) e1 e2 hm' (by simpa using h48) hm2 e3 (fun r e => by
        rw [hl, List.cons.injEq] at e
        exact absurd (by rw [e.1]; rfl) h48) w

end Go.Proofs.YtfgnogdlkhagdaaDoor
