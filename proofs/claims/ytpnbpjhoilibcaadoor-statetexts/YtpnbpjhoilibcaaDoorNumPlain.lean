/-
  What is of no program: decimal texts as lists of bytes. A number of 64 bits is read back from its own text; a list of bytes is read just if it is the text of such a number; what the texts begin with, are made of, and how long they are. Conditions: the bounds of 64 bits, where a theorem names them.
-/
import Derived.Lib.ParseIntBTie
import Derived.Lib.ItoaLen
namespace Go.Proofs.YtpnbpjhoilibcaaDoor
open Go.Lib

/-- Whether a text is read: it is the text of the number that it spells. -/
def okOf (l : List UInt8) : Bool := match atoiAll l with | .ok v => decide (itoa v = l) | _ => false
/-- What a text is read as; 0, if it is not read. -/
def valOf (l : List UInt8) : Int := match atoiAll l with | .ok v => if itoa v = l then v else 0 | _ => 0

/-- What a row of digits spells, behind what stands ahead of it. -/
def spell (acc : Nat) : List UInt8 → Nat
  | [] => acc
  | c :: r => spell (acc * 10 + (c.toNat - 48)) r

/-- Digits alone. -/
def Digs (l : List UInt8) : Prop := ∀ c ∈ l, 48 ≤ c.toNat ∧ c.toNat ≤ 57

theorem spell_append (l : List UInt8) (c : UInt8) : ∀ acc, spell acc (l ++ [c]) = spell acc l * 10 + (c.toNat - 48) := by
  induction l with
  | nil => intro acc; rfl
  | cons x r ih => intro acc; exact ih _

theorem spell_ge (l : List UInt8) : ∀ acc, acc ≤ spell acc l := by
  induction l with
  | nil => intro acc; exact Nat.le_refl _
  | cons x r ih => intro acc; exact Nat.le_trans (by omega) (ih _)

theorem digit_toNat {d : Nat} (h : d < 10) : (UInt8.ofNat (48 + d)).toNat = 48 + d := by
  rw [UInt8.toNat_ofNat']
  omega

theorem dec_big {u : Nat} (h : ¬ u < 10) : decDigits u = decDigits (u / 10) ++ [UInt8.ofNat (48 + u % 10)] := by
  rw [decDigits, dif_neg h]

theorem dec_digs (u : Nat) : Digs (decDigits u) := by
  induction u using Nat.strongRecOn with
  | _ u ih =>
    by_cases h : u < 10
    · rw [decDigits_one h]
      intro c hc
      obtain rfl := List.mem_singleton.1 hc
      rw [digit_toNat h]; omega
    · rw [dec_big h]
      intro c hc
      rcases List.mem_append.1 hc with h1 | h1
      · exact ih _ (by omega) c h1
      · obtain rfl := List.mem_singleton.1 h1
        rw [digit_toNat (by omega)]; omega

theorem spell_dec (u : Nat) : spell 0 (decDigits u) = u := by
  induction u using Nat.strongRecOn with
  | _ u ih =>
    by_cases h : u < 10
    · have e := digit_toNat h
      have e1 : spell 0 [UInt8.ofNat (48 + u)] = 0 * 10 + ((UInt8.ofNat (48 + u)).toNat - 48) := rfl
      rw [decDigits_one h, e1, e, Nat.add_sub_cancel_left, Nat.zero_mul, Nat.zero_add]
    · rw [dec_big h, spell_append, ih _ (by omega), digit_toNat (by omega)]
      omega

theorem dec_ne_nil (u : Nat) : decDigits u ≠ [] := by
  intro h
  have := decDigits_length u
  rw [h] at this
  have := nDigits_pos u
  simp at *
  omega

/-- A text that begins with 0 is that of 0. -/
theorem dec_head (u : Nat) : ∀ r, decDigits u = 48 :: r → u = 0 ∧ r = [] := by
  induction u using Nat.strongRecOn with
  | _ u ih =>
    intro r h
    by_cases hu : u < 10
    · rw [decDigits_one hu] at h
      simp only [List.cons.injEq] at h
      have := congrArg UInt8.toNat h.1
      rw [digit_toNat hu] at this
      have e : (48 : UInt8).toNat = 48 := rfl
      exact ⟨by omega, h.2.symm⟩
    · rw [dec_big hu] at h
      match hd : decDigits (u / 10), h with
      | [], _ => exact absurd hd (dec_ne_nil _)
      | c :: r', h =>
        simp only [List.cons_append, List.cons.injEq] at h
        obtain ⟨rfl, _⟩ := h
        have := ih (u / 10) (by omega) r' hd
        omega

/-- Digits, not none, with no needless 0 ahead, are the text of what they spell. -/
theorem dec_spell : ∀ (n : Nat) (l : List UInt8), l.length = n → Digs l → l ≠ [] → (∀ r, l = 48 :: r → r = []) → decDigits (spell 0 l) = l := by
  intro n
  induction n with
  | zero => intro l hl _ hne; exact absurd (List.length_eq_zero_iff.1 hl) hne
  | succ n ih =>
    intro l hl hd hne hz
    obtain ⟨r, c, rfl⟩ : ∃ r c, l = r ++ [c] := ⟨l.dropLast, l.getLast hne, (List.dropLast_concat_getLast hne).symm⟩
    have hc := hd c (by simp)
    have hcc : UInt8.ofNat (48 + (c.toNat - 48)) = c := by
      rw [show 48 + (c.toNat - 48) = c.toNat by omega]; simp
    cases r with
    | nil =>
      have e1 : spell 0 ([] ++ [c]) = c.toNat - 48 := by
        show 0 * 10 + (c.toNat - 48) = _
        rw [Nat.zero_mul, Nat.zero_add]
      rw [e1, decDigits_one (i := c.toNat - 48) (by omega), hcc]
      rfl
    | cons x r =>
      have hlen : (x :: r).length = n := by simp at hl ⊢; omega
      have hx : x ≠ 48 := by
        rintro rfl
        have := hz (r ++ [c]) rfl
        simp at this
      have hr := ih (x :: r) hlen (fun d hd' => hd d (by simp at hd' ⊢; rcases hd' with h | h <;> simp [h])) (by simp) (fun r' e => by simp only [List.cons.injEq] at e; exact absurd e.1 hx)
      have hpos : spell 0 (x :: r) ≠ 0 := by
        intro h0
        rw [h0, decDigits_one (by omega)] at hr
        simp only [List.cons.injEq] at hr
        exact hx hr.1.symm
      rw [spell_append, dec_big (by omega), show (spell 0 (x :: r) * 10 + (c.toNat - 48)) / 10 = spell 0 (x :: r) by omega,
        show (spell 0 (x :: r) * 10 + (c.toNat - 48)) % 10 = c.toNat - 48 by omega, hr, hcc]

theorem parse_digs (l : List UInt8) : ∀ acc, Digs l → spell acc l < 18446744073709551616 → parseUint10 acc l = .ok (spell acc l) := by
  induction l with
  | nil => intro acc _ _; rfl
  | cons c r ih =>
    intro acc hd hv
    have hc := hd c (by simp)
    have hge := spell_ge r (acc * 10 + (c.toNat - 48))
    have e1 : spell acc (c :: r) = spell (acc * 10 + (c.toNat - 48)) r := rfl
    rw [e1] at hv ⊢
    have h1 : ¬ 1844674407370955162 ≤ acc := by omega
    have h2 : ¬ 18446744073709551616 ≤ acc * 10 + (c.toNat - 48) := by omega
    have e2 : parseUint10 acc (c :: r) = parseUint10 (acc * 10 + (c.toNat - 48)) r := by
      simp only [parseUint10, hc, h1, h2, and_self, if_true, if_false]
    rw [e2]
    exact ih _ (fun d h => hd d (by simp [h])) hv

theorem parse_dec (u : Nat) (h : u < 18446744073709551616) : parseMag (decDigits u) = .ok u := by
  rw [parseMag, if_neg (dec_ne_nil u), parse_digs _ _ (dec_digs u) (by rw [spell_dec]; exact h), spell_dec]

/-- A number's text is read as the number. -/
theorem atoi_itoa (n : Int) (h0 : -9223372036854775808 ≤ n) (h1 : n ≤ 9223372036854775807) : atoiAll (itoa n) = .ok n := by
  by_cases hneg : n < 0
  · obtain ⟨u, rfl⟩ : ∃ u : Nat, n = -(u : Int) := ⟨n.natAbs, by omega⟩
    rw [itoa_neg u (by omega), atoiAll_minus, parse_dec u (by omega)]
    simp only [signed]
    rw [if_neg (by omega)]
  · obtain ⟨u, rfl⟩ : ∃ u : Nat, n = u := ⟨n.toNat, by omega⟩
    rw [itoa_nonneg]
    match hd : decDigits u with
    | [] => exact absurd hd (dec_ne_nil u)
    | c :: r =>
      have hc := dec_digs u c (by rw [hd]; simp)
      rw [atoiAll_plain c r (by omega) (by omega), ← hd, parse_dec u (by omega)]
      simp only [signless]
      rw [if_neg (by omega)]

theorem ok_itoa (n : Int) (h0 : -9223372036854775808 ≤ n) (h1 : n ≤ 9223372036854775807) : okOf (itoa n) = true := by
  simp [okOf, atoi_itoa n h0 h1]
theorem val_itoa (n : Int) (h0 : -9223372036854775808 ≤ n) (h1 : n ≤ 9223372036854775807) : valOf (itoa n) = n := by
  simp [valOf, atoi_itoa n h0 h1]

/-- What is read is the text of a number of 64 bits. -/
theorem ok_text {l : List UInt8} (h : okOf l = true) : itoa (valOf l) = l ∧ -9223372036854775808 ≤ valOf l ∧ valOf l ≤ 9223372036854775807 := by
  unfold okOf at h
  unfold valOf
  split at h
  · rename_i v hv
    have e : itoa v = l := of_decide_eq_true h
    simp only [e, if_true]
    exact ⟨trivial, atoiAll_bounds hv⟩
  · cases h

theorem val_none {l : List UInt8} (h : okOf l = false) : valOf l = 0 := by
  unfold okOf at h
  unfold valOf
  split at h
  · rename_i v hv
    have e : ¬ itoa v = l := of_decide_eq_false h
    simp [e]
  · rfl

/-- What is the text of no number of 64 bits is not read. -/
theorem ok_none {l : List UInt8} (h : ∀ v, -9223372036854775808 ≤ v → v ≤ 9223372036854775807 → itoa v ≠ l) : okOf l = false := by
  cases ho : okOf l with
  | false => rfl
  | true => obtain ⟨e, a, b⟩ := ok_text ho; exact absurd e (h _ a b)

theorem itoa_ne_nil (n : Int) : itoa n ≠ [] := by
  unfold itoa
  split
  · simp
  · exact dec_ne_nil _

/-- The bytes of a text are digits, and the first one may be a minus. -/
theorem itoa_bytes (n : Int) : ∀ c ∈ itoa n, c.toNat = 45 ∨ (48 ≤ c.toNat ∧ c.toNat ≤ 57) := by
  intro c hc
  unfold itoa at hc
  split at hc
  · rcases List.mem_cons.1 hc with rfl | h
    · exact Or.inl rfl
    · exact Or.inr (dec_digs _ c h)
  · exact Or.inr (dec_digs _ c hc)

/-! ### A text that is bent -/

/-- With a byte ahead that is neither a digit nor a minus, or at the end: not read. -/
theorem bent_byte (l : List UInt8) (b : UInt8) (hb : b ∈ l) (h : b.toNat = 43 ∨ b.toNat = 32) : okOf l = false :=
  ok_none fun v _ _ e => by
    have := itoa_bytes v b (by rw [e]; exact hb)
    omega

theorem bent_zero (n : Int) : okOf (48 :: itoa n) = false :=
  ok_none fun v _ _ e => by
    unfold itoa at e
    split at e
    · simp at e
    · obtain ⟨_, h⟩ := dec_head _ _ e
      exact itoa_ne_nil n h

theorem minus_pos (n : Int) (h : 0 < n) : (45 :: itoa n) = itoa (-n) := by
  obtain ⟨u, rfl⟩ : ∃ u : Nat, n = u := ⟨n.toNat, by omega⟩
  rw [itoa_nonneg, itoa_neg u (by omega)]

theorem bent_minus (n : Int) (h : n ≤ 0) : okOf (45 :: itoa n) = false :=
  ok_none fun v _ _ e => by
    by_cases hv : v < 0
    · obtain ⟨u, rfl⟩ : ∃ u : Nat, v = -(u : Int) := ⟨v.natAbs, by omega⟩
      rw [itoa_neg u (by omega)] at e
      simp only [List.cons.injEq, true_and] at e
      by_cases hn : n < 0
      · obtain ⟨k, rfl⟩ : ∃ k : Nat, n = -(k : Int) := ⟨n.natAbs, by omega⟩
        rw [itoa_neg k (by omega)] at e
        have := dec_digs u 45 (by rw [e]; simp)
        have e45 : (45 : UInt8).toNat = 45 := rfl
        omega
      · have : n = 0 := by omega
        subst this
        have e0 : itoa 0 = 48 :: [] := by rw [show (0 : Int) = ((0 : Nat) : Int) from rfl, itoa_nonneg, decDigits_one (by omega)]; rfl
        rw [e0] at e
        have := (dec_head _ _ e).1
        omega
    · obtain ⟨u, rfl⟩ : ∃ u : Nat, v = u := ⟨v.toNat, by omega⟩
      rw [itoa_nonneg] at e
      have := dec_digs u 45 (by rw [e]; simp)
      have e45 : (45 : UInt8).toNat = 45 := rfl
      omega

/-! ### The order -/

/-- Which of two lists of bytes comes first. -/
def before : List UInt8 → List UInt8 → Bool
  | [], [] => false
  | [], _ :: _ => true
  | _ :: _, [] => false
  | a :: r, b :: s => decide (a.toNat < b.toNat) || (a.toNat == b.toNat && before r s)

theorem spell_lt : ∀ (l r : List UInt8) (a b : Nat), l.length = r.length → Digs l → Digs r → a < b → spell a l < spell b r
  | [], [], a, b, _, _, _, h => h
  | c :: l, d :: r, a, b, hl, hc, hd, h => by
    have h1 := hc c (by simp)
    have h2 := hd d (by simp)
    exact spell_lt l r _ _ (by simpa using hl) (fun x hx => hc x (by simp [hx])) (fun x hx => hd x (by simp [hx])) (by omega)

theorem before_spell : ∀ (l r : List UInt8) (a : Nat), l.length = r.length → Digs l → Digs r → before l r = decide (spell a l < spell a r)
  | [], [], a, _, _, _ => (decide_eq_false (Nat.lt_irrefl a)).symm
  | c :: l, d :: r, a, hl, hc, hd => by
    have h1 := hc c (by simp)
    have h2 := hd d (by simp)
    have hl' : l.length = r.length := by simpa using hl
    have hc' : Digs l := fun x hx => hc x (by simp [hx])
    have hd' : Digs r := fun x hx => hd x (by simp [hx])
    have e1 : before (c :: l) (d :: r) = (decide (c.toNat < d.toNat) || (c.toNat == d.toNat && before l r)) := rfl
    have e2 : spell a (c :: l) = spell (a * 10 + (c.toNat - 48)) l := rfl
    have e3 : spell a (d :: r) = spell (a * 10 + (d.toNat - 48)) r := rfl
    have e4 : decide (spell a (c :: l) < spell a (d :: r)) = decide (spell (a * 10 + (c.toNat - 48)) l < spell (a * 10 + (d.toNat - 48)) r) := by simp only [e2, e3]
    rw [e1, e4]
    clear e1 e2 e3 e4
    rcases Nat.lt_trichotomy c.toNat d.toNat with h | h | h
    · have := spell_lt l r (a * 10 + (c.toNat - 48)) (a * 10 + (d.toNat - 48)) hl' hc' hd' (by omega)
      simp [h, this]
    · rw [before_spell l r (a * 10 + (c.toNat - 48)) hl' hc' hd', h]
      simp
    · have := spell_lt r l (a * 10 + (d.toNat - 48)) (a * 10 + (c.toNat - 48)) hl'.symm hd' hc' (by omega)
      have e1 : ¬ c.toNat < d.toNat := by omega
      have e2 : (c.toNat == d.toNat) = false := by simp; omega
      have e3 : ¬ spell (a * 10 + (c.toNat - 48)) l < spell (a * 10 + (d.toNat - 48)) r := by omega
      simp [e1, e2, e3]

theorem nDigits_mono {u v : Nat} (h : u ≤ v) : nDigits u ≤ nDigits v := by
  induction v using Nat.strongRecOn generalizing u with
  | _ v ih =>
    by_cases hu : u < 10
    · rw [nDigits_small hu]; exact nDigits_pos v
    · rw [nDigits_big hu, nDigits_big (u := v) (by omega)]
      have := ih (v / 10) (by omega) (u := u / 10) (by omega)
      omega

/-- Of two numbers the lesser one's text is shorter, or as long and comes first. -/
theorem order_dec (u v : Nat) : decide (u < v) = (decide ((decDigits u).length < (decDigits v).length) || (((decDigits u).length == (decDigits v).length) && before (decDigits u) (decDigits v))) := by
  rcases Nat.lt_trichotomy (decDigits u).length (decDigits v).length with h | h | h
  · have hlt : u < v := by
      rcases Nat.lt_or_ge u v with h' | h'
      · exact h'
      · have := nDigits_mono h'
        rw [decDigits_length, decDigits_length] at h
        omega
    simp [h, hlt]
  · rw [before_spell _ _ 0 h (dec_digs u) (dec_digs v), spell_dec, spell_dec, h]
    simp
  · have hlt : ¬ u < v := by
      intro h'
      have := nDigits_mono (Nat.le_of_lt h')
      rw [decDigits_length, decDigits_length] at h
      omega
    have e1 : ¬ (decDigits u).length < (decDigits v).length := by omega
    have e2 : ((decDigits u).length == (decDigits v).length) = false := by simp; omega
    rw [decide_eq_false hlt, decide_eq_false e1, e2]
    rfl

/-! ### What the document's own reader takes -/

/-- Digits with no needless 0 ahead, below the end: the text of a number. -/
theorem read_plain {l : List UInt8} (hd : Digs l) (hne : l ≠ []) (hz : ∀ r, l = 48 :: r → r = []) (hv : spell 0 l < 9223372036854775808) : okOf l = true ∧ valOf l = (spell 0 l : Nat) := by
  have e : itoa ((spell 0 l : Nat) : Int) = l := by rw [itoa_nonneg, dec_spell _ l rfl hd hne hz]
  have a := ok_itoa ((spell 0 l : Nat) : Int) (by omega) (by omega)
  have b := val_itoa ((spell 0 l : Nat) : Int) (by omega) (by omega)
  rw [e] at a b
  exact ⟨a, b⟩

/-- .. and behind a minus. -/
theorem read_minus {l : List UInt8} (hd : Digs l) (hne : l ≠ []) (hz : ∀ r, l ≠ 48 :: r) (hv : spell 0 l ≤ 9223372036854775808) : okOf (45 :: l) = true ∧ valOf (45 :: l) = -((spell 0 l : Nat) : Int) := by
  have e := dec_spell _ l rfl hd hne (fun r h => absurd h (hz r))
  have hp : 1 ≤ spell 0 l := by
    rcases Nat.eq_zero_or_pos (spell 0 l) with h0 | h0
    · rw [h0, decDigits_one (by omega)] at e
      exact absurd e.symm (hz [])
    · exact h0
  have e2 : itoa (-((spell 0 l : Nat) : Int)) = 45 :: l := by rw [itoa_neg _ hp, e]
  have a := ok_itoa (-((spell 0 l : Nat) : Int)) (by omega) (by omega)
  have b := val_itoa (-((spell 0 l : Nat) : Int)) (by omega) (by omega)
  rw [e2] at a b
  exact ⟨a, b⟩

/-- What a text that is read looks like, if it begins with no minus. -/
theorem plain_read {l : List UInt8} (h : okOf l = true) (hm : ∀ r, l ≠ 45 :: r) : Digs l ∧ l ≠ [] ∧ l.length ≤ 19 ∧ (∀ r, l = 48 :: r → r = []) ∧ spell 0 l < 9223372036854775808 := by
  obtain ⟨e, a, b⟩ := ok_text h
  generalize valOf l = v at e a b
  by_cases hv : v < 0
  · obtain ⟨u, rfl⟩ : ∃ u : Nat, v = -(u : Int) := ⟨v.natAbs, by omega⟩
    rw [itoa_neg u (by omega)] at e
    exact absurd e.symm (hm _)
  · obtain ⟨u, rfl⟩ : ∃ u : Nat, v = u := ⟨v.toNat, by omega⟩
    rw [itoa_nonneg] at e
    subst e
    refine ⟨dec_digs u, dec_ne_nil u, ?_, fun r hr => (dec_head u r hr).2, by rw [spell_dec]; omega⟩
    rw [decDigits_length]
    have h19 : nDigits 9223372036854775807 = 19 := nDigits_unique 18 _ (by decide) (by decide)
    have := nDigits_mono (u := u) (v := 9223372036854775807) (by omega)
    omega

/-- .. and behind a minus. -/
theorem minus_read {l : List UInt8} (h : okOf (45 :: l) = true) : Digs l ∧ l ≠ [] ∧ l.length ≤ 19 ∧ (∀ r, l ≠ 48 :: r) ∧ spell 0 l ≤ 9223372036854775808 := by
  obtain ⟨e, a, b⟩ := ok_text h
  generalize valOf (45 :: l) = v at e a b
  by_cases hv : v < 0
  · obtain ⟨u, rfl⟩ : ∃ u : Nat, v = -(u : Int) := ⟨v.natAbs, by omega⟩
    rw [itoa_neg u (by omega)] at e
    simp only [List.cons.injEq, true_and] at e
    subst e
    refine ⟨dec_digs u, dec_ne_nil u, ?_, fun r hr => by have := (dec_head u r hr).1; omega, by rw [spell_dec]; omega⟩
    rw [decDigits_length]
    have h19 : nDigits 9223372036854775808 = 19 := nDigits_unique 18 _ (by decide) (by decide)
    have := nDigits_mono (u := u) (v := 9223372036854775808) (by omega)
    omega
  · obtain ⟨u, rfl⟩ : ∃ u : Nat, v = u := ⟨v.toNat, by omega⟩
    rw [itoa_nonneg] at e
    have := dec_digs u 45 (by rw [e]; simp)
    have e45 : (45 : UInt8).toNat = 45 := rfl
    omega

end Go.Proofs.YtpnbpjhoilibcaaDoor
