/-
  The document's own writer, Text: for every number of 64 bits it returns the number's decimal text; new blocks at the most. Conditions: the bounds of 64 bits.
-/
import Derived.Test.YtpnbpjhoilibcaaDoorLater
import Derived.Test.YtpnbpjhoilibcaaDoorNumTxt
import Derived.Laws.IdiomStrings
namespace Go.Proofs.YtpnbpjhoilibcaaDoor
open Go.RowKit

/-- The last digit, as a byte. -/
def digit (u : Nat) : UInt8 := UInt8.ofNat (48 + u % 10)

/-- The digits that are still to come. -/
def ahead (u : Nat) : List UInt8 := if u = 0 then [] else Lib.decDigits u

theorem ahead_step (u : Nat) : Lib.decDigits u = ahead (u / 10) ++ [digit u] := by
  unfold ahead digit
  by_cases h : u < 10
  · rw [if_pos (by omega), Lib.decDigits_one h, show u % 10 = u by omega]
    rfl
  · rw [if_neg (by omega), dec_big h]

theorem ahead_pos {u : Nat} (h : u ≠ 0) : ahead u = Lib.decDigits u := by unfold ahead; rw [if_neg h]
theorem ahead_zero : ahead 0 = [] := by unfold ahead; rw [if_pos rfl]

/-- A text is empty. -/
def noneYet : Value → Nat | .string s => if s.size = 0 then 1 else 0 | _ => 0

/-- What stands between the rounds: nothing is written yet, or the digits that are still to come and those that are written are the text. -/
def Writes (u0 u : Nat) (s : ByteArray) : Prop := (s = ⟨#[]⟩ ∧ u = u0) ∨ (s.size ≠ 0 ∧ ahead u ++ s.data.toList = Lib.decDigits u0)

theorem byte_list (b : UInt8) (s : ByteArray) : ((⟨#[b]⟩ : ByteArray) ++ s).data.toList = b :: s.data.toList := by
  rw [ByteArray.data_append, Array.toList_append]
  rfl
theorem byte_size (b : UInt8) (s : ByteArray) : ((⟨#[b]⟩ : ByteArray) ++ s).size = 1 + s.size := ByteArray.size_append
theorem size_list (s : ByteArray) : s.data.toList.length = s.size := Array.length_toList

theorem Writes.step {u0 u : Nat} {s : ByteArray} (h : Writes u0 u s) (hc : u ≠ 0 ∨ s = ⟨#[]⟩) : Writes u0 (u / 10) ((⟨#[digit u]⟩ : ByteArray) ++ s) := by
  refine Or.inr ⟨by rw [byte_size]; omega, ?_⟩
  rw [byte_list]
  rcases h with ⟨rfl, rfl⟩ | ⟨hn, e⟩
  · exact (ahead_step u).symm
  · have hu : u ≠ 0 := by
      rcases hc with hc | rfl
      · exact hc
      · exact absurd rfl hn
    rw [ahead_pos hu, ahead_step u, List.append_assoc] at e
    exact e

theorem Writes.small {u0 u : Nat} {s : ByteArray} (h : Writes u0 u s) (hu : u0 < 18446744073709551616) : s.size ≤ 20 := by
  rcases h with ⟨rfl, _⟩ | ⟨_, e⟩
  · decide
  · have h1 := congrArg List.length e
    rw [List.length_append, Lib.decDigits_length, size_list] at h1
    have := Lib.nDigits_le20 u0 hu
    omega

theorem Writes.done {u0 : Nat} {s : ByteArray} (h : Writes u0 0 s) (hs : s ≠ ⟨#[]⟩) : s.data.toList = Lib.decDigits u0 := by
  rcases h with ⟨rfl, _⟩ | ⟨_, e⟩
  · exact absurd rfl hs
  · rw [ahead_zero] at e
    exact e

theorem conv_one (u : Nat) (wr : World) :
    Sem.run Tryd.prog (convert 48 9 (Value.slice (some { block := wr.heap.size, off := 0 }) 1 1)) (wr.alloc (Obj.cells #[Value.int IntKind.u8 (48 + (u : Int) % 10)] 5)) =
      .ok (.string ⟨#[digit u]⟩) (wr.alloc (Obj.cells #[Value.int IntKind.u8 (48 + (u : Int) % 10)] 5)) := by
  have h := run_convert_bytes_back (P := Tryd.prog) (wr.alloc (Obj.cells #[Value.int IntKind.u8 (48 + (u : Int) % 10)] 5)) 48 9 5 ⟨wr.heap.size, 0, none⟩ 1 [UInt8.ofNat (48 + u % 10)] Tryd.underlying48 Tryd.underlying5 Tryd.underlying9 (fun j hj => by
    have hj0 : j = 0 := by simpa using hj
    subst hj0
    have e : (UInt8.ofNat (48 + u % 10)).toNat = 48 + u % 10 := digit_toNat (Nat.mod_lt _ (by decide))
    simp only [List.getElem_cons_zero, e]
    rw [Lib.add_plain, World.cell?_alloc_new]
    simp)
  exact h

theorem noneYet_byte (b : UInt8) (s : ByteArray) : noneYet (.string ((⟨#[b]⟩ : ByteArray) ++ s)) = 0 := by
  unfold noneYet
  simp only [byte_size]
  rw [if_neg (by omega)]
theorem noneYet_nil : noneYet (.string ⟨#[]⟩) = 1 := rfl

theorem ret_str {a b : ByteArray} (h : a = b) : Ending.returned (.string a) = .returned (.string b) := by rw [h]

set_option maxHeartbeats 1000000 in
theorem refText_nonneg (u0 : Nat) (h1 : (u0 : Int) ≤ 9223372036854775807) (w : World) :
    Calls Tryd.prog 31 #[.int .i64 (u0 : Int)] w fun e w' => e = .returned (.string (txt u0)) ∧ Later w w' := by
  have hneg : ¬ (u0 : Int) < 0 := by omega
  go_enter Tryd.func31, Tryd.ntmps31
  go_wp2
  go_loopw [3, 4] (fun uv sv wr => ∃ (u : Nat) (s : ByteArray), uv = .int .u64 (u : Int) ∧ sv = .string s ∧ u ≤ u0 ∧ Later w wr ∧ Writes u0 u s) (fun uv sv _ => 2 * (intOf uv).toNat + noneYet sv)
  case atStart => exact ⟨u0, ⟨#[]⟩, rfl, rfl, Nat.le_refl _, Later.refl _, Or.inl ⟨rfl, rfl⟩⟩
  case round =>
    obtain ⟨u, s, rfl, rfl, hu, hl, hr⟩ := hrel
    have hs := hr.small (by omega)
    by_cases hz : u = 0
    · by_cases he : s = ⟨#[]⟩
      · have hst := hr.step (Or.inr he)
        have hcv : Sem.run Tryd.prog (convert 48 9 (Value.slice (some { block := wr.heap.size, off := 0 }) 1 1)) (wr.alloc (Obj.cells #[Value.int IntKind.u8 48] 5)) = .ok (.string ⟨#[digit 0]⟩) (wr.alloc (Obj.cells #[Value.int IntKind.u8 48] 5)) := conv_one 0 wr
        subst he
        subst hz
        go_wp2
        refine ⟨⟨0, _, rfl, rfl, Nat.zero_le _, hl.alloc _, hst⟩, ?_⟩
        rw [noneYet_byte, noneYet_nil]
        simp [intOf]
      · subst hz
        have hd := hr.done he
        have hne : (s.toList == ([] : List UInt8)) = false := by
          rw [ByteArray.toList_eq, hd]
          simpa using dec_ne_nil u0
        clear hr
        go_wp2
        go_ret
        exact ⟨ret_str (txt_eq (by rw [Lib.itoa_nonneg, hd])).symm, hl⟩
    · have hst := hr.step (Or.inl hz)
      have hcv := conv_one u wr
      have hz' : 0 < u := by omega
      go_wp2
      refine ⟨⟨u / 10, _, by go_num, rfl, by omega, hl.alloc _, hst⟩, ?_⟩
      rw [noneYet_byte]
      simp [intOf]
      omega

theorem turn_neg (u0 : Nat) (h1 : (u0 : Int) ≤ 9223372036854775808) : IntKind.u64.wrap (-IntKind.u64.wrap (-(u0 : Int))) = (u0 : Int) := by
  have e : ∀ n, IntKind.u64.wrap n = n % 18446744073709551616 := fun n => rfl
  rw [e, e]
  omega

set_option maxHeartbeats 1000000 in
theorem refText_neg (u0 : Nat) (h0 : 1 ≤ u0) (h1 : (u0 : Int) ≤ 9223372036854775808) (w : World) :
    Calls Tryd.prog 31 #[.int .i64 (-(u0 : Int))] w fun e w' => e = .returned (.string (txt (-(u0 : Int)))) ∧ Later w w' := by
  have hneg : -(u0 : Int) < 0 := by omega
  go_enter Tryd.func31, Tryd.ntmps31
  go_wp2
  go_loopw [3, 4] (fun uv sv wr => ∃ (u : Nat) (s : ByteArray), uv = .int .u64 (u : Int) ∧ sv = .string s ∧ u ≤ u0 ∧ Later w wr ∧ Writes u0 u s) (fun uv sv _ => 2 * (intOf uv).toNat + noneYet sv)
  case atStart => exact ⟨u0, ⟨#[]⟩, by rw [turn_neg u0 h1], rfl, Nat.le_refl _, Later.refl _, Or.inl ⟨rfl, rfl⟩⟩
  case round =>
    obtain ⟨u, s, rfl, rfl, hu, hl, hr⟩ := hrel
    have hs := hr.small (by omega)
    by_cases hz : u = 0
    · by_cases he : s = ⟨#[]⟩
      · have hst := hr.step (Or.inr he)
        have hcv : Sem.run Tryd.prog (convert 48 9 (Value.slice (some { block := wr.heap.size, off := 0 }) 1 1)) (wr.alloc (Obj.cells #[Value.int IntKind.u8 48] 5)) = .ok (.string ⟨#[digit 0]⟩) (wr.alloc (Obj.cells #[Value.int IntKind.u8 48] 5)) := conv_one 0 wr
        subst he
        subst hz
        go_wp2
        refine ⟨⟨0, _, rfl, rfl, Nat.zero_le _, hl.alloc _, hst⟩, ?_⟩
        rw [noneYet_byte, noneYet_nil]
        simp [intOf]
      · subst hz
        have hd := hr.done he
        have hne : (s.toList == ([] : List UInt8)) = false := by
          rw [ByteArray.toList_eq, hd]
          simpa using dec_ne_nil u0
        clear hr
        go_wp2
        go_ret
        exact ⟨ret_str (txt_eq (by rw [Lib.itoa_neg u0 h0, byte_list, hd])).symm, hl⟩
    · have hst := hr.step (Or.inl hz)
      have hcv := conv_one u wr
      have hz' : 0 < u := by omega
      go_wp2
      refine ⟨⟨u / 10, _, by go_num, rfl, by omega, hl.alloc _, hst⟩, ?_⟩
      rw [noneYet_byte]
      simp [intOf]
      omega

theorem refText_any (n : Int) (h0 : -9223372036854775808 ≤ n) (h1 : n ≤ 9223372036854775807) (w : World) :
    Calls Tryd.prog 31 #[.int .i64 n] w fun e w' => e = .returned (.string (txt n)) ∧ Later w w' := by
  by_cases h : n < 0
  · obtain ⟨u, rfl⟩ : ∃ u : Nat, n = -(u : Int) := ⟨n.natAbs, by omega⟩
    exact refText_neg u (by omega) (by omega) w
  · obtain ⟨u, rfl⟩ : ∃ u : Nat, n = u := ⟨n.toNat, by omega⟩
    exact refText_nonneg u h1 w

end Go.Proofs.YtpnbpjhoilibcaaDoor
