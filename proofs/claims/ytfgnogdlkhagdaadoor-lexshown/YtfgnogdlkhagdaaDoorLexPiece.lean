/-
  What package lex tells of what a text begins with: a remark's bytes, a word's bytes, its kind, what is wrong with it. Nothing that was in memory turns. Conditions: the text has at most 1000000 bytes; the library's variables stand as its text lays them.
-/
import Derived.Test.YtfgnogdlkhagdaaDoorLexSmall
namespace Go.Proofs.YtfgnogdlkhagdaaDoor
open Go.RowKit
open Go.Lib (decodeL)
set_option linter.unusedVariables false

/-- A text up to its first line's end. -/
def line1 (t : ByteArray) : ByteArray := ofL (t.data.toList.takeWhile fun b => b != 10)

set_option maxRecDepth 1000000 in
theorem cut10_any (t : ByteArray) (h : t.size ≤ 1000000) (w : World) :
    Calls Tryd.prog 136 #[.string t, .string ⟨#[10]⟩] w fun e w' => (∃ a b, e = .returned (.tuple #[.string (line1 t), .string a, .bool b])) ∧ Later w w' := by
  have ci := fun w' => index10_any t h w'
  have h1 := idx_none t.data.toList 10
  have h2 := idx_some t.data.toList 10
  have hge := Lib.indexByte_ge t.data.toList 10
  have hl : t.data.toList.length = t.size := size_len t
  have hline : line1 t = ofL (t.data.toList.takeWhile fun b => b != 10) := rfl
  generalize hi : Lib.indexByte t.data.toList 10 = i at *
  by_cases hn : 0 ≤ i
  · obtain ⟨n, rfl⟩ : ∃ n : Nat, i = n := ⟨i.toNat, by omega⟩
    obtain ⟨h3, h4⟩ := h2 hn
    rw [h3, Int.toNat_natCast, ← ext_head] at hline
    rw [Int.toNat_natCast, hl] at h4
    rw [hline]
    have q1 : (n : Int) ≤ (t.size : Int) := by omega
    have q2 : (n : Int) + 1 ≤ (t.size : Int) := by omega
    clear h1 h2 h3 hge hi hline hl
    go_enter Tryd.func136, Tryd.ntmps136
    go_wp2_with (go_at_call 151; refine (ci _).mono ?_; rintro e w2 ⟨rfl, hl2⟩)
    go_quiet (fail)
    go_wp2
    go_returns
    exact ⟨⟨_, _, rfl⟩, Later.drewN hl2 _⟩
  · have hm : i = -1 := by omega
    subst hm
    rw [h1 rfl, ofL_self] at hline
    rw [hline]
    clear h1 h2 hge hi hline hl
    go_enter Tryd.func136, Tryd.ntmps136
    go_wp2_with (go_at_call 151; refine (ci _).mono ?_; rintro e w2 ⟨rfl, hl2⟩)
    go_returns
    exact ⟨⟨_, _, rfl⟩, hl2⟩

theorem cutS_any (t : ByteArray) (h : t.size ≤ 1000000) (w : World) :
    Calls Tryd.prog 118 #[.string t, .string ⟨#[10]⟩] w fun e w' => (∃ a b, e = .returned (.tuple #[.string (line1 t), .string a, .bool b])) ∧ Later w w' := by
  go_enter Tryd.func118, Tryd.ntmps118
  go_wp2_with (go_at_call 136; refine (cut10_any t h _).mono ?_; rintro e w2 ⟨⟨a, b, rfl⟩, hl2⟩)
  go_returns
  exact ⟨⟨_, _, rfl⟩, hl2⟩

theorem remark_any (t : ByteArray) (h : t.size ≤ 1000000) (w : World) :
    Calls Tryd.prog 75 #[.string t] w fun e w' => e = .returned (.string (line1 t)) ∧ Later w w' := by
  go_enter Tryd.func75, Tryd.ntmps75
  go_wp2_with (go_at_call 118; refine (cutS_any t h _).mono ?_; rintro e w2 ⟨⟨a, b, rfl⟩, hl2⟩)
  go_ret
  exact ⟨rfl, hl2⟩

/-! ### A word, or a number -/

/-- The first rune, and all that go on with it. -/
def runT (t : ByteArray) : ByteArray := ofL ((mk1 t.data.toList).b ++ bytes ((marks (t.data.toList.drop (decodeL t.data.toList).2)).takeWhile wordy))

/-- Behind a place of a text. -/
theorem badAt_any (t : ByteArray) (pos : Nat) (h : pos < t.size) (w : World) (g : Good w) :
    Calls Tryd.prog 31 #[.int .i32 ((Utf8.decode t pos).1 : Nat), .string (t.extract pos t.size)] w fun e w' => e = .returned (.bool (badOf (Utf8.decode t pos).1 (Utf8.decode t pos).2)) ∧ Later w w' := by
  have hs : 0 < (t.extract pos t.size).size := by rw [ByteArray.size_extract]; omega
  have hb := bad_any (t.extract pos t.size) hs w g
  have hne : t.data.toList.drop pos ≠ [] := by
    have := ne_nil _ hs
    rwa [ext_tail] at this
  rw [ext_tail] at hb
  have e1 : (mk1 (t.data.toList.drop pos)).r = (Utf8.decode t pos).1 := by rw [← decodeL_drop]; rfl
  have e2 : (mk1 (t.data.toList.drop pos)).bad = badOf (Utf8.decode t pos).1 (Utf8.decode t pos).2 := by
    show badOf _ _ = _
    rw [mk1_len _ hne, decodeL_drop, e1]
  rw [e1, e2] at hb
  exact hb

theorem run_step (t : ByteArray) (pos : Nat) (h : pos < t.size) (hw : wordy ⟨(Utf8.decode t pos).1, (t.data.toList.drop pos).take (Utf8.decode t pos).2⟩ = true) :
    t.data.toList.take pos ++ bytes ((marks (t.data.toList.drop pos)).takeWhile wordy) = t.data.toList.take (pos + (Utf8.decode t pos).2) ++ bytes ((marks (t.data.toList.drop (pos + (Utf8.decode t pos).2))).takeWhile wordy) := by
  rw [marks_at t pos h, List.takeWhile_cons, hw, if_pos rfl, bytes_cons, List.take_add, List.append_assoc]

theorem run_stop (t : ByteArray) (pos : Nat) (h : pos < t.size) (hw : wordy ⟨(Utf8.decode t pos).1, (t.data.toList.drop pos).take (Utf8.decode t pos).2⟩ = false) :
    t.data.toList.take pos ++ bytes ((marks (t.data.toList.drop pos)).takeWhile wordy) = t.data.toList.take pos := by
  rw [marks_at t pos h, List.takeWhile_cons, hw]
  simp [bytes]

theorem run_start (t : ByteArray) (h : 0 < t.size) : runT t = ofL (t.data.toList.take (0 + (Utf8.decode t 0).2) ++ bytes ((marks (t.data.toList.drop (0 + (Utf8.decode t 0).2))).takeWhile wordy)) := by
  have e := decodeL_drop t 0
  rw [List.drop_zero] at e
  rw [Nat.zero_add, ← e]
  rfl

theorem wordy_eq (t : ByteArray) (pos : Nat) (h : pos < t.size) : wordy ⟨(Utf8.decode t pos).1, (t.data.toList.drop pos).take (Utf8.decode t pos).2⟩ = (!badOf (Utf8.decode t pos).1 (Utf8.decode t pos).2 && (letterF ((Utf8.decode t pos).1 : Nat) || digitF ((Utf8.decode t pos).1 : Nat))) := by
  unfold wordy Mk.bad
  rw [take_len t pos h]

set_option maxRecDepth 1000000 in
set_option maxHeartbeats 1000000 in
theorem run_any (t : ByteArray) (h0 : 0 < t.size) (hsz : t.size ≤ 1000000) (w : World) (g : Good w) :
    Calls Tryd.prog 77 #[.string t] w fun e w' => e = .returned (.string (runT t)) ∧ Later w w' := by
  go_enter Tryd.func77, Tryd.ntmps77
  go_wp2
  go_loopw [] (fun wr => ∃ (pos : Nat), wr.heap[w.heap.size]? = some (.stringIter t pos) ∧ Later w wr ∧ Hid (0 < pos → runT t = ofL (t.data.toList.take pos ++ bytes ((marks (t.data.toList.drop pos)).takeWhile wordy))) ∧ pos ≤ t.size) (fun wr => t.size - wr.iterPos w.heap.size)
  case atStart => exact ⟨0, World.iter_heap w t 0, Later.alloc (Later.refl _) _, (fun h => absurd h (by omega)), by omega⟩
  case round =>
    obtain ⟨pos, hit, hlw, HS, hp⟩ := hrel
    have hpos0 := iterPos_of hit
    by_cases hp : pos < t.size
    · have hnx : ∀ ty, (Instr.next (.pointer (some ⟨w.heap.size, 0, none⟩)) true ty).run Tryd.prog wr = _ := fun ty => Lib.run_next_any_at wr w.heap.size t pos ty hit hp
      have hd := decode_pos t pos hp
      have hit2 := Lib.iterAt_heap wr w.heap.size t pos (pos + (Utf8.decode t pos).2) hit
      have hlw2 : Later w _ := Lib.below_iterAt hlw (k := w.heap.size) (Nat.le_refl _) t (pos + (Utf8.decode t pos).2)
      obtain ⟨W1, hW1⟩ : ∃ W1, W1 = wr.iterAt w.heap.size t (pos + (Utf8.decode t pos).2) := ⟨_, rfl⟩
      rw [← hW1] at hnx hit2 hlw2
      have cb : ∀ w', Good w' → _ := fun w' (g' : Good w') => badAt_any t pos hp w' g'
      have go : ∀ {w'}, Later w w' → Good w' := fun h => g.later h
      by_cases hz : pos = 0
      · subst hz
        have HN : Hid (0 < 0 + (Utf8.decode t 0).2 → runT t = ofL (t.data.toList.take (0 + (Utf8.decode t 0).2) ++ bytes ((marks (t.data.toList.drop (0 + (Utf8.decode t 0).2))).takeWhile wordy))) := fun _ => run_start t hp
        clear HS cb hW1 hit hlw
        generalize (Utf8.decode t 0).1 = r at *
        generalize (Utf8.decode t 0).2 = k at *
        go_wp2
        go_roundw
        case rel => exact ⟨0 + k, hit2, hlw2, HN, by omega⟩
        case measure => rw [iterPos_of hit2, hpos0]; omega
      · have hpz : (0 : Int) < (pos : Int) := by omega
        have h0' : 0 < pos := by omega
        have hs := HS.out h0'
        have hwd := wordy_eq t pos hp
        have hst := run_step t pos hp
        have hsp := run_stop t pos hp
        rw [hwd] at hst hsp
        have cl := fun w' => letter_any ((Utf8.decode t pos).1 : Nat) w'
        have cd := fun w' => digit_any ((Utf8.decode t pos).1 : Nat) w'
        generalize letterF ((Utf8.decode t pos).1 : Nat) = le at *
        generalize digitF ((Utf8.decode t pos).1 : Nat) = di at *
        generalize badOf (Utf8.decode t pos).1 (Utf8.decode t pos).2 = bd at *
        generalize (Utf8.decode t pos).1 = r at *
        generalize (Utf8.decode t pos).2 = k at *
        have hpi : (pos : Int) ≤ (t.size : Int) := by omega
        cases hwy : (!bd && (le || di)) with
        | true =>
          have HN : Hid (0 < pos + k → runT t = ofL (t.data.toList.take (pos + k) ++ bytes ((marks (t.data.toList.drop (pos + k))).takeWhile wordy))) := fun _ => by rw [hs, hst hwy]
          clear HS hW1 hit hlw hs hst hsp hwd
          obtain rfl : bd = false := by cases bd <;> simp_all
          have hld : (le || di) = true := by simpa using hwy
          cases le with
          | true =>
            go_wp2_with (first
              | (go_at_call 76; refine (cl _).mono ?_; rintro e w2 ⟨rfl, hl2⟩; have L2 := Later.trans hlw2 hl2)
              | (go_at_call 31; refine (cb _ (go L2)).mono ?_; rintro e w3 ⟨rfl, hl3⟩; have L3 := Later.trans L2 hl3))
            have hit3 := (hl3.block _ (lt_of_block ((hl2.block _ (lt_of_block hit2)).trans hit2))).trans ((hl2.block _ (lt_of_block hit2)).trans hit2)
            go_roundw
            case rel => exact ⟨pos + k, hit3, L3, HN, by omega⟩
            case measure => rw [iterPos_of hit3, hpos0]; omega
          | false =>
            obtain rfl : di = true := by simpa using hld
            go_wp2_with (first
              | (go_at_call 76; refine (cl _).mono ?_; rintro e w2 ⟨rfl, hl2⟩; have L2 := Later.trans hlw2 hl2)
              | (go_at_call 78; refine (cd _).mono ?_; rintro e w4 ⟨rfl, hl4⟩; have L4 := Later.trans L2 hl4)
              | (go_at_call 31; refine (cb _ (go L4)).mono ?_; rintro e w3 ⟨rfl, hl3⟩; have L3 := Later.trans L4 hl3))
            have hit4 := (hl4.block _ (lt_of_block ((hl2.block _ (lt_of_block hit2)).trans hit2))).trans ((hl2.block _ (lt_of_block hit2)).trans hit2)
            have hit3 := (hl3.block _ (lt_of_block hit4)).trans hit4
            go_roundw
            case rel => exact ⟨pos + k, hit3, L3, HN, by omega⟩
            case measure => rw [iterPos_of hit3, hpos0]; omega
        | false =>
          have HE : Hid (runT t = t.extract 0 pos) := by
            show _ = _
            rw [hs, hsp hwy, ext_head]
          clear HS hW1 hit hlw hs hst hsp hwd
          cases le with
          | true =>
            obtain rfl : bd = true := by simpa using hwy
            go_wp2_with (first
              | (go_at_call 76; refine (cl _).mono ?_; rintro e w2 ⟨rfl, hl2⟩; have L2 := Later.trans hlw2 hl2)
              | (go_at_call 31; refine (cb _ (go L2)).mono ?_; rintro e w3 ⟨rfl, hl3⟩; have L3 := Later.trans L2 hl3))
            go_ret
            exact ⟨by simp only [HE.out]; rfl, L3⟩
          | false =>
            cases di with
            | true =>
              obtain rfl : bd = true := by simpa using hwy
              go_wp2_with (first
                | (go_at_call 76; refine (cl _).mono ?_; rintro e w2 ⟨rfl, hl2⟩; have L2 := Later.trans hlw2 hl2)
                | (go_at_call 78; refine (cd _).mono ?_; rintro e w4 ⟨rfl, hl4⟩; have L4 := Later.trans L2 hl4)
                | (go_at_call 31; refine (cb _ (go L4)).mono ?_; rintro e w3 ⟨rfl, hl3⟩; have L3 := Later.trans L4 hl3))
              go_ret
              exact ⟨by simp only [HE.out]; rfl, L3⟩
            | false =>
              go_wp2_with (first
                | (go_at_call 76; refine (cl _).mono ?_; rintro e w2 ⟨rfl, hl2⟩; have L2 := Later.trans hlw2 hl2)
                | (go_at_call 78; refine (cd _).mono ?_; rintro e w4 ⟨rfl, hl4⟩; have L4 := Later.trans L2 hl4))
              go_ret
              exact ⟨by simp only [HE.out]; rfl, L4⟩
    · have hnx : ∀ ty, (Instr.next (.pointer (some ⟨w.heap.size, 0, none⟩)) true ty).run Tryd.prog wr = _ := fun ty => Lib.run_next_end_at wr w.heap.size t pos ty hit hp
      have HE : Hid (runT t = t) := by
        show _ = _
        rw [HS.out (by omega), List.drop_of_length_le (by rw [size_len]; omega), List.take_of_length_le (by rw [size_len]; omega), marks_nil]
        simp [bytes, ofL_self]
      clear HS
      go_wp2
      go_ret
      exact ⟨by simp only [HE.out]; rfl, hlw⟩

end Go.Proofs.YtfgnogdlkhagdaaDoor
