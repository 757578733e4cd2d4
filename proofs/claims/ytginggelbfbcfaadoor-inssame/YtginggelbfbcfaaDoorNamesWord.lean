/-
  What names.Reg, Op, OpText and Word return. Nothing that was in memory turns. Conditions: the tables stand as the program's text lays them.
-/
import Derived.Test.YtginggelbfbcfaaDoorNamesReg
import Derived.Deep.LoopGhost
namespace Go.Proofs.YtginggelbfbcfaaDoor
open Go.RowKit
set_option linter.unusedVariables false
set_option linter.unusedSimpArgs false

theorem regs_at (i : Nat) (h : i < 8) : ∃ t, regsT[i]? = some t ∧ ∀ w, (Instr.index 90 (.agg #[.string ⟨#[114, 97, 120]⟩, .string ⟨#[114, 98, 120]⟩, .string ⟨#[114, 99, 120]⟩, .string ⟨#[114, 100, 120]⟩, .string ⟨#[114, 115, 105]⟩, .string ⟨#[114, 100, 105]⟩, .string ⟨#[114, 56]⟩, .string ⟨#[114, 57]⟩]) (.int .i64 (i : Nat))).run Tryd.prog w = .ok (.string t) w := by
  match i, h with
  | 0, _ => exact ⟨_, rfl, fun _ => by kernel_rfl⟩
  | 1, _ => exact ⟨_, rfl, fun _ => by kernel_rfl⟩
  | 2, _ => exact ⟨_, rfl, fun _ => by kernel_rfl⟩
  | 3, _ => exact ⟨_, rfl, fun _ => by kernel_rfl⟩
  | 4, _ => exact ⟨_, rfl, fun _ => by kernel_rfl⟩
  | 5, _ => exact ⟨_, rfl, fun _ => by kernel_rfl⟩
  | 6, _ => exact ⟨_, rfl, fun _ => by kernel_rfl⟩
  | 7, _ => exact ⟨_, rfl, fun _ => by kernel_rfl⟩

theorem ops_at (i : Nat) (h : i < 15) : ∃ t, opsT[i]? = some t ∧ ∀ w, (Instr.index 91 (.agg #[.string ⟨#[]⟩, .string ⟨#[109, 111, 118]⟩, .string ⟨#[97, 100, 100]⟩, .string ⟨#[115, 117, 98]⟩, .string ⟨#[97, 110, 100]⟩, .string ⟨#[111, 114]⟩, .string ⟨#[120, 111, 114]⟩, .string ⟨#[99, 109, 112]⟩, .string ⟨#[120, 99, 104, 103]⟩, .string ⟨#[99, 109, 112, 120, 99, 104, 103]⟩, .string ⟨#[106, 109, 112]⟩, .string ⟨#[]⟩, .string ⟨#[109, 102, 101, 110, 99, 101]⟩, .string ⟨#[110, 111, 112]⟩, .string ⟨#[104, 108, 116]⟩]) (.int .i64 (i : Nat))).run Tryd.prog w = .ok (.string t) w := by
  match i, h with
  | 0, _ => exact ⟨_, rfl, fun _ => by kernel_rfl⟩
  | 1, _ => exact ⟨_, rfl, fun _ => by kernel_rfl⟩
  | 2, _ => exact ⟨_, rfl, fun _ => by kernel_rfl⟩
  | 3, _ => exact ⟨_, rfl, fun _ => by kernel_rfl⟩
  | 4, _ => exact ⟨_, rfl, fun _ => by kernel_rfl⟩
  | 5, _ => exact ⟨_, rfl, fun _ => by kernel_rfl⟩
  | 6, _ => exact ⟨_, rfl, fun _ => by kernel_rfl⟩
  | 7, _ => exact ⟨_, rfl, fun _ => by kernel_rfl⟩
  | 8, _ => exact ⟨_, rfl, fun _ => by kernel_rfl⟩
  | 9, _ => exact ⟨_, rfl, fun _ => by kernel_rfl⟩
  | 10, _ => exact ⟨_, rfl, fun _ => by kernel_rfl⟩
  | 11, _ => exact ⟨_, rfl, fun _ => by kernel_rfl⟩
  | 12, _ => exact ⟨_, rfl, fun _ => by kernel_rfl⟩
  | 13, _ => exact ⟨_, rfl, fun _ => by kernel_rfl⟩
  | 14, _ => exact ⟨_, rfl, fun _ => by kernel_rfl⟩

theorem jumps_at (i : Nat) (h : i < 11) : ∃ t, jumpsT[i]? = some t ∧ ∀ w, (Instr.index 92 (.agg #[.string ⟨#[]⟩, .string ⟨#[106, 101]⟩, .string ⟨#[106, 110, 101]⟩, .string ⟨#[106, 108]⟩, .string ⟨#[106, 108, 101]⟩, .string ⟨#[106, 103]⟩, .string ⟨#[106, 103, 101]⟩, .string ⟨#[106, 98]⟩, .string ⟨#[106, 98, 101]⟩, .string ⟨#[106, 97]⟩, .string ⟨#[106, 97, 101]⟩]) (.int .i64 (i : Nat))).run Tryd.prog w = .ok (.string t) w := by
  match i, h with
  | 0, _ => exact ⟨_, rfl, fun _ => by kernel_rfl⟩
  | 1, _ => exact ⟨_, rfl, fun _ => by kernel_rfl⟩
  | 2, _ => exact ⟨_, rfl, fun _ => by kernel_rfl⟩
  | 3, _ => exact ⟨_, rfl, fun _ => by kernel_rfl⟩
  | 4, _ => exact ⟨_, rfl, fun _ => by kernel_rfl⟩
  | 5, _ => exact ⟨_, rfl, fun _ => by kernel_rfl⟩
  | 6, _ => exact ⟨_, rfl, fun _ => by kernel_rfl⟩
  | 7, _ => exact ⟨_, rfl, fun _ => by kernel_rfl⟩
  | 8, _ => exact ⟨_, rfl, fun _ => by kernel_rfl⟩
  | 9, _ => exact ⟨_, rfl, fun _ => by kernel_rfl⟩
  | 10, _ => exact ⟨_, rfl, fun _ => by kernel_rfl⟩

set_option maxRecDepth 1000000 in
set_option maxHeartbeats 1000000 in
theorem reg_any (s : ByteArray) (w : World) (hR : Tab w 2 regsT) :
    Calls Tryd.prog 63 #[.string s] w fun e w' => e = .returned (.tuple #[.int .i64 (regF s).1, .bool (regF s).2]) ∧ Later w w' := by
  have r0 := hR 0 _ rfl
  have r1 := hR 1 _ rfl
  have r2 := hR 2 _ rfl
  have r3 := hR 3 _ rfl
  have r4 := hR 4 _ rfl
  have r5 := hR 5 _ rfl
  have r6 := hR 6 _ rfl
  have r7 := hR 7 _ rfl
  clear hR
  go_enter Tryd.func63, Tryd.ntmps63
  go_wp2
  go_loopw [7] (fun vi wr => ∃ (i : Nat), vi = .int .i64 (i : Nat) ∧ i ≤ 8 ∧ wr = w ∧ firstAt s (regsT.drop i) i = firstAt s regsT 0) (fun vi _ => 8 - (intOf vi).toNat)
  case atStart => exact ⟨0, rfl, by omega, rfl, rfl⟩
  case round =>
    obtain ⟨i, rfl, hi, rfl, hF⟩ := hrel
    by_cases h8 : i < 8
    · obtain ⟨t, ht, hix⟩ := regs_at i h8
      rw [first_drop s regsT i t ht] at hF
      clear ht
      by_cases he : (t.data.toList == s.data.toList) = true
      · have he' := same_true he
        have HE : Hid (regF s = ((i : Int), true)) := by
          show _ = _
          rw [if_pos he] at hF
          simp only [regF, ← hF]
          rw [if_pos (by omega)]
        clear hF he
        go_wp2
        go_returns
        exact ⟨by simp only [HE.out]; rfl, Later.refl _⟩
      · have he' := same_false he
        rw [if_neg he] at hF
        have HG : Hid (firstAt s (regsT.drop (i + 1)) (i + 1) = firstAt s regsT 0) := hF
        clear hF he
        go_wp2
        go_roundw
        case rel => exact ⟨i + 1, by go_num, by omega, trivial, HG.out⟩
        case measure => simp [intOf]; omega
    · obtain rfl : i = 8 := by omega
      have HE : Hid (regF s = (0, false)) := by
        show _ = _
        simp only [regF, ← hF]
        rfl
      clear hF
      go_wp2
      go_returns
      exact ⟨by simp only [HE.out]; rfl, Later.refl _⟩

set_option maxRecDepth 1000000 in
set_option maxHeartbeats 1000000 in
theorem op_any (s : ByteArray) (w : World) (hO : Tab w 3 opsT) (hJ : Tab w 4 jumpsT) :
    Calls Tryd.prog 64 #[.string s] w fun e w' => e = .returned (.tuple #[.int .i64 (opF s).1, .int .i64 (opF s).2.1, .bool (opF s).2.2]) ∧ Later w w' := by
  have o0 := hO 0 _ rfl
  have o1 := hO 1 _ rfl
  have o2 := hO 2 _ rfl
  have o3 := hO 3 _ rfl
  have o4 := hO 4 _ rfl
  have o5 := hO 5 _ rfl
  have o6 := hO 6 _ rfl
  have o7 := hO 7 _ rfl
  have o8 := hO 8 _ rfl
  have o9 := hO 9 _ rfl
  have o10 := hO 10 _ rfl
  have o11 := hO 11 _ rfl
  have o12 := hO 12 _ rfl
  have o13 := hO 13 _ rfl
  have o14 := hO 14 _ rfl
  have j0 := hJ 0 _ rfl
  have j1 := hJ 1 _ rfl
  have j2 := hJ 2 _ rfl
  have j3 := hJ 3 _ rfl
  have j4 := hJ 4 _ rfl
  have j5 := hJ 5 _ rfl
  have j6 := hJ 6 _ rfl
  have j7 := hJ 7 _ rfl
  have j8 := hJ 8 _ rfl
  have j9 := hJ 9 _ rfl
  have j10 := hJ 10 _ rfl
  clear hO hJ
  by_cases h0 : s.data.toList.isEmpty = true
  · have HE : Hid (opF s = (0, 0, false)) := by show _ = _; simp only [opF, h0, if_true]
    have h0' : s.toList.isEmpty = true := by rw [ByteArray.toList_eq]; exact h0
    have h0'' : s.toList = [] := List.isEmpty_iff.1 h0'
    clear h0
    go_enter Tryd.func64, Tryd.ntmps64
    go_wp2
    go_returns
    exact ⟨by simp only [HE.out]; rfl, Later.refl _⟩
  · have h0' : s.toList.isEmpty = false := by rw [ByteArray.toList_eq]; exact Bool.eq_false_iff.2 h0
    have h0'' : ¬ s.toList = [] := fun h => by rw [h] at h0'; cases h0'
    go_enter Tryd.func64, Tryd.ntmps64
    go_wp2
    go_loopw [12] (fun vi wr => ∃ (i : Nat), vi = .int .i64 (i : Nat) ∧ i ≤ 15 ∧ wr = w ∧ firstAt s (opsT.drop i) i = firstAt s opsT 0) (fun vi _ => 15 - (intOf vi).toNat)
    case atStart => exact ⟨0, rfl, by omega, rfl, rfl⟩
    case round =>
      obtain ⟨i, rfl, hi, rfl, hF⟩ := hrel
      by_cases h8 : i < 15
      · obtain ⟨t, ht, hix⟩ := ops_at i h8
        rw [first_drop s opsT i t ht] at hF
        clear ht
        by_cases he : (t.data.toList == s.data.toList) = true
        · have he' := same_true he
          have HE : Hid (opF s = ((i : Int), 0, true)) := by
            show _ = _
            rw [if_pos he] at hF
            simp only [opF, ← hF]
            rw [if_neg h0, if_pos (by omega)]
          clear hF he h0
          go_wp2
          go_returns
          exact ⟨by simp only [HE.out]; rfl, Later.refl _⟩
        · have he' := same_false he
          rw [if_neg he] at hF
          have HG : Hid (firstAt s (opsT.drop (i + 1)) (i + 1) = firstAt s opsT 0) := hF
          clear hF he h0
          go_wp2
          go_roundw
          case rel => exact ⟨i + 1, by go_num, by omega, trivial, HG.out⟩
          case measure => simp [intOf]; omega
      · obtain rfl : i = 15 := by omega
        have HO : Hid (firstAt s opsT 0 = -1) := by
          show _ = _
          rw [← hF]; rfl
        have H0 : Hid (¬ s.data.toList.isEmpty = true) := h0
        clear hF h0
        go_wp2
        go_loopw [22] (fun vi wr' => ∃ (i : Nat), vi = .int .i64 (i : Nat) ∧ i ≤ 11 ∧ wr' = wr ∧ firstAt s (jumpsT.drop i) i = firstAt s jumpsT 0) (fun vi _ => 11 - (intOf vi).toNat)
        case atStart => exact ⟨0, rfl, by omega, rfl, rfl⟩
        case round =>
          obtain ⟨i, rfl, hi, rfl, hF⟩ := hrel
          by_cases h8 : i < 11
          · obtain ⟨t, ht, hix⟩ := jumps_at i h8
            rw [first_drop s jumpsT i t ht] at hF
            clear ht
            by_cases he : (t.data.toList == s.data.toList) = true
            · have he' := same_true he
              have HE : Hid (opF s = (11, (i : Int), true)) := by
                show _ = _
                rw [if_pos he] at hF
                simp only [opF, ← hF, HO.out]
                rw [if_neg H0.out, if_neg (by omega), if_pos (by omega)]
              clear hF he
              go_wp2
              go_returns
              exact ⟨by simp only [HE.out]; rfl, Later.refl _⟩
            · have he' := same_false he
              rw [if_neg he] at hF
              have HG : Hid (firstAt s (jumpsT.drop (i + 1)) (i + 1) = firstAt s jumpsT 0) := hF
              clear hF he
              go_wp2
              go_roundw
              case rel => exact ⟨i + 1, by go_num, by omega, trivial, HG.out⟩
              case measure => simp [intOf]; omega
          · obtain rfl : i = 11 := by omega
            have HE : Hid (opF s = (0, 0, false)) := by
              show _ = _
              have e : firstAt s jumpsT 0 = -1 := by rw [← hF]; rfl
              simp only [opF, e, HO.out]
              rw [if_neg H0.out, if_neg (by omega), if_neg (by omega)]
            clear hF
            go_wp2
            go_returns
            exact ⟨by simp only [HE.out]; rfl, Later.refl _⟩

set_option maxRecDepth 1000000 in
set_option maxHeartbeats 1000000 in
theorem word_any (s : ByteArray) (w : World) (hR : Tab w 2 regsT) (hO : Tab w 3 opsT) (hJ : Tab w 4 jumpsT) :
    Calls Tryd.prog 50 #[.string s] w fun e w' => e = .returned (.bool (wordF s)) ∧ Later w w' := by
  have c9 := reg_any s w hR
  have c11 := fun w' (h : Later w w') => op_any s w' (hO.later h) (hJ.later h)
  clear hR hO hJ
  unfold wordF
  generalize regF s = R at *
  generalize opF s = O at *
  obtain ⟨r, k⟩ := R
  obtain ⟨o, c, m⟩ := O
  cases h1 : (s.data.toList == symT.data.toList) with
  | true =>
    have e1 : (s.toList == [115, 121, 109]) = true := by rw [ByteArray.toList_eq]; exact h1
    clear h1 c9 c11
    go_enter Tryd.func50, Tryd.ntmps50
    go_wp2
    go_ret
    exact ⟨by simp, Later.refl _⟩
  | false =>
    have e1 : (s.toList == [115, 121, 109]) = false := by rw [ByteArray.toList_eq]; exact h1
    clear h1
    cases h2 : (s.data.toList == threadT.data.toList) with
    | true =>
      have e2 : (s.toList == [116, 104, 114, 101, 97, 100]) = true := by rw [ByteArray.toList_eq]; exact h2
      clear h2 c9 c11
      go_enter Tryd.func50, Tryd.ntmps50
      go_wp2
      go_ret
      exact ⟨by simp, Later.refl _⟩
    | false =>
      have e2 : (s.toList == [116, 104, 114, 101, 97, 100]) = false := by rw [ByteArray.toList_eq]; exact h2
      clear h2
      cases h3 : (s.data.toList == lockT.data.toList) with
      | true =>
        have e3 : (s.toList == [108, 111, 99, 107]) = true := by rw [ByteArray.toList_eq]; exact h3
        clear h3 c9 c11
        go_enter Tryd.func50, Tryd.ntmps50
        go_wp2
        go_ret
        exact ⟨by simp, Later.refl _⟩
      | false =>
        have e3 : (s.toList == [108, 111, 99, 107]) = false := by rw [ByteArray.toList_eq]; exact h3
        clear h3
        cases k <;> cases m
        all_goals go_enter Tryd.func50, Tryd.ntmps50
        all_goals go_wp2_with (first
          | (go_at_call 63; refine c9.mono ?_; rintro e w1 ⟨rfl, hl1⟩)
          | (go_at_call 64; refine (c11 _ hl1).mono ?_; rintro e w2 ⟨rfl, hl2⟩; have L2 := Later.trans hl1 hl2))
        all_goals go_ret
        all_goals exact ⟨by simp, by assumption⟩

end Go.Proofs.YtginggelbfbcfaaDoor
