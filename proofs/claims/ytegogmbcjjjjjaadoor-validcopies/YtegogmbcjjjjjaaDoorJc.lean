/-
  What names.RegText returns, and opnd's look at a register. Nothing turns. Conditions: the table of the registers' words stands as the program's text lays it.
  What names.Reg, Op, OpText and Word return. Nothing that was in memory turns. Conditions: the tables stand as the program's text lays them.
  The library's ValidString, in this program's own numbers: one application of a contract that is proved once, over any program, in the library; the table of numbers says where its functions, types and variables stand here. Conditions: the two tables of the library's that it reads stand as its text lays them.
  What names.Right returns. Nothing that was in memory turns. Conditions: the text has at most 1000 bytes, and the listed tables stand as their texts lay them.
-/
import Derived.Test.YtegogmbcjjjjjaaDoorJa
import Derived.Deep.LoopGhost
import Derived.Shelf.Unicode.ValidAny
import Derived.Test.YtegogmbcjjjjjaaDoorProg
import Derived.Test.YtegogmbcjjjjjaaDoorJb
namespace Go.Proofs.YtegogmbcjjjjjaaDoor
open Go.RowKit
set_option linter.unusedVariables false

set_option maxRecDepth 1000000 in
set_option maxHeartbeats 1000000 in
theorem regText_any (r : Int) (w : World) (hT : Tab w 2 regsT) :
    Calls Tryd.prog 78 #[.int .i64 r] w fun e w' => e = .returned (.string (textAt regsT r)) ∧ w' = w := by
  by_cases h0 : r < 0
  · rw [show textAt regsT r = ⟨#[]⟩ by simp only [textAt]; rw [if_neg (by omega)]]
    go_enter Tryd.func78, Tryd.ntmps78
    go_wp2
    go_ret
    exact ⟨rfl, rfl⟩
  · by_cases h1 : 8 ≤ r
    · rw [show textAt regsT r = ⟨#[]⟩ by simp only [textAt]; rw [if_neg (by simp [regsT]; omega)]]
      go_enter Tryd.func78, Tryd.ntmps78
      go_wp2
      go_ret
      exact ⟨rfl, rfl⟩
    · obtain ⟨k, rfl⟩ : ∃ k : Nat, r = (k : Nat) := ⟨r.toNat, by omega⟩
      have hk : k < regsT.length := by simp [regsT]; omega
      have hc := hT k _ (List.getElem?_eq_getElem hk)
      have e : textAt regsT (k : Int) = regsT[k] := by
        simp only [textAt]
        rw [if_pos (by omega)]
        simp [hk]
      rw [e]
      generalize regsT[k] = t at *
      clear e hT
      have hk' : (k : Int) < 8 := by omega
      go_enter Tryd.func78, Tryd.ntmps78
      go_wp2
      go_ret
      exact ⟨rfl, rfl⟩

/-- A register's word is not empty; of what is none it is. -/
theorem regText_no (r : Int) : ((textAt regsT r).toList.isEmpty = false) ↔ 0 ≤ r ∧ r ≤ 7 := by
  rw [ByteArray.toList_eq]
  by_cases h : 0 ≤ r ∧ r ≤ 7
  · simp only [h, and_self, iff_true]
    obtain ⟨k, rfl⟩ : ∃ k : Nat, r = (k : Nat) := ⟨r.toNat, by omega⟩
    match k, h with
    | 0, _ => rfl
    | 1, _ => rfl
    | 2, _ => rfl
    | 3, _ => rfl
    | 4, _ => rfl
    | 5, _ => rfl
    | 6, _ => rfl
    | 7, _ => rfl
    | n + 8, h => omega
  · simp only [h, iff_false, Bool.not_eq_false]
    rw [show textAt regsT r = ⟨#[]⟩ by simp only [textAt]; rw [if_neg (by simp [regsT]; omega)]]
    rfl

end Go.Proofs.YtegogmbcjjjjjaaDoor

namespace Go.Proofs.YtegogmbcjjjjjaaDoor
open Go.RowKit
set_option linter.unusedVariables false
set_option linter.unusedSimpArgs false

theorem regs_at (i : Nat) (h : i < 8) : ∃ t, regsT[i]? = some t ∧ ∀ w, (Instr.index 104 (.agg #[.string ⟨#[114, 97, 120]⟩, .string ⟨#[114, 98, 120]⟩, .string ⟨#[114, 99, 120]⟩, .string ⟨#[114, 100, 120]⟩, .string ⟨#[114, 115, 105]⟩, .string ⟨#[114, 100, 105]⟩, .string ⟨#[114, 56]⟩, .string ⟨#[114, 57]⟩]) (.int .i64 (i : Nat))).run Tryd.prog w = .ok (.string t) w := by
  match i, h with
  | 0, _ => exact ⟨_, rfl, fun _ => by kernel_rfl⟩
  | 1, _ => exact ⟨_, rfl, fun _ => by kernel_rfl⟩
  | 2, _ => exact ⟨_, rfl, fun _ => by kernel_rfl⟩
  | 3, _ => exact ⟨_, rfl, fun _ => by kernel_rfl⟩
  | 4, _ => exact ⟨_, rfl, fun _ => by kernel_rfl⟩
  | 5, _ => exact ⟨_, rfl, fun _ => by kernel_rfl⟩
  | 6, _ => exact ⟨_, rfl, fun _ => by kernel_rfl⟩
  | 7, _ => exact ⟨_, rfl, fun _ => by kernel_rfl⟩

theorem ops_at (i : Nat) (h : i < 15) : ∃ t, opsT[i]? = some t ∧ ∀ w, (Instr.index 105 (.agg #[.string ⟨#[]⟩, .string ⟨#[109, 111, 118]⟩, .string ⟨#[97, 100, 100]⟩, .string ⟨#[115, 117, 98]⟩, .string ⟨#[97, 110, 100]⟩, .string ⟨#[111, 114]⟩, .string ⟨#[120, 111, 114]⟩, .string ⟨#[99, 109, 112]⟩, .string ⟨#[120, 99, 104, 103]⟩, .string ⟨#[99, 109, 112, 120, 99, 104, 103]⟩, .string ⟨#[106, 109, 112]⟩, .string ⟨#[]⟩, .string ⟨#[109, 102, 101, 110, 99, 101]⟩, .string ⟨#[110, 111, 112]⟩, .string ⟨#[104, 108, 116]⟩]) (.int .i64 (i : Nat))).run Tryd.prog w = .ok (.string t) w := by
  match i, h with
  | 0, _ => exact ⟨_, rfl, fun _ => by kernel_rfl⟩
  | 1, _ => exact ⟨_, rfl, fun _ => by kernel_rfl⟩
  | 2, _ => exact ⟨_, rfl, fun _ => by kernel_rfl⟩
  | 3, _ => exact ⟨_, rfl, fun _ => by kernel_rfl⟩
  | 4, _ => exact ⟨_, rfl, fun _ => by kernel_rfl⟩
  | 5, _ => exact ⟨_, rfl, fun _ => by kernel_rfl⟩
  | 6, _ => exact ⟨_, rfl, fun _ => by kernel_rfl⟩
  | 7, _ => exact ⟨_, rfl, fun _ => by kernel_rfl⟩
  | 8, _ => exact ⟨_, rfl, fun _ => by kernel_rfl⟩
  | 9, _ => exact ⟨_, rfl, fun _ => by kernel_rfl⟩
  | 10, _ => exact ⟨_, rfl, fun _ => by kernel_rfl⟩
  | 11, _ => exact ⟨_, rfl, fun _ => by kernel_rfl⟩
  | 12, _ => exact ⟨_, rfl, fun _ => by kernel_rfl⟩
  | 13, _ => exact ⟨_, rfl, fun _ => by kernel_rfl⟩
  | 14, _ => exact ⟨_, rfl, fun _ => by kernel_rfl⟩

theorem jumps_at (i : Nat) (h : i < 11) : ∃ t, jumpsT[i]? = some t ∧ ∀ w, (Instr.index 106 (.agg #[.string ⟨#[]⟩, .string ⟨#[106, 101]⟩, .string ⟨#[106, 110, 101]⟩, .string ⟨#[106, 108]⟩, .string ⟨#[106, 108, 101]⟩, .string ⟨#[106, 103]⟩, .string ⟨#[106, 103, 101]⟩, .string ⟨#[106, 98]⟩, .string ⟨#[106, 98, 101]⟩, .string ⟨#[106, 97]⟩, .string ⟨#[106, 97, 101]⟩]) (.int .i64 (i : Nat))).run Tryd.prog w = .ok (.string t) w := by
  match i, h with
  | 0, _ => exact ⟨_, rfl, fun _ => by kernel_rfl⟩
  | 1, _ => exact ⟨_, rfl, fun _ => by kernel_rfl⟩
  | 2, _ => exact ⟨_, rfl, fun _ => by kernel_rfl⟩
  | 3, _ => exact ⟨_, rfl, fun _ => by kernel_rfl⟩
  | 4, _ => exact ⟨_, rfl, fun _ => by kernel_rfl⟩
  | 5, _ => exact ⟨_, rfl, fun _ => by kernel_rfl⟩
  | 6, _ => exact ⟨_, rfl, fun _ => by kernel_rfl⟩
  | 7, _ => exact ⟨_, rfl, fun _ => by kernel_rfl⟩
  | 8, _ => exact ⟨_, rfl, fun _ => by kernel_rfl⟩
  | 9, _ => exact ⟨_, rfl, fun _ => by kernel_rfl⟩
  | 10, _ => exact ⟨_, rfl, fun _ => by kernel_rfl⟩

set_option maxRecDepth 1000000 in
set_option maxHeartbeats 1000000 in
theorem reg_any (s : ByteArray) (w : World) (hR : Tab w 2 regsT) :
    Calls Tryd.prog 62 #[.string s] w fun e w' => e = .returned (.tuple #[.int .i64 (regF s).1, .bool (regF s).2]) ∧ Later w w' := by
  have r0 := hR 0 _ rfl
  have r1 := hR 1 _ rfl
  have r2 := hR 2 _ rfl
  have r3 := hR 3 _ rfl
  have r4 := hR 4 _ rfl
  have r5 := hR 5 _ rfl
  have r6 := hR 6 _ rfl
  have r7 := hR 7 _ rfl
  clear hR
  go_enter Tryd.func62, Tryd.ntmps62
  go_wp2
  go_loopw [7] (fun vi wr => ∃ (i : Nat), vi = .int .i64 (i : Nat) ∧ i ≤ 8 ∧ wr = w ∧ firstAt s (regsT.drop i) i = firstAt s regsT 0) (fun vi _ => 8 - (intOf vi).toNat)
  case atStart => exact ⟨0, rfl, by omega, rfl, rfl⟩
  case round =>
    obtain ⟨i, rfl, hi, rfl, hF⟩ := hrel
    by_cases h8 : i < 8
    · obtain ⟨t, ht, hix⟩ := regs_at i h8
      rw [first_drop s regsT i t ht] at hF
      clear ht
      by_cases he : (t.data.toList == s.data.toList) = true
      · have he' := same_true he
        have HE : Hid (regF s = ((i : Int), true)) := by
          show _ = _
          rw [if_pos he] at hF
          simp only [regF, ← hF]
          rw [if_pos (by omega)]
        clear hF he
        go_wp2
        go_returns
        exact ⟨by simp only [HE.out]; rfl, Later.refl _⟩
      · have he' := same_false he
        rw [if_neg he] at hF
        have HG : Hid (firstAt s (regsT.drop (i + 1)) (i + 1) = firstAt s regsT 0) := hF
        clear hF he
        go_wp2
        go_roundw
        case rel => exact ⟨i + 1, by go_num, by omega, trivial, HG.out⟩
        case measure => simp [intOf]; omega
    · obtain rfl : i = 8 := by omega
      have HE : Hid (regF s = (0, false)) := by
        show _ = _
        simp only [regF, ← hF]
        rfl
      clear hF
      go_wp2
      go_returns
      exact ⟨by simp only [HE.out]; rfl, Later.refl _⟩

set_option maxRecDepth 1000000 in
set_option maxHeartbeats 1000000 in
theorem op_any (s : ByteArray) (w : World) (hO : Tab w 3 opsT) (hJ : Tab w 4 jumpsT) :
    Calls Tryd.prog 63 #[.string s] w fun e w' => e = .returned (.tuple #[.int .i64 (opF s).1, .int .i64 (opF s).2.1, .bool (opF s).2.2]) ∧ Later w w' := by
  have o0 := hO 0 _ rfl
  have o1 := hO 1 _ rfl
  have o2 := hO 2 _ rfl
  have o3 := hO 3 _ rfl
  have o4 := hO 4 _ rfl
  have o5 := hO 5 _ rfl
  have o6 := hO 6 _ rfl
  have o7 := hO 7 _ rfl
  have o8 := hO 8 _ rfl
  have o9 := hO 9 _ rfl
  have o10 := hO 10 _ rfl
  have o11 := hO 11 _ rfl
  have o12 := hO 12 _ rfl
  have o13 := hO 13 _ rfl
  have o14 := hO 14 _ rfl
  have j0 := hJ 0 _ rfl
  have j1 := hJ 1 _ rfl
  have j2 := hJ 2 _ rfl
  have j3 := hJ 3 _ rfl
  have j4 := hJ 4 _ rfl
  have j5 := hJ 5 _ rfl
  have j6 := hJ 6 _ rfl
  have j7 := hJ 7 _ rfl
  have j8 := hJ 8 _ rfl
  have j9 := hJ 9 _ rfl
  have j10 := hJ 10 _ rfl
  clear hO hJ
  by_cases h0 : s.data.toList.isEmpty = true
  · have HE : Hid (opF s = (0, 0, false)) := by show _ = _; simp only [opF, h0, if_true]
    have h0' : s.toList.isEmpty = true := by rw [ByteArray.toList_eq]; exact h0
    have h0'' : s.toList = [] := List.isEmpty_iff.1 h0'
    clear h0
    go_enter Tryd.func63, Tryd.ntmps63
    go_wp2
    go_returns
    exact ⟨by simp only [HE.out]; rfl, Later.refl _⟩
  · have h0' : s.toList.isEmpty = false := by rw [ByteArray.toList_eq]; exact Bool.eq_false_iff.2 h0
    have h0'' : ¬ s.toList = [] := fun h => by rw [h] at h0'; cases h0'
    go_enter Tryd.func63, Tryd.ntmps63
    go_wp2
    go_loopw [12] (fun vi wr => ∃ (i : Nat), vi = .int .i64 (i : Nat) ∧ i ≤ 15 ∧ wr = w ∧ firstAt s (opsT.drop i) i = firstAt s opsT 0) (fun vi _ => 15 - (intOf vi).toNat)
    case atStart => exact ⟨0, rfl, by omega, rfl, rfl⟩
    case round =>
      obtain ⟨i, rfl, hi, rfl, hF⟩ := hrel
      by_cases h8 : i < 15
      · obtain ⟨t, ht, hix⟩ := ops_at i h8
        rw [first_drop s opsT i t ht] at hF
        clear ht
        by_cases he : (t.data.toList == s.data.toList) = true
        · have he' := same_true he
          have HE : Hid (opF s = ((i : Int), 0, true)) := by
            show _ = _
            rw [if_pos he] at hF
            simp only [opF, ← hF]
            rw [if_neg h0, if_pos (by omega)]
          clear hF he h0
          go_wp2
          go_returns
          exact ⟨by simp only [HE.out]; rfl, Later.refl _⟩
        · have he' := same_false he
          rw [if_neg he] at hF
          have HG : Hid (firstAt s (opsT.drop (i + 1)) (i + 1) = firstAt s opsT 0) := hF
          clear hF he h0
          go_wp2
          go_roundw
          case rel => exact ⟨i + 1, by go_num, by omega, trivial, HG.out⟩
          case measure => simp [intOf]; omega
      · obtain rfl : i = 15 := by omega
        have HO : Hid (firstAt s opsT 0 = -1) := by
          show _ = _
          rw [← hF]; rfl
        have H0 : Hid (¬ s.data.toList.isEmpty = true) := h0
        clear hF h0
        go_wp2
        go_loopw [22] (fun vi wr' => ∃ (i : Nat), vi = .int .i64 (i : Nat) ∧ i ≤ 11 ∧ wr' = wr ∧ firstAt s (jumpsT.drop i) i = firstAt s jumpsT 0) (fun vi _ => 11 - (intOf vi).toNat)
        case atStart => exact ⟨0, rfl, by omega, rfl, rfl⟩
        case round =>
          obtain ⟨i, rfl, hi, rfl, hF⟩ := hrel
          by_cases h8 : i < 11
          · obtain ⟨t, ht, hix⟩ := jumps_at i h8
            rw [first_drop s jumpsT i t ht] at hF
            clear ht
            by_cases he : (t.data.toList == s.data.toList) = true
            · have he' := same_true he
              have HE : Hid (opF s = (11, (i : Int), true)) := by
                show _ = _
                rw [if_pos he] at hF
                simp only [opF, ← hF, HO.out]
                rw [if_neg H0.out, if_neg (by omega), if_pos (by omega)]
              clear hF he
              go_wp2
              go_returns
              exact ⟨by simp only [HE.out]; rfl, Later.refl _⟩
            · have he' := same_false he
              rw [if_neg he] at hF
              have HG : Hid (firstAt s (jumpsT.drop (i + 1)) (i + 1) = firstAt s jumpsT 0) := hF
              clear hF he
              go_wp2
              go_roundw
              case rel => exact ⟨i + 1, by go_num, by omega, trivial, HG.out⟩
              case measure => simp [intOf]; omega
          · obtain rfl : i = 11 := by omega
            have HE : Hid (opF s = (0, 0, false)) := by
              show _ = _
              have e : firstAt s jumpsT 0 = -1 := by rw [← hF]; rfl
              simp only [opF, e, HO.out]
              rw [if_neg H0.out, if_neg (by omega), if_neg (by omega)]
            clear hF
            go_wp2
            go_returns
            exact ⟨by simp only [HE.out]; rfl, Later.refl _⟩

set_option maxRecDepth 1000000 in
set_option maxHeartbeats 1000000 in
theorem word_any (s : ByteArray) (w : World) (hR : Tab w 2 regsT) (hO : Tab w 3 opsT) (hJ : Tab w 4 jumpsT) :
    Calls Tryd.prog 55 #[.string s] w fun e w' => e = .returned (.bool (wordF s)) ∧ Later w w' := by
  have c9 := reg_any s w hR
  have c11 := fun w' (h : Later w w') => op_any s w' (hO.later h) (hJ.later h)
  clear hR hO hJ
  unfold wordF
  generalize regF s = R at *
  generalize opF s = O at *
  obtain ⟨r, k⟩ := R
  obtain ⟨o, c, m⟩ := O
  cases h1 : (s.data.toList == symT.data.toList) with
  | true =>
    have e1 : (s.toList == [115, 121, 109]) = true := by rw [ByteArray.toList_eq]; exact h1
    clear h1 c9 c11
    go_enter Tryd.func55, Tryd.ntmps55
    go_wp2
    go_ret
    exact ⟨by simp, Later.refl _⟩
  | false =>
    have e1 : (s.toList == [115, 121, 109]) = false := by rw [ByteArray.toList_eq]; exact h1
    clear h1
    cases h2 : (s.data.toList == threadT.data.toList) with
    | true =>
      have e2 : (s.toList == [116, 104, 114, 101, 97, 100]) = true := by rw [ByteArray.toList_eq]; exact h2
      clear h2 c9 c11
      go_enter Tryd.func55, Tryd.ntmps55
      go_wp2
      go_ret
      exact ⟨by simp, Later.refl _⟩
    | false =>
      have e2 : (s.toList == [116, 104, 114, 101, 97, 100]) = false := by rw [ByteArray.toList_eq]; exact h2
      clear h2
      cases h3 : (s.data.toList == lockT.data.toList) with
      | true =>
        have e3 : (s.toList == [108, 111, 99, 107]) = true := by rw [ByteArray.toList_eq]; exact h3
        clear h3 c9 c11
        go_enter Tryd.func55, Tryd.ntmps55
        go_wp2
        go_ret
        exact ⟨by simp, Later.refl _⟩
      | false =>
        have e3 : (s.toList == [108, 111, 99, 107]) = false := by rw [ByteArray.toList_eq]; exact h3
        clear h3
        cases k <;> cases m
        all_goals go_enter Tryd.func55, Tryd.ntmps55
        all_goals go_wp2_with (first
          | (go_at_call 62; refine c9.mono ?_; rintro e w1 ⟨rfl, hl1⟩)
          | (go_at_call 63; refine (c11 _ hl1).mono ?_; rintro e w2 ⟨rfl, hl2⟩; have L2 := Later.trans hl1 hl2))
        all_goals go_ret
        all_goals exact ⟨by simp, by assumption⟩

end Go.Proofs.YtegogmbcjjjjjaaDoor

namespace Go.Proofs.YtegogmbcjjjjjaaDoor
open Go.Shelf
def Tryd.laysValid_ren : Go.Shelf.Ren := ⟨fun | 196 => 54 | 259 => 61 | n => n, fun | 9 => 9 | 4 => 4 | 3 => 3 | 5 => 5 | 12 => 12 | 119 => 92 | 0 => 0 | 46 => 96 | 139 => 95 | 138 => 94 | 53 => 103 | n => n, fun | 3 => 0 | 4 => 1 | n => n⟩
theorem Tryd.laysValid : Go.Proofs.Lays.n196 Tryd.prog Tryd.laysValid_ren := {
  mixed := by kernel_rfl
  f196 := Tryd.func54.trans (congrArg some (by kernel_rfl))
  f259 := Tryd.func61.trans (congrArg some (by kernel_rfl))
  t0 := Tryd.underlying0
  a0 := Tryd.isAgg0
  z0 := Tryd.sizeOf0
  v0 := Tryd.zeroValue0
  t3 := Tryd.underlying3
  a3 := Tryd.isAgg3
  z3 := Tryd.sizeOf3
  v3 := Tryd.zeroValue3
  t4 := Tryd.underlying4
  a4 := Tryd.isAgg4
  z4 := Tryd.sizeOf4
  v4 := Tryd.zeroValue4
  t5 := Tryd.underlying5
  a5 := Tryd.isAgg5
  z5 := Tryd.sizeOf5
  v5 := Tryd.zeroValue5
  t9 := Tryd.underlying9
  a9 := Tryd.isAgg9
  z9 := Tryd.sizeOf9
  v9 := Tryd.zeroValue9
  t12 := Tryd.underlying12
  a12 := Tryd.isAgg12
  z12 := Tryd.sizeOf12
  v12 := Tryd.zeroValue12
  t46 := Tryd.underlying96
  a46 := Tryd.isAgg96
  z46 := Tryd.sizeOf96
  v46 := Tryd.zeroValue96
  t53 := Tryd.underlying103
  a53 := Tryd.isAgg103
  z53 := Tryd.sizeOf103
  v53 := Tryd.zeroValue103
  t119 := Tryd.underlying92
  a119 := Tryd.isAgg92
  z119 := Tryd.sizeOf92
  t138 := Tryd.underlying94
  a138 := Tryd.isAgg94
  z138 := Tryd.sizeOf94
  v138 := Tryd.zeroValue94
  t139 := Tryd.underlying95
  a139 := Tryd.isAgg95
  z139 := Tryd.sizeOf95
  v139 := Tryd.zeroValue95
  g3 := by kernel_rfl
  g4 := by kernel_rfl }
open Go.RowKit Go.Lib in
/-- What the library's ValidString returns. -/
theorem Tryd.utf8_ValidString (s : ByteArray) (w : World) (hs : s.size ≤ 9223372036854775807) (hT : Lib.Utf8Tabs 0 1 w) :
    Calls Tryd.prog 54 #[.string s] w fun e w' => e = .returned (.bool (Lib.validD s.data.toList)) ∧ Below w.heap.size w w' := Any.utf8_ValidString Tryd.laysValid s w hs hT
end Go.Proofs.YtegogmbcjjjjjaaDoor

namespace Go.Proofs.YtegogmbcjjjjjaaDoor
open Go.RowKit
set_option linter.unusedVariables false
set_option linter.unusedSimpArgs false

/-- The library's two tables and the program's three, as their texts lay them. -/
structure NamesGood (w : World) : Prop where
  utf : Lib.Utf8Tabs 0 1 w
  regs : Tab w 2 regsT
  ops : Tab w 3 opsT
  jumps : Tab w 4 jumpsT

theorem NamesGood.later {w w' : World} (g : NamesGood w) (h : Later w w') : NamesGood w' :=
  ⟨⟨fun c hc => cell_later (g.utf.1 c hc) h, fun i hi => ⟨cell_later (g.utf.2 i hi).1 h, cell_later (g.utf.2 i hi).2 h⟩⟩, g.regs.later h, g.ops.later h, g.jumps.later h⟩

theorem may_any (r : Int) (first : Bool) (w : World) :
    Calls Tryd.prog 60 #[.int .i32 r, .bool first] w fun e w' => e = .returned (.bool (standF r first)) ∧ Later w w' := by
  have c35 := fun w' => letter_any r w'
  have c36 := fun w' => digit_any r w'
  unfold standF
  generalize letterF r = a at *
  generalize digitF r = b at *
  cases a <;> cases first
  all_goals go_enter Tryd.func60, Tryd.ntmps60
  all_goals go_wp2_with (first
    | (go_at_call 66; refine (c35 _).mono ?_; rintro e w1 ⟨rfl, hl1⟩)
    | (go_at_call 67; refine (c36 _).mono ?_; rintro e w2 ⟨rfl, hl2⟩; have L2 := Later.trans hl1 hl2))
  all_goals go_ret
  all_goals exact ⟨rfl, by assumption⟩

set_option maxRecDepth 1000000 in
set_option maxHeartbeats 1000000 in
theorem shaped_any (s : ByteArray) (hsz : s.size ≤ 1000) (w : World) :
    Calls Tryd.prog 53 #[.string s] w fun e w' => e = .returned (.bool (shapedGo (spots s) 0)) ∧ Later w w' := by
  go_enter Tryd.func53, Tryd.ntmps53
  go_wp2
  go_loopw [3] (fun vn wr => ∃ (pos fuel l c n : Nat), vn = .int .i64 (n : Nat) ∧ wr.heap[w.heap.size]? = some (.stringIter s pos) ∧ Later w wr ∧ Hid (shapedGo (spotsFrom s fuel pos l c) n = shapedGo (spots s) 0) ∧ s.size ≤ pos + fuel ∧ pos ≤ s.size ∧ n ≤ 16) (fun _ wr => s.size - wr.iterPos w.heap.size)
  case atStart => exact ⟨0, s.size, 1, 1, 0, rfl, World.iter_heap w s 0, Later.alloc (Later.refl _) _, rfl, by omega, by omega, by omega⟩
  case round =>
    obtain ⟨pos, fuel, l, c, n, rfl, hit, hlw, HS, hf, hp, hn⟩ := hrel
    have hpos0 := iterPos_of hit
    by_cases hp : pos < s.size
    · have hnx : ∀ ty, (Instr.next (.pointer (some ⟨w.heap.size, 0, none⟩)) true ty).run Tryd.prog wr = _ := fun ty => Lib.run_next_any_at wr w.heap.size s pos ty hit hp
      have hd := decode_pos s pos hp
      have hit2 := Lib.iterAt_heap wr w.heap.size s pos (pos + (Utf8.decode s pos).2) hit
      have hlw2 : Later w _ := Lib.below_iterAt hlw (k := w.heap.size) (Nat.le_refl _) s (pos + (Utf8.decode s pos).2)
      obtain ⟨W1, hW1⟩ : ∃ W1, W1 = wr.iterAt w.heap.size s (pos + (Utf8.decode s pos).2) := ⟨_, rfl⟩
      rw [← hW1] at hnx hit2 hlw2
      obtain ⟨fuel, rfl⟩ : ∃ f', fuel = f' + 1 := ⟨fuel - 1, by omega⟩
      have HS2 : Hid ((if 16 < n + 1 then false else if standF ((Utf8.decode s pos).1 : Nat) ((pos : Int) == 0) = true then shapedGo (spotsFrom s fuel (pos + (Utf8.decode s pos).2) (nl l (Utf8.decode s pos).1) (nc c (Utf8.decode s pos).1)) (n + 1) else false) = shapedGo (spots s) 0) := by
        show _ = _
        rw [← HS.out, spots_more s fuel pos l c hp]
        rfl
      generalize (Utf8.decode s pos).1 = r at *
      generalize (Utf8.decode s pos).2 = k at *
      clear hW1 hit hlw HS
      by_cases h16 : 16 < n + 1
      · have hg : (16 : Int) < (n : Int) + 1 := by omega
        have HE : Hid (shapedGo (spots s) 0 = false) := by show _ = _; rw [← HS2.out, if_pos h16]
        clear HS2
        go_wp2
        go_ret
        exact ⟨by simp only [HE.out]; rfl, hlw2⟩
      · have hg : ¬ (16 : Int) < (n : Int) + 1 := by omega
        have hs2 := HS2.out
        rw [if_neg h16] at hs2
        have c33 := fun w' => may_any (r : Nat) ((pos : Int) == 0) w'
        obtain ⟨fl, hfl⟩ : ∃ fl, fl = ((pos : Int) == 0) := ⟨_, rfl⟩
        rw [← hfl] at hs2 c33
        have HFL : Hid (fl = ((pos : Int) == 0)) := hfl
        obtain ⟨q, hq⟩ : ∃ q, q = standF (r : Nat) fl := ⟨_, rfl⟩
        rw [← hq] at hs2 c33
        clear HS2 hq
        cases q with
        | true =>
          have HS3 : Hid _ := hs2
          clear hs2
          go_wp2_with (go_at_call 60; rw [← hfl]; refine (c33 _).mono ?_; rintro e w2 ⟨rfl, hl2⟩)
          have hit3 := (hl2.block _ (lt_of_block hit2)).trans hit2
          go_roundw
          case rel => exact ⟨pos + k, fuel, nl l r, nc c r, n + 1, by go_num, hit3, Later.trans hlw2 hl2, HS3.out, by omega, by omega, by omega⟩
          case measure => rw [iterPos_of hit3, hpos0]; omega
        | false =>
          have HE : Hid (shapedGo (spots s) 0 = false) := hs2.symm
          clear hs2
          go_wp2_with (go_at_call 60; rw [← hfl]; refine (c33 _).mono ?_; rintro e w2 ⟨rfl, hl2⟩)
          go_ret
          exact ⟨by simp only [HE.out]; rfl, Later.trans hlw2 hl2⟩
    · have hnx : ∀ ty, (Instr.next (.pointer (some ⟨w.heap.size, 0, none⟩)) true ty).run Tryd.prog wr = _ := fun ty => Lib.run_next_end_at wr w.heap.size s pos ty hit hp
      have HE : Hid (shapedGo (spots s) 0 = decide (0 < n)) := by show _ = _; rw [← HS.out, spots_end s fuel pos l c hp]; rfl
      clear HS
      go_wp2
      go_ret
      exact ⟨by simp only [HE.out]; simp, hlw⟩

theorem right_split (s : ByteArray) : rightF s = (shapedGo (spots s) 0 && (Lib.validD s.data.toList && !wordF s)) := by
  rw [shapedGo_spots, valid_rb]
  simp only [rightF, Bool.and_assoc]

set_option maxRecDepth 1000000 in
set_option maxHeartbeats 1000000 in
theorem nameRight_any (s : ByteArray) (hsz : s.size ≤ 1000) (w : World) (g : NamesGood w) :
    Calls Tryd.prog 44 #[.string s] w fun e w' => e = .returned (.bool (rightF s)) ∧ Later w w' := by
  rw [right_split]
  have c27 := fun w' => shaped_any s hsz w'
  have c28 : ∀ w', NamesGood w' → Calls Tryd.prog 54 #[.string s] w' fun e w'' => e = .returned (.bool (Lib.validD s.data.toList)) ∧ Later w' w'' := fun w' g' => Tryd.utf8_ValidString s w' (by omega) g'.utf
  have c13 := fun w' (g' : NamesGood w') => word_any s w' g'.regs g'.ops g'.jumps
  have go : ∀ {w'}, Later w w' → NamesGood w' := fun h => g.later h
  generalize shapedGo (spots s) 0 = a at *
  generalize Lib.validD s.data.toList = b at *
  generalize wordF s = c at *
  cases a <;> cases b
  all_goals go_enter Tryd.func44, Tryd.ntmps44
  all_goals go_wp2_with (first
    | (go_at_call 53; refine (c27 _).mono ?_; rintro e w1 ⟨rfl, hl1⟩)
    | (go_at_call 54; refine (c28 _ (go hl1)).mono ?_; rintro e w2 ⟨rfl, hl2⟩; have L2 := Later.trans hl1 hl2)
    | (go_at_call 55; refine (c13 _ (go L2)).mono ?_; rintro e w3 ⟨rfl, hl3⟩; have L3 := Later.trans L2 hl3))
  all_goals go_ret
  all_goals exact ⟨by simp, by assumption⟩

end Go.Proofs.YtegogmbcjjjjjaaDoor
