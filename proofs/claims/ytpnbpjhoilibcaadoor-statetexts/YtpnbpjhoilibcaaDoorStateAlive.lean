/-
  What chapter 13's statements ask first: a state's text, and the answers about it. Nothing that was in memory turns. Conditions: the listed table stands as it is laid.
-/
import Derived.Test.YtpnbpjhoilibcaaDoorStateTextCall
import Derived.Test.YtpnbpjhoilibcaaDoorStateC
namespace Go.Proofs.YtpnbpjhoilibcaaDoor
open Go.RowKit
set_option linter.unusedVariables false
set_option linter.unusedSimpArgs false

def ms0 : MSt := ⟨[1, 2], [], [[(0, 5)]], 0⟩
def msNil : MSt := ⟨[], [], [], 0⟩

theorem msNil_in (w : World) : MsIn w (.slice none 0 0) (.slice none 0 0) (.slice none 0 0) msNil := ⟨RowIn.nil _ _ w, RowIn.nil _ _ w, RowIn.nil _ _ w, by unfold I64 msNil; simp⟩

theorem num_digit {n : Nat} (h : n < 10) : numL n = [UInt8.ofNat (48 + n)] := by
  unfold numL
  rw [txt_list]
  unfold Lib.itoa
  rw [if_neg (by omega), Int.toNat_natCast, Lib.decDigits_one h]

theorem ms0_text : msL ms0 = [49, 44, 50, 40, 48, 61, 53, 41, 35, 48] := by
  have d0 : numL 0 = [48] := num_digit (n := 0) (by omega)
  have d1 : numL 1 = [49] := num_digit (n := 1) (by omega)
  have d2 : numL 2 = [50] := num_digit (n := 2) (by omega)
  have d5 : numL 5 = [53] := num_digit (n := 5) (by omega)
  simp [msL, ms0, rowL, joinL, bufL, entL, d0, d1, d2, d5]

set_option maxRecDepth 1000000 in
set_option maxHeartbeats 4000000 in
theorem stateAlive_any (w : World) (hG : TabGood w) : Calls Tryd.prog 8 #[] w fun e w' => e = .returned (.bool true) ∧ Later w w' := by
  have HG : Hid (TabGood w) := hG
  have e0 : ((⟨#[49, 44, 50, 40, 48, 61, 53, 41, 35, 48]⟩ : ByteArray).toList == [49, 44, 50, 40, 48, 61, 53, 41, 35, 48]) = true := by rw [ByteArray.toList_eq]; rfl
  have e1 : Hid ((⟨(msL ms0).toArray⟩ : ByteArray) = ⟨#[49, 44, 50, 40, 48, 61, 53, 41, 35, 48]⟩) := Lib.hid (by rw [ms0_text])
  clear hG
  have s1 : (w.alloc (.cells #[.int .i64 1, .int .i64 2] 2)).heap.size = w.heap.size + 1 := by simp
  have s2 : ((w.alloc (.cells #[.int .i64 1, .int .i64 2] 2)).alloc (.cells #[.int .i64 0, .int .i64 5] 41)).heap.size = w.heap.size + 1 + 1 := by simp
  have s3 : (((w.alloc (.cells #[.int .i64 1, .int .i64 2] 2)).alloc (.cells #[.int .i64 0, .int .i64 5] 41)).alloc (.cells #[.slice (some ⟨w.heap.size + 1, 0, none⟩) 1 1] 39)).heap.size = w.heap.size + 1 + 1 + 1 := by simp
  have h0 := at_new w (.cells #[.int .i64 1, .int .i64 2] 2)
  have h1 := at_new (w.alloc (.cells #[.int .i64 1, .int .i64 2] 2)) (.cells #[.int .i64 0, .int .i64 5] 41)
  have h2 := at_new ((w.alloc (.cells #[.int .i64 1, .int .i64 2] 2)).alloc (.cells #[.int .i64 0, .int .i64 5] 41)) (.cells #[.slice (some ⟨w.heap.size + 1, 0, none⟩) 1 1] 39)
  have h3 := at_new (((w.alloc (.cells #[.int .i64 1, .int .i64 2] 2)).alloc (.cells #[.int .i64 0, .int .i64 5] 41)).alloc (.cells #[.slice (some ⟨w.heap.size + 1, 0, none⟩) 1 1] 39)) (.cells #[.slice (some ⟨w.heap.size, 0, none⟩) 2 2, .slice none 0 0, .slice (some ⟨w.heap.size + 1 + 1, 0, none⟩) 1 1, .int .i64 0] 26)
  have l1 := Later.alloc (Later.refl w) (.cells #[.int .i64 1, .int .i64 2] 2)
  have l2 := Later.alloc (Later.refl (w.alloc (.cells #[.int .i64 1, .int .i64 2] 2))) (.cells #[.int .i64 0, .int .i64 5] 41)
  have l3 := Later.alloc (Later.refl ((w.alloc (.cells #[.int .i64 1, .int .i64 2] 2)).alloc (.cells #[.int .i64 0, .int .i64 5] 41))) (.cells #[.slice (some ⟨w.heap.size + 1, 0, none⟩) 1 1] 39)
  have l4 := Later.alloc (Later.refl (((w.alloc (.cells #[.int .i64 1, .int .i64 2] 2)).alloc (.cells #[.int .i64 0, .int .i64 5] 41)).alloc (.cells #[.slice (some ⟨w.heap.size + 1, 0, none⟩) 1 1] 39))) (.cells #[.slice (some ⟨w.heap.size, 0, none⟩) 2 2, .slice none 0 0, .slice (some ⟨w.heap.size + 1 + 1, 0, none⟩) 1 1, .int .i64 0] 26)
  rw [s1] at h1
  rw [s2] at h2
  rw [s3] at h3
  replace h0 := heap_later (l2.trans (l3.trans l4)) h0
  replace h1 := heap_later (l3.trans l4) h1
  replace h2 := heap_later l4 h2
  have LL := l1.trans (l2.trans (l3.trans l4))
  clear l1 l2 l3 l4 s1 s2 s3
  go_enter Tryd.func8, Tryd.ntmps8
  go_upto_region 2 with (fail)
  generalize ((((w.alloc (.cells #[.int .i64 1, .int .i64 2] 2)).alloc (.cells #[.int .i64 0, .int .i64 5] 41)).alloc (.cells #[.slice (some ⟨w.heap.size + 1, 0, none⟩) 1 1] 39)).alloc (.cells #[.slice (some ⟨w.heap.size, 0, none⟩) 2 2, .slice none 0 0, .slice (some ⟨w.heap.size + 1 + 1, 0, none⟩) 1 1, .int .i64 0] 26)) = W at *
  have HM : MsIn W (.slice (some ⟨w.heap.size, 0, none⟩) 2 2) (.slice none 0 0) (.slice (some ⟨w.heap.size + 1 + 1, 0, none⟩) 1 1) ms0 := by
    refine ⟨⟨_, 2, rfl, by simp [ms0], by unfold maxLen; omega, fun _ => ⟨w.heap.size, 0, rfl, fun i b hi => ?_⟩⟩, RowIn.nil _ _ W, RowIn.one h2 ⟨_, rfl, RowIn.one h1 rfl, ?_⟩, by unfold I64 ms0; simp⟩
    · match i, hi with
      | 0, hi =>
        simp [ms0] at hi
        subst hi
        refine ⟨_, ⟨rfl, by unfold I64; omega⟩, fun j c hj => ?_⟩
        match j, hj with
        | 0, hj => simp at hj; subst hj; simp [World.cell?, h0]
        | j + 1, hj => simp at hj
      | 1, hi =>
        simp [ms0] at hi
        subst hi
        refine ⟨_, ⟨rfl, by unfold I64; omega⟩, fun j c hj => ?_⟩
        match j, hj with
        | 0, hj => simp at hj; subst hj; simp [World.cell?, h0]
        | j + 1, hj => simp at hj
      | i + 2, hi => simp [ms0] at hi
    · intro x hx
      simp at hx
      subst hx
      unfold I64
      simp
  have HMH : Hid (MsIn W (.slice (some ⟨w.heap.size, 0, none⟩) 2 2) (.slice none 0 0) (.slice (some ⟨w.heap.size + 1 + 1, 0, none⟩) 1 1) ms0) := HM
  obtain ⟨a0, a1, a2, a3, -⟩ := box4_facts h3
  have cT := stateText_any W _ _ _ ms0 HM (HG.out.later LL) (by rw [ms0_text]; simp)
  rw [e1.out] at cT
  have cD := fun w' (hl : Later W w') => drained_any w' _ _ _ ms0 (HMH.out.later hl)
  have cN := fun w' => drained_any w' _ _ _ msNil (msNil_in w')
  have cS := fun w' (hl : Later W w') => same_any w' _ _ _ _ _ _ ms0 ms0 (HMH.out.later hl) (HMH.out.later hl)
  have cU := fun w' (hl : Later W w') => same_any w' _ _ _ _ _ _ ms0 msNil (HMH.out.later hl) (msNil_in w')
  rw [show drainedF ms0 = false from rfl] at cD
  rw [show drainedF msNil = true from rfl] at cN
  rw [show msEq ms0 ms0 = true from msEq_self _] at cS
  rw [show msEq ms0 msNil = false from rfl] at cU
  dsimp only [ms0, msNil] at cT cD cN cS cU
  have L2 := Later.refl W
  clear HM h0 h1 h2
  go_wp2_with (first
    | (go_at_call 11; apply Calls.mono; (focus (with_reducible (exact cT))); rintro e w1 ⟨rfl, hl⟩; replace L2 := L2.trans hl; replace h3 := heap_later hl h3; obtain ⟨a0, a1, a2, a3, -⟩ := box4_facts h3; clear hl)
    | (go_at_call 13; apply Calls.mono; (focus (with_reducible (exact cD _ L2))); rintro e w2 ⟨rfl, hl⟩; replace L2 := L2.trans hl; replace h3 := heap_later hl h3; obtain ⟨a0, a1, a2, a3, -⟩ := box4_facts h3; clear hl)
    | (go_at_call 13; apply Calls.mono; (focus (with_reducible (exact cN _))); rintro e w3 ⟨rfl, hl⟩; replace L2 := L2.trans hl; replace h3 := heap_later hl h3; obtain ⟨a0, a1, a2, a3, -⟩ := box4_facts h3; clear hl)
    | (go_at_call 9; apply Calls.mono; (focus (with_reducible (exact cS _ L2))); rintro e w4 ⟨rfl, hl⟩; replace L2 := L2.trans hl; replace h3 := heap_later hl h3; obtain ⟨a0, a1, a2, a3, -⟩ := box4_facts h3; clear hl)
    | (go_at_call 9; apply Calls.mono; (focus (with_reducible (exact cU _ L2))); rintro e w5 ⟨rfl, hl⟩; replace L2 := L2.trans hl; clear hl))
  go_ret
  exact ⟨rfl, LL.trans L2⟩

end Go.Proofs.YtpnbpjhoilibcaaDoor
