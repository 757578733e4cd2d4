/-
  For every list of symbols: the statement's function returns true and nothing that was in memory turns. Conditions: the listed variables stand as the program's text lays them.
-/
import Derived.Test.YtgkdejldpldkiaaDoorRows
import Derived.Test.YtgkdejldpldkiaaDoorCards
import Derived.Test.YtgkdejldpldkiaaDoorTie
import Derived.Test.YtgkdejldpldkiaaDoorNamesLaid
import Derived.Test.YtgkdejldpldkiaaDoorJh
import Derived.Test.YtgkdejldpldkiaaDoorCellsMadeP
import Derived.Test.YtgkdejldpldkiaaDoorCellsTwo
import Derived.Test.YtgkdejldpldkiaaDoorOpensCells
import Derived.Deep.RegionLaw
import Derived.WalkKit
import Derived.ProofKit
import Derived.OpenShut
import Derived.SizedLaws
import Derived.ShutString
import Derived.Carry
import Derived.Stop.Joined
import Derived.SevenTiedAt
namespace Go.Proofs.YtgkdejldpldkiaaDoor.cellsBack
open Go.ChangeShapes Go.WideShapes Go.ChangeAt Go.RowKit
open Go.ChangeMaps (open_string shut_string)
set_option linter.unusedVariables false
set_option linter.unusedSimpArgs false

theorem own : ownKnob Tryd.prog.godebug = none := by kernel_rfl
theorem laidOut : laidOutB Tryd.prog = true := by kernel_rfl

set_option maxRecDepth 1000000 in
set_option maxHeartbeats 16000000 in
theorem walk (w : World) (g : Good w) (u : Value) (S0 : Syms) (hS0 : SymRow w u S0) :
    Calls Tryd.prog 7 #[u] w fun e w' => e = .returned (.bool true) ∧ Later w w' := by
  obtain ⟨i0, hi0, hz0, hz1, hz2⟩ := info_parts infoSym
  obtain ⟨lp, lcap, rfl, hl1, hl2⟩ := hS0.slice
  unfold maxLen at hl2
  have HL : Hid (SymRow w (.slice lp S0.length lcap) S0) := hS0
  have HG : Hid (Good w) := g
  have LL := Later.alloc (Later.refl w) (.cells #[.slice none 0 0, .slice none 0 0] 27)
  have HB : Hid ((w.alloc (.cells #[.slice none 0 0, .slice none 0 0] 27)).heap[w.heap.size]? = some (.cells #[.slice none 0 0, .slice none 0 0] 27)) := at_new _ _
  have HO : Hid ((w.alloc (.cells #[.slice none 0 0, .slice none 0 0] 27)).ownsRow (w.heap.size + 1) 47 3 (.slice none 0 0) 0 (flatC symCells [])) := World.ownsRow_nil _ _ _ _
  clear g hS0
  go_enter Tryd.func7, Tryd.ntmps7
  go_upto_region 2 with (fail)
  generalize w.alloc (.cells #[.slice none 0 0, .slice none 0 0] 27) = W at *
  go_wp2
  go_loopw [4] (fun vi wr => ∃ (i : Nat) (v : Value) (S : Syms), vi = .int .i64 (i : Nat) ∧ i ≤ S0.length ∧ i ≤ 6 ∧ Later w wr ∧ Hid (wr.heap[w.heap.size]? = some (.cells #[v, .slice none 0 0] 27)) ∧ Hid (wr.ownsRow (w.heap.size + 1) 47 3 v i (flatC symCells S)) ∧ Hid (IntsOwn wr (w.heap.size + 1) S) ∧ Hid (Five S ∧ S.length = i)) (fun vi _ => S0.length - (intOf vi).toNat)
  case atStart => exact ⟨0, _, [], rfl, by omega, by omega, LL, HB, HO, IntsOwn.nil _ _, ⟨Five.nil, rfl⟩⟩
  case round =>
    clear HB HO LL
    obtain ⟨i, v, S, rfl, hi, hi6, hlw, hBk, hOw, hIn, hNm⟩ := hrel
    obtain ⟨vp, vcap, rfl⟩ := owns_slice hOw.out
    by_cases h8 : i < S0.length ∧ i < 6
    · obtain ⟨h8, h6⟩ := h8
      obtain ⟨⟨x, L⟩, ht⟩ : ∃ t, S0[i]? = some t := ⟨_, List.getElem?_eq_getElem h8⟩
      obtain ⟨g, o, rfl, -, hxs, -, x0, x1, x2⟩ := (SymRow.kept HL.out hlw.kept).get ht
      have cP := fun w' => pick_any x.size 5 hxs (by omega) w'
      obtain ⟨z, hz, hzz⟩ : ∃ z : Nat, pick x.size 5 = z ∧ z ≤ 4 := ⟨(pick x.size 5).toNat, by unfold pick; omega, by unfold pick; omega⟩
      rw [hz] at cP
      have cT := fun w' => refText_any (i : Int) (by omega) (by omega) w'
      have LD : Later w wr.drew := Later.drew hlw
      have HBD : Hid (wr.drew.heap[w.heap.size]? = some (.cells #[.slice vp i vcap, .slice none 0 0] 27)) := hBk
      have HOD : Hid (wr.drew.ownsRow (w.heap.size + 1) 47 3 (.slice vp i vcap) i (flatC symCells S)) := hOw
      have HID : Hid (IntsOwn wr.drew (w.heap.size + 1) S) := hIn
      obtain ⟨c0, -⟩ := box2_facts HBD.out
      have d1 : wr.drew.cell? ⟨g, o + i * 3 + 1, none⟩ = some (.int .i64 x.size) := x1
      have hts := txt_size (i : Int) (by omega) (by omega)
      have hcat : ¬ 9223372036854775807 < 1 + (txt (i : Int)).size := by omega
      have hwz := wrap_few (1 + (z : Int)) (by omega) (by omega)
      clear hBk hOw hIn ht x0 x2 hz hxs HL
      go_upto_region 5 with (fail)
      go_region_law (first | (refine step_append_own rfl (.tmp 23) (.tmp 35) 24 rfl (w.heap.size + 1) 47 i0 (.agg #[.string ⟨#[]⟩, .int .i64 0, .slice none 0 0]) 3 48 Tryd.underlying24 hi0 hz0 hz1 hz2 rfl (by decide) (.slice vp i vcap) i (flatC symCells S) (by simp [Act.eval, Act.put]) ((ownsC_later HOD.out hl1).alloc _) ⟨w1.heap.size, 0, none⟩ 1 1 [.string (⟨#[115]⟩ ++ txt (i : Int)), .int .i64 (1 + (z : Int)), .slice none 0 0] (by simp [Act.eval, Act.put]) rfl (news_at2 _ _ _ rfl) (fun u hu => by simp at hu; rcases hu with rfl | rfl | rfl <;> rfl) (by unfold maxLen; omega) (by omega) (by have := hl1.size; have := lt_block HBD.out; simp at *; omega) ?_; intro v3 w3 hown3 hgrow3; obtain ⟨p3, q3, rfl⟩ := owns_slice hown3; have X3 := after_five (s := (⟨⟨#[115]⟩ ++ txt (i : Int), 1 + (z : Int), .slice none 0 0⟩, [])) (LD.trans hl1) rfl (ownsC_later HOD.out hl1) (heap_later hl1 HBD.out) (IntsOwn.snoc (HID.out.later hl1) (World.ownsRow_nil _ _ _ _) (fun a ha => by simp at ha)) hgrow3 hown3; clear hown3 hgrow3; obtain ⟨f0, f1, f2, f3⟩ := box2_facts X3.out.2.1) | (go_simp; go_at_call 22; apply Calls.mono; (focus (with_reducible (exact cP _))); rintro e w' ⟨rfl, hw1⟩; have hw2 := hw1.symm; subst hw2) | (go_simp; go_at_call 23; apply Calls.mono; (focus (with_reducible (exact cT wr.drew))); rintro e w1 ⟨rfl, hl1⟩; have e0 := cell_later c0 hl1; have e1 := cell_later d1 hl1; have e2 := cell_later e0 (Later.alloc (Later.refl w1) (.cells #[.string (⟨#[115]⟩ ++ txt (i : Int)), .int .i64 (1 + (z : Int)), .slice none 0 0] 47))))
      all_goals
        go_wp2
        go_roundw
        case rel => exact ⟨i + 1, _, _, by go_num, by omega, by omega, Later.setCell X3.out.1 (Nat.le_refl _) 0 _, setCell_block X3.out.2.1 0 _, ownsRow_setCell_below X3.out.2.2.1 (Nat.lt_succ_self _) _, IntsOwn.set X3.out.2.2.2 (Nat.lt_succ_self _) 0 _, ⟨hNm.out.1.snoc hNm.out.2 rfl ⟨by show (1 : Int) ≤ 1 + (z : Int); omega, by show 1 + (z : Int) ≤ 5; omega, by show (0 : Int) ≤ 1 + (z : Int); omega⟩, by rw [List.length_append, hNm.out.2]; rfl⟩⟩
        case measure => simp [intOf]; omega
    · have h8c : S0.length ≤ i ∨ (i < S0.length ∧ 6 ≤ i) := by omega
      clear h8
      rcases h8c with h8c | ⟨h8c, h8d⟩
      all_goals
        have hlen := hNm.out.2
        have hF5 := hNm.out.1
        have hlaid := hF5.laid (by omega)
        have hS8 := five_row hF5 hlen (by omega) hOw.out hIn.out
        have hz := sized_check (hF5.check (by omega))
        have hfine := hF5.fine (by omega)
        obtain ⟨a0, a1, -⟩ := box2_facts hBk.out
        have gG := fun w' (hl : Later wr w') => NamesGood.later (NamesGood.later HG.out hlw) hl
        clear hF5 hIn hOw hBk hNm HL HG
        obtain ⟨W8, rfl⟩ : ∃ W8, W8 = wr := ⟨_, rfl⟩
        have hT8 : ThrRow W8 (.slice none 0 0) [] := RowIn.nil _ _ _
        obtain ⟨N, hN⟩ : ∃ N : Nat, sumF S = N := ⟨(sumF S).toNat, by have := (hz.sum S.length).1; rw [List.take_length] at this; omega⟩
        have cB : Hid (∀ (j : Nat), j < S.length → ∀ w', Later W8 w' → Calls Tryd.prog 24 #[.agg #[.slice vp i vcap, .slice none 0 0], .int .i64 j] w' fun e w'' => e = .returned (.int .i64 (sumF (S.take j))) ∧ Later w' w'') := fun j hj w' hl => by
          have h := base_any (.slice vp i vcap) (.slice none 0 0) S [] (j : Int) (by unfold I64; omega) w' (gG w' hl) (hS8.kept (Later.kept hl)) (ThrRow.kept hT8 (Later.kept hl)) hfine
          rw [hlaid] at h
          have hb : baseF S (j : Int) = sumF (S.take j) := by unfold baseF; rw [if_pos (by omega), Int.toNat_natCast]
          rw [hb] at h
          exact h
        have cA : Hid (∀ (j k : Nat) (s : Sym × List Int), S[j]? = some s → (k : Int) < s.1.size → ∀ w', Later W8 w' → Calls Tryd.prog 25 #[.agg #[.slice vp i vcap, .slice none 0 0], .agg #[.int .i64 3, .int .i64 0, .int .i64 j, .int .i64 k], .agg #[.int .i64 0, .int .i64 0, .int .i64 0, .int .i64 0, .int .i64 0, .int .i64 0, .int .i64 0, .int .i64 0]] w' fun e w'' => e = .returned (.tuple #[.int .i64 (sumF (S.take j) + k), .bool true]) ∧ Later w' w'') := fun j k s hs hk w' hl => by
          have hj := (List.getElem?_eq_some_iff.1 hs).1
          have hk64 := (hz.get hs).2.1
          have h := addr_any (.slice vp i vcap) (.slice none 0 0) S [] ⟨3, 0, j, k⟩ (fun _ => 0) (by unfold I64; dsimp only; omega) (by unfold I64; dsimp only; omega) (fun _ => by unfold I64; omega) w' (gG w' hl) (hS8.kept (Later.kept hl)) (ThrRow.kept hT8 (Later.kept hl)) hfine
          rw [hlaid, addr_at hs hk] at h
          exact h
        have dA : Hid (∀ (j k : Nat) (s : Sym × List Int), S[j]? = some s → (k : Int) < s.1.size → ∀ w', Later W8 w' → Calls Tryd.prog 25 #[.agg #[.slice vp i vcap, .slice none 0 0], .agg #[.int .i64 4, .int .i64 3, .int .i64 j, .int .i64 0], .agg #[.int .i64 0, .int .i64 0, .int .i64 0, .int .i64 k, .int .i64 0, .int .i64 0, .int .i64 0, .int .i64 0]] w' fun e w'' => e = .returned (.tuple #[.int .i64 (sumF (S.take j) + k), .bool true]) ∧ Later w' w'') := fun j k s hs hk w' hl => by
          have hj := (List.getElem?_eq_some_iff.1 hs).1
          have hk64 := (hz.get hs).2.1
          have h := addr_any (.slice vp i vcap) (.slice none 0 0) S [] ⟨4, 3, j, 0⟩ (only 3 k) (by unfold I64; dsimp only; omega) (by unfold I64; dsimp only; omega) (only_i64 (by unfold I64; omega) 3) w' (gG w' hl) (hS8.kept (Later.kept hl)) (ThrRow.kept hT8 (Later.kept hl)) hfine
          rw [hlaid, addr_by hs hk (show only 3 (k : Int) 3 = k from rfl)] at h
          exact h
        have cY : Hid (∀ (j k : Nat) (s : Sym × List Int), S[j]? = some s → (k : Int) < s.1.size → ∀ w', Later W8 w' → Calls Tryd.prog 26 #[.agg #[.slice vp i vcap, .slice none 0 0], .int .i64 (sumF (S.take j) + k)] w' fun e w'' => e = .returned (.int .i64 j) ∧ Later w' w'') := fun j k s hs hk w' hl => by
          have hk64 := (hz.get hs).2.1
          have hsm := hz.sum j
          have h := sym_any (.slice vp i vcap) (.slice none 0 0) S [] (sumF (S.take j) + k) (by unfold I64; omega) w' (gG w' hl) (hS8.kept (Later.kept hl)) (ThrRow.kept hT8 (Later.kept hl)) hfine
          rw [hlaid, sym_of hz hs (by omega)] at h
          exact h
        have hNs := (hz.sum S.length).2
        rw [List.take_length, hN] at hNs
        have cS : ∀ w', Later W8 w' → Calls Tryd.prog 27 #[.agg #[.slice vp i vcap, .slice none 0 0]] w' fun e w'' => e = .returned (.int .i64 N) ∧ Later w' w'' := fun w' hl => by
          have h := size_any (.slice vp i vcap) (.slice none 0 0) S [] w' (gG w' hl) (hS8.kept (Later.kept hl)) (ThrRow.kept hT8 (Later.kept hl)) hfine
          rw [hlaid, hN] at h
          exact h
        have cE : ∀ w', Later W8 w' → Calls Tryd.prog 26 #[.agg #[.slice vp i vcap, .slice none 0 0], .int .i64 N] w' fun e w'' => e = .returned (.int .i64 (-1)) ∧ Later w' w'' := fun w' hl => by
          have h := sym_any (.slice vp i vcap) (.slice none 0 0) S [] N (by unfold I64; omega) w' (gG w' hl) (hS8.kept (Later.kept hl)) (ThrRow.kept hT8 (Later.kept hl)) hfine
          rw [hlaid, ← hN, sym_end hz] at h
          rw [← hN]
          exact h
        have cM : ∀ w', Later W8 w' → Calls Tryd.prog 26 #[.agg #[.slice vp i vcap, .slice none 0 0], .int .i64 (-1)] w' fun e w'' => e = .returned (.int .i64 (-1)) ∧ Later w' w'' := fun w' hl => by
          have h := sym_any (.slice vp i vcap) (.slice none 0 0) S [] (-1) (by unfold I64; omega) w' (gG w' hl) (hS8.kept (Later.kept hl)) (ThrRow.kept hT8 (Later.kept hl)) hfine
          rw [hlaid, sym_less] at h
          exact h
        have cT : ∀ w', Later W8 w' → Calls Tryd.prog 28 #[.agg #[.slice vp i vcap, .slice none 0 0]] w' fun e w'' => ∃ q dd, e = .returned (.slice q N dd) ∧ Later w' w'' := fun w' hl => by
          have h := start_any (.slice vp i vcap) (.slice none 0 0) S [] w' (gG w' hl) (hS8.kept (Later.kept hl)) (ThrRow.kept hT8 (Later.kept hl)) hfine
          rw [hlaid] at h
          refine h.mono ?_
          rintro e w'' ⟨x, rfl, h1, h2⟩
          obtain ⟨q, dd, rfl, -, -⟩ := h2.slice
          have hst := start_length hz.each
          rw [hN] at hst
          have hst2 : (startF S).length = N := by omega
          exact ⟨q, dd, by rw [hst2], h1⟩
        have cL := fun w' hl => cellsAlive_any w' (gG w' hl)
        have HS8 : Hid (SymRow W8 (.slice vp i vcap) S) := hS8
        have HZ : Hid (Sized S) := hz
        have HN : Hid (sumF S = N ∧ S.length = i) := ⟨hN, hlen⟩
        clear hlaid hS8 hz hfine gG hN hlen hT8
        go_wp2
        go_loopw [5, 6] (fun va vj wr => ∃ (j : Nat) (n : Int), vj = .int .i64 (j : Nat) ∧ va = .int .i64 n ∧ j ≤ i ∧ Later W8 wr ∧ 0 ≤ n ∧ n ≤ 4096 ∧ Hid (sumF (S.take j) = n)) (fun _ vj _ => i - (intOf vj).toNat)
        case atStart => exact ⟨0, 0, rfl, rfl, by omega, Later.refl _, by omega, by omega, rfl⟩
        case round =>
          obtain ⟨j, n, rfl, rfl, hj, hl8, hn0, hn1, hF⟩ := hrel
          have b0 := cell_later a0 hl8
          have b1 := cell_later a1 hl8
          by_cases h9 : j < i
          · have hjl : j < S.length := by have := HN.out.2; omega
            obtain ⟨⟨x, L⟩, ht⟩ : ∃ t, S[j]? = some t := ⟨_, List.getElem?_eq_getElem hjl⟩
            have cB2 := fun w' hl => cB.out j hjl w' hl
            have cA2 := fun (k : Nat) (hk : (k : Int) < x.size) w' hl => cA.out j k (x, L) ht hk w' hl
            have dA2 := fun (k : Nat) (hk : (k : Int) < x.size) w' hl => dA.out j k (x, L) ht hk w' hl
            have cY2 := fun (k : Nat) (hk : (k : Int) < x.size) w' hl => cY.out j k (x, L) ht hk w' hl
            rw [hF.out] at cB2 cA2 dA2 cY2
            obtain ⟨g, o, rfl, -, -, -, x0, x1, x2⟩ := SymRow.get HS8.out ht
            obtain ⟨hb0, hb1, -⟩ := HZ.out.get ht
            dsimp only at hb0 hb1
            have hSN : Hid (sumF (S.take (j + 1)) = n + x.size) := by show _ = _; rw [sum_next ht, hF.out]
            have hsm := HZ.out.sum (j + 1)
            rw [hSN.out] at hsm
            obtain ⟨hs0, hs1⟩ := hsm
            clear ht hF cB cA dA cY HS8 HZ x0 x2 cS cE cM cT cL hjl
            go_wp2_with (go_at_call 24; refine (cB2 _ hl8).mono ?_; rintro e w9 ⟨rfl, hl9⟩)
            replace hl9 := hl8.trans hl9
            clear cB2 b0 b1 hl8
            go_loopw [5, 7] (fun va vk wr => ∃ (k : Nat), vk = .int .i64 (k : Nat) ∧ va = .int .i64 (n + k) ∧ (k : Int) ≤ x.size ∧ Later W8 wr) (fun _ vk _ => x.size.toNat - (intOf vk).toNat)
            case atStart => exact ⟨0, rfl, by simp, by omega, hl9⟩
            case round =>
              obtain ⟨k, rfl, rfl, hk, hl8⟩ := hrel
              clear hl9
              have b0 := cell_later a0 hl8
              have b1 := cell_later a1 hl8
              have d1 := cell_later x1 hl8
              by_cases h10 : (k : Int) < x.size
              · have cA3 := cA2 k h10
                have dA3 := dA2 k h10
                have cY3 := cY2 k h10
                clear cA2 dA2 cY2
                go_wp2_with (first
                  | (go_at_call 25; apply Calls.mono; (focus (with_reducible (exact cA3 _ hl8))); rintro e w10 ⟨rfl, hl⟩; replace hl8 := hl8.trans hl; clear hl; have e0 := cell_later a0 hl8; have e1 := cell_later a1 hl8)
                  | (go_at_call 25; apply Calls.mono; (focus (with_reducible (exact dA3 _ hl8))); rintro e w11 ⟨rfl, hl⟩; replace hl8 := hl8.trans hl; clear hl; have f0 := cell_later a0 hl8; have f1 := cell_later a1 hl8)
                  | (go_at_call 26; apply Calls.mono; (focus (with_reducible (exact cY3 _ hl8))); rintro e w12 ⟨rfl, hl⟩; replace hl8 := hl8.trans hl; clear hl))
                go_roundw
                case rel => exact ⟨k + 1, by go_num, by first | go_num | (congr 1; omega), by omega, hl8⟩
                case measure => simp [intOf]; omega
              · have hkx : (k : Int) = x.size := by omega
                have HSN : Hid (sumF (S.take (j + 1)) = n + k) := by show _ = _; rw [hSN.out, hkx]
                clear hSN hkx cA2 dA2 cY2
                go_wp2
                go_roundw
                case rel => exact ⟨j + 1, n + k, by go_num, by first | rfl | go_num, by omega, hl8, by omega, by omega, HSN⟩
                case measure => simp [intOf]; omega
          · have hje : j = i := by omega
            have hnN : n = N := by
              have h5 := hF.out
              rw [hje, ← HN.out.2, List.take_length, HN.out.1] at h5
              exact h5.symm
            clear hF HN cB cA dA cY HS8 HZ hje
            subst hnN
            go_wp2_with (first
              | (go_at_call 27; apply Calls.mono; (focus (with_reducible (exact cS _ hl8))); rintro e w10 ⟨rfl, hl⟩; replace hl8 := hl8.trans hl; clear hl; have e0 := cell_later a0 hl8; have e1 := cell_later a1 hl8)
              | (go_at_call 26; apply Calls.mono; (focus (with_reducible (exact cE _ hl8))); rintro e w11 ⟨rfl, hl⟩; replace hl8 := hl8.trans hl; clear hl; have f0 := cell_later a0 hl8; have f1 := cell_later a1 hl8)
              | (go_at_call 26; apply Calls.mono; (focus (with_reducible (exact cM _ hl8))); rintro e w12 ⟨rfl, hl⟩; replace hl8 := hl8.trans hl; clear hl; have g0 := cell_later a0 hl8; have g1 := cell_later a1 hl8)
              | (go_at_call 28; apply Calls.mono; (focus (with_reducible (exact cT _ hl8))); rintro e w13 ⟨q, dd, rfl, hl⟩; replace hl8 := hl8.trans hl; clear hl)
              | (go_at_call 20; apply Calls.mono; (focus (with_reducible (exact cL _ hl8))); rintro e w14 ⟨rfl, hl⟩; replace hl8 := hl8.trans hl; clear hl))
            go_ret
            exact ⟨rfl, hlw.trans hl8⟩

set_option maxRecDepth 100000 in
theorem lifted (os : Os) (started : os.Started) (H : Type) (enc : TypeId × Value → H) :
    ReturnsInHanded {} Tryd.checked os 7 .any (fun w args => (Rows.cellsBackSpec.pre enc Tryd.prog Tryd.f7 [] false w args ∧ laidMetH Tryd.prog theList w) ∧ sizedMet enc Tryd.prog Tryd.f7 (OpenSpec.ofChange Rows.cellsBackSpec) false w args)
      (Rows.cellsBackSpec.post enc Tryd.prog Tryd.f7 false true false false) := by
  refine returnsInHanded_of_change_and (C := Tryd.checked) (X := fun w _ => laidMetH Tryd.prog theList w) (fun _ _ _ hh h => h.of_heap hh) own started (by kernel_rfl) Tryd.func7
    (ChangeSpec.witness_shaped (enc := enc) (C := Tryd.checked) (os := os) (X := fun w _ => laidMetH Tryd.prog theList w) false (World.laidAll Tryd.prog os theList) #[.slice none 0 0] 8 (World.laidAll_os _ _ _) (World.shaped_of_ZipB (by kernel_rfl) (by kernel_rfl)) (by kernel_rfl) (by kernel_rfl) (by kernel_rfl) (door_met os _)) ?_
  intro W base args ds gs before hval0 hW _ hsz0 hL _
  have hsz : (DataW.weightsEach Tryd.prog (Tryd.f7.params.toList ++ Rows.cellsBackSpec.plain.varTypes Tryd.prog) (ds ++ gs)).all (· ≤ reachBytes) = true := hsz0
  clear hsz0
  have hval : ∀ (j : Nat) t v, Tryd.f7.params[j]? = some t → args[j]? = some v → Value.okWide Tryd.prog W .any base t v := hval0
  have hW' := hW
  obtain ⟨p, q, hA0, hV, rfl, hfz, hnd⟩ := hW
  have hA : DataW.TrodAll enc Tryd.prog W 0 (fun _ => true) true Tryd.f7.params.toList args.toList ds p := hA0
  rw [Tryd.params7] at hA hval hsz
  obtain ⟨v0, vs0, d0, ds0, p0, q0, hargs, rfl, rfl, h0, r0⟩ := trodAll_cons hA
  obtain ⟨rfl, rfl, rfl⟩ := trodAll_nil r0
  obtain rfl : args = #[v0] := by cases args; simp_all
  obtain ⟨rfl, rfl⟩ := trodVars_none hV
  simp only [List.append_nil] at hW'
  have h0k := h0
  have hlt0 : ∀ x ∈ p0, x.block < W.heap.size := fun x hx => by simpa using hW'.lt x (by simp [hx])
  obtain ⟨S0, is0⟩ := open_syms (hval 0 24 v0 rfl rfl) h0
  clear hA0 hval0
  refine (walk W (Good.of_laid hL) _ S0 is0).mono fun e W' ⟨he, hnx⟩ => ?_
  subst he
  refine ⟨_, rfl, _, _, _, [], (p0 ++ []), [], hW', ?_, ?_, rfl, Below.frame hnx _, fun h => by cases h⟩
  · exact (trodAll_cons_mk (shut_bool Tryd.underlying4 _) trodAll_mk0)
  · exact (trodAll_cons_mk (Below.trod laidOut (by kernel_rfl) (of_decide_eq_true (by kernel_rfl)) h0k hnx hlt0) trodAll_mk0)

theorem over : Rows.cellsBackRow.holds Tryd.pinned (OpenSpec.ofChange Rows.cellsBackSpec) :=
  OpenClaim.holds_of_wide 7 Tryd.f7 rfl rfl rfl rfl rfl rfl rfl ⟨rfl, rfl, rfl, rfl, rfl⟩ rfl rfl rfl rfl rfl (by kernel_rfl) Tryd.func7 (by kernel_rfl)
    (of_decide_eq_true (by kernel_rfl)) (by unfold Func.isWrapper; first | (rw [if_pos (by decide +kernel)]; kernel_rfl) | (rw [if_neg (by decide +kernel)]; exact ⟨rfl, rfl⟩))
    (fun os started H enc _ => lifted os started H enc)

end Go.Proofs.YtgkdejldpldkiaaDoor.cellsBack

namespace Go.Proofs.YtgkdejldpldkiaaDoor
open Go
/-- The statement: the row, with its listed variables tied to the program's text. -/
theorem cellsBack_holds : Rows.CellsBackCardSaid :=
  Claim7.holds_tied_plain_at .later [] [.data, .data, .data, .data, .pinned] true Rows.cellsBackCard.stood.harness true
    cellsBack.over (fun _ h => by cases h) (by kernel_rfl) (fun _ h => by cases h) cellsBack_row_tie rfl ⟨rfl, rfl⟩ (by kernel_rfl) rfl
    (fun f fn hf hfn => by
      obtain rfl : f = 7 := Option.some.inj ((show Tryd.prog.funcNamed Rows.cellsBackRow.func = some 7 by kernel_rfl).symm.trans hf) |>.symm
      obtain rfl : fn = Tryd.f7 := (Option.some.inj (Tryd.func7.symm.trans hfn)).symm
      exact ⟨by kernel_rfl, fun j t ht => by
        rw [Tryd.params7] at ht
        have hm : t ∈ [24] := by simpa using Array.mem_of_getElem? ht
        have hall : ([24].all fun u => !Tryd.prog.wantsStandIn u) = true := by kernel_rfl
        exact (show Tryd.prog.wantsStandIn t = false by simpa using List.all_eq_true.1 hall t hm)⟩)
    (by kernel_rfl)
#print axioms cellsBack_holds
end Go.Proofs.YtgkdejldpldkiaaDoor
