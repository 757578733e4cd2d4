/-
  That palinglaw9.ShowLines returns true for every list of acts. Conditions: as the card names them.
-/
import Derived.Test.YtmmimlpgpionnaaDoorRows
import Derived.Test.YtmmimlpgpionnaaDoorCards
import Derived.Test.YtmmimlpgpionnaaDoorTie
import Derived.Test.YtmmimlpgpionnaaDoorShowLaid
import Derived.Test.YtmmimlpgpionnaaDoorJh
import Derived.Test.YtmmimlpgpionnaaDoorOpensActs
import Derived.Test.YtmmimlpgpionnaaDoorShowAlive
import Derived.Test.YtmmimlpgpionnaaDoorShowCount
import Derived.Test.YtmmimlpgpionnaaDoorBookProg
import Derived.Test.YtmmimlpgpionnaaDoorMadeRow
import Derived.WalkKit
import Derived.ProofKit
import Derived.OpenShut
import Derived.SizedLaws
import Derived.ShutString
import Derived.Carry
import Derived.Stop.Joined
import Derived.SevenTiedAt
namespace Go.Proofs.YtmmimlpgpionnaaDoor.showLines
open Go.ChangeShapes Go.WideShapes Go.ChangeAt Go.RowKit
open Go.ChangeMaps (open_string shut_string)
set_option linter.unusedVariables false
set_option linter.unusedSimpArgs false

theorem own : ownKnob Tryd.prog.godebug = none := by kernel_rfl
theorem laidOut : laidOutB Tryd.prog = true := by kernel_rfl

theorem linesP_next {P : List Thr} {t : Nat} {T : Thr} (h : P[t]? = some T) : linesP (P.take (t + 1)) = linesP (P.take t) + linesT T := by
  unfold linesP
  rw [List.take_add_one, h]
  simp
theorem linesT_next {T : Thr} {i : Nat} {x : Ins} {L : List ByteArray} (h : T[i]? = some (x, L)) : linesT (T.take (i + 1)) = linesT (T.take i) + (1 + L.length) := by
  unfold linesT
  rw [List.take_add_one, h]
  simp
theorem linesP_le (P : List Thr) (t : Nat) : linesP (P.take t) ≤ linesP P := by
  unfold linesP
  conv => rhs; rw [← List.take_append_drop t P]
  rw [List.map_append, List.sum_append]
  omega
theorem linesT_le (T : Thr) (i : Nat) : linesT (T.take i) ≤ linesT T := by
  unfold linesT
  conv => rhs; rw [← List.take_append_drop i T]
  rw [List.map_append, List.sum_append]
  omega
theorem count_next {l : List UInt8} {i : Nat} {b : UInt8} (h : l[i]? = some b) : (l.take (i + 1)).count 10 = (l.take i).count 10 + (if b = 10 then 1 else 0) := by
  rw [List.take_add_one, h, List.count_append]
  by_cases hb : b = 10
  · subst hb; simp
  · rw [if_neg hb]
    simp [List.count_cons, hb]
theorem count_le (l : List UInt8) (i : Nat) : (l.take i).count 10 ≤ l.length := by
  have := List.count_le_length (a := (10 : UInt8)) (l := l.take i)
  rw [List.length_take] at this
  omega
theorem byte_at {X : ByteArray} {i : Nat} (h : i < X.size) : X.data.toList[i]? = some X[i] := by
  rw [List.getElem?_eq_getElem (by rw [bytes_size]; exact h)]
  rfl
theorem ten_iff (b : UInt8) : ((b.toNat : Int) == 10) = decide (b = 10) := by
  rw [Bool.eq_iff_iff]
  simp only [beq_iff_eq, decide_eq_true_eq]
  constructor
  · intro h
    apply UInt8.toNat_inj.1
    show b.toNat = 10
    omega
  · rintro rfl
    rfl
theorem last_ten {X : ByteArray} (h : EndsLn X.data.toList) : ∃ n, ∃ hn : n < X.size, X.size = n + 1 ∧ X[n] = 10 := by
  unfold EndsLn at h
  rw [List.getLast?_eq_getElem?] at h
  have hlt := (List.getElem?_eq_some_iff.1 h).1
  rw [bytes_size] at hlt h
  refine ⟨X.size - 1, hlt, by omega, ?_⟩
  rw [byte_at hlt] at h
  exact Option.some.inj h

set_option maxRecDepth 1000000 in
set_option maxHeartbeats 4000000 in
theorem walk (w : World) (g : Good w) (v : Value) (l : List (List Act5)) (ia : ActsRow w v l) :
    Calls Tryd.prog 3 #[v] w fun e w' => e = .returned (.bool true) ∧ Later w w' := by
  have cB := bookProg_any v l 3 8 (by omega) (by omega) w ia
  rw [show ((3 : Nat) : Int) = 3 from rfl, show ((8 : Nat) : Int) = 8 from rfl] at cB
  have cA := fun w' h => showAlive_any w' h
  have HG : Hid (Good w) := g
  clear ia g
  go_enter Tryd.func3, Tryd.ntmps3
  go_upto_region 2 with (go_at_call 5; apply Calls.mono; (focus (with_reducible (exact cB))); rintro e w1 ⟨tv, vs, P, rfl, hl1, hx, hw1, hm⟩; obtain ⟨q0, q1, rfl⟩ := owns_slice hw1)
  have htl : min l.length 3 ≤ l.length := Nat.min_le_left _ _
  have ht3 : min l.length 3 ≤ 3 := Nat.min_le_right _ _
  have hf := (made_valid (b := w.heap.size) (by omega) (by omega) htl hm).2
  have hsm := made_small (b := w.heap.size) (by omega) (by omega) htl hm
  have hlen := progL_length hsm
  obtain ⟨htx, hte⟩ := made_text (b := w.heap.size) (by omega) (by omega) htl hm
  have hpl := hm.plen
  have hsum : linesP P ≤ 66 * 700 := by
    have h1 : ∀ T ∈ P, linesT T ≤ 700 := fun T hT => by
      have h2 : ∀ U : Thr, (∀ x ∈ U, x.2.length ≤ 6) → linesT U ≤ U.length * 7 := by
        intro U
        induction U with
        | nil => intro _; exact Nat.le_refl _
        | cons x r ih =>
          intro hU
          have h3 := hU x (List.mem_cons_self ..)
          have h4 := ih (fun y hy => hU y (List.mem_cons_of_mem _ hy))
          unfold linesT at *
          rw [List.map_cons, List.sum_cons, List.length_cons]
          omega
      have := h2 T (hsm.labs T hT)
      have := hsm.inss T hT
      omega
    have h5 : ∀ Q : List Thr, (∀ T ∈ Q, linesT T ≤ 700) → linesP Q ≤ Q.length * 700 := by
      intro Q
      induction Q with
      | nil => intro _; exact Nat.le_refl _
      | cons x r ih =>
        intro hU
        have h3 := hU x (List.mem_cons_self ..)
        have h4 := ih (fun y hy => hU y (List.mem_cons_of_mem _ hy))
        unfold linesP at *
        rw [List.map_cons, List.sum_cons, List.length_cons]
        omega
    have := h5 P h1
    have := hsm.thrs
    omega
  have LB := Later.alloc hl1 (.cells #[.slice (some ⟨w.heap.size + 1 + 1 + 1, 0, none⟩) 3 3, .slice q0 (min l.length 3) q1] 26)
  have LC := Later.alloc (Later.refl w1) (.cells #[.slice (some ⟨w.heap.size + 1 + 1 + 1, 0, none⟩) 3 3, .slice q0 (min l.length 3) q1] 26)
  have HB := at_new w1 (.cells #[.slice (some ⟨w.heap.size + 1 + 1 + 1, 0, none⟩) 3 3, .slice q0 (min l.length 3) q1] 26)
  have is := SymRow.kept hx.row LC.kept
  have it := ThrRow.kept (made_row htl hw1 hm) LC.kept
  generalize xyz w.heap.size = S at *
  have cP := fun w' h h' h'' => showProg_any (.slice (some ⟨w.heap.size + 1 + 1 + 1, 0, none⟩) 3 3) (.slice q0 (min l.length 3) q1) S P w' h h' h'' hf hlen
  generalize w1.alloc (.cells #[.slice (some ⟨w.heap.size + 1 + 1 + 1, 0, none⟩) 3 3, .slice q0 (min l.length 3) q1] 26) = W at *
  have hX1 : (⟨(progL S P).toArray⟩ : ByteArray).data.toList = progL S P := by simp
  rw [← hX1] at htx hte hlen
  have hsz : (⟨(progL S P).toArray⟩ : ByteArray).size ≤ 10000000 := by rw [← bytes_size]; exact hlen
  clear hlen hX1
  generalize (⟨(progL S P).toArray⟩ : ByteArray) = X at *
  obtain ⟨n, hn, hXn, hXl⟩ := last_ten hte
  obtain ⟨b0, b1, -⟩ := box2_facts HB
  have hP66 := hsm.thrs
  rw [← hpl] at *
  clear hx hw1 hm hf hsm hte hpl htl ht3 cB LC
  generalize w1.heap.size = C at *
  generalize w.heap.size + 1 + 1 + 1 = sb at *
  go_upto_region 3 with (go_at_call 6; apply Calls.mono; (focus (with_reducible (exact cP _ (HG.out.later LB) is it))); rintro e W2 ⟨rfl, hl2⟩)
  have LW := LB.trans hl2
  replace it := ThrRow.kept it hl2.kept
  obtain ⟨e0, e1, -⟩ := box2_facts (heap_later hl2 HB)
  have HIT : Hid (ThrRow W2 (.slice q0 P.length q1) P) := it
  have HTX : Hid (List.count 10 X.data.toList = 3 + P.length + linesP P) := htx
  have HXN : Hid (X.size = n + 1) := hXn
  have HXL : Hid (∀ h : n < X.size, X[n] = 10) := fun _ => hXl
  have hpos : 0 < X.size := by omega
  clear b0 b1 hl2 LB is it cP HB htx hl1 hXl hXn hn
  go_wp2
  go_loopw [5, 6] (fun v5 v6 wr => ∃ (m t : Nat), v5 = .int .i64 (m : Nat) ∧ v6 = .int .i64 (t : Nat) ∧ t ≤ P.length ∧ wr = W2 ∧ Hid (m = 3 + P.length + linesP (P.take t))) (fun _ v6 _ => P.length - (intOf v6).toNat)
  case atStart => exact ⟨3 + P.length, 0, by go_num, rfl, by omega, rfl, by show _ = _; simp [linesP]⟩
  case round =>
    obtain ⟨m, t, rfl, rfl, ht, rfl, hM⟩ := hrel
    by_cases h8 : t < P.length
    · obtain ⟨T, hT⟩ : ∃ T, P[t]? = some T := ⟨_, List.getElem?_eq_getElem h8⟩
      obtain ⟨g, o, vt, rfl, hrow, c0⟩ := ThrRow.get HIT.out hT
      obtain ⟨p, cap, rfl, h1, h2⟩ := RowIn.slice hrow
      unfold maxLen at h2
      have e3 := linesP_next hT
      have e4 := linesP_le P (t + 1)
      have HR : Hid (InsRow wr (.slice p T.length cap) T) := hrow
      have hM' := hM.out
      have HE : Hid (linesP (P.take (t + 1)) = linesP (P.take t) + linesT T) := e3
      have hbd : m + linesT T ≤ 50000 := by omega
      clear hT hrow e3 e4 hM'
      go_wp2
      go_loopw [5, 7] (fun v5 v7 wy => ∃ (m' i : Nat), v5 = .int .i64 (m' : Nat) ∧ v7 = .int .i64 (i : Nat) ∧ i ≤ T.length ∧ wy = wr ∧ Hid (m' = m + linesT (T.take i))) (fun _ v7 _ => T.length - (intOf v7).toNat)
      case atStart => exact ⟨m, 0, rfl, rfl, by omega, rfl, by show _ = _; simp [linesT]⟩
      case round =>
        obtain ⟨m', i, rfl, rfl, hi, hwy, hM'⟩ := hrel
        subst hwy
        by_cases h9 : i < T.length
        · obtain ⟨⟨x, L⟩, hx⟩ : ∃ x, T[i]? = some x := ⟨_, List.getElem?_eq_getElem h9⟩
          obtain ⟨g1, o1, rfl, -, ⟨lp, lc, hlv, hl1, hl2, -⟩, d0, d1, d2, d3, d4, d5, d6, d7, d8, d9, d10, d11, d12⟩ := InsRow.get HR.out hx
          rw [hlv] at d12
          unfold maxLen at hl2
          have e5 := linesT_next hx
          have e6 := linesT_le T (i + 1)
          have hMo := hM'.out
          have HE5 : Hid (linesT (T.take (i + 1)) = linesT (T.take i) + (1 + L.length)) := e5
          have hb2 : m' + (1 + L.length) ≤ 50000 := by omega
          clear hx e5 e6 hMo d0 d1 d2 d3 d4 d5 d6 d7 d8 d9 d10 d11 hlv
          go_wp2
          go_roundw
          case rel => exact ⟨m' + (1 + L.length), i + 1, by go_num, by go_num, by omega, by first | rfl | trivial, by show _ = _; rw [hM'.out, HE5.out]; omega⟩
          case measure => simp [intOf]; omega
        · obtain rfl : i = T.length := by omega
          have hMo := hM'.out
          rw [List.take_length] at hMo
          have HMO : Hid (m' = m + linesT T) := hMo
          clear hMo
          go_wp2
          go_roundw
          case rel => exact ⟨m', t + 1, rfl, by go_num, by omega, by first | rfl | trivial, by show _ = _; rw [HMO.out, hM.out, HE.out]; omega⟩
          case measure => simp [intOf]; omega
    · obtain rfl : t = P.length := by omega
      have hMo := hM.out
      rw [List.take_length] at hMo
      have HMO : Hid (m = 3 + P.length + linesP P) := hMo
      have hbm : m ≤ 50000 := by omega
      clear hMo hM
      go_wp2
      go_loopw [8, 9] (fun v8 v9 wy => ∃ (c i : Nat), v8 = .int .i64 (c : Nat) ∧ v9 = .int .i64 (i : Nat) ∧ i ≤ X.size ∧ wy = wr ∧ c ≤ 10000000 ∧ Hid (c = (X.data.toList.take i).count 10)) (fun _ v9 _ => X.size - (intOf v9).toNat)
      case atStart => exact ⟨0, 0, rfl, rfl, by omega, rfl, by omega, by show _ = _; simp⟩
      case round =>
        obtain ⟨c, i, rfl, rfl, hi, hwy, hcb, hC⟩ := hrel
        subst hwy
        by_cases h9 : i < X.size
        · have e5 := count_next (byte_at h9)
          have e6 := count_le X.data.toList (i + 1)
          rw [bytes_size] at e6
          have hT := ten_iff X[i]
          have hCo := hC.out
          by_cases hb : X[i] = 10
          · rw [if_pos hb] at e5
            rw [decide_eq_true hb] at hT
            have HE : Hid ((X.data.toList.take (i + 1)).count 10 = (X.data.toList.take i).count 10 + 1) := e5
            have hc2 : c + 1 ≤ 10000000 := by omega
            clear e5 e6 hCo hb
            go_wp2
            go_roundw
            case rel => exact ⟨c + 1, i + 1, by go_num, by go_num, by omega, by first | rfl | trivial, by omega, by show _ = _; rw [HE.out, ← hC.out]⟩
            case measure => simp [intOf]; omega
          · rw [if_neg hb] at e5
            rw [decide_eq_false hb] at hT
            have HE : Hid ((X.data.toList.take (i + 1)).count 10 = (X.data.toList.take i).count 10) := e5
            clear e5 e6 hCo hb
            go_wp2
            go_roundw
            case rel => exact ⟨c, i + 1, rfl, by go_num, by omega, by first | rfl | trivial, by omega, by show _ = _; rw [HE.out, ← hC.out]⟩
            case measure => simp [intOf]; omega
        · obtain rfl : i = X.size := by omega
          have hCo := hC.out
          rw [show X.data.toList.take X.size = X.data.toList by rw [← bytes_size, List.take_length], HTX.out, ← HMO.out] at hCo
          subst hCo
          have hlast : (X[X.size - 1]'(by omega)).toNat = 10 := by
            have h1 := HXN.out
            have h2 : X[X.size - 1]'(by omega) = 10 := by
              have h3 := HXL.out (by omega)
              have h4 : X.size - 1 = n := by omega
              simp only [h4]
              exact h3
            rw [h2]
            rfl
          have hl2 : (((X[X.size - 1]'(by omega)).toNat : Int) == 10) = true := by rw [hlast]; rfl
          clear hC HTX HMO HXL HXN
          go_wp2_with (go_at_call 7; apply Calls.mono; (focus (with_reducible (exact cA _ (HG.out.later LW)))); rintro e w5 ⟨rfl, hl5⟩)
          go_ret
          exact ⟨rfl, LW.trans hl5⟩

set_option maxRecDepth 100000 in
theorem lifted (os : Os) (started : os.Started) (H : Type) (enc : TypeId × Value → H) :
    ReturnsInHanded {} Tryd.checked os 3 .any (fun w args => (Rows.showLinesSpec.pre enc Tryd.prog Tryd.f3 [] false w args ∧ laidMetH Tryd.prog theList w) ∧ sizedMet enc Tryd.prog Tryd.f3 (OpenSpec.ofChange Rows.showLinesSpec) false w args)
      (Rows.showLinesSpec.post enc Tryd.prog Tryd.f3 false true false false) := by
  refine returnsInHanded_of_change_and (C := Tryd.checked) (X := fun w _ => laidMetH Tryd.prog theList w) (fun _ _ _ hh h => h.of_heap hh) own started (by kernel_rfl) Tryd.func3
    (ChangeSpec.witness_shaped (enc := enc) (C := Tryd.checked) (os := os) (X := fun w _ => laidMetH Tryd.prog theList w) false (World.laidAll Tryd.prog os theList) #[.slice none 0 0] 8 (World.laidAll_os _ _ _) (World.shaped_of_ZipB (by kernel_rfl) (by kernel_rfl)) (by kernel_rfl) (by kernel_rfl) (by kernel_rfl) (door_met os _)) ?_
  intro W base args ds gs before hval0 hW _ hsz0 hL _
  have hsz : (DataW.weightsEach Tryd.prog (Tryd.f3.params.toList ++ Rows.showLinesSpec.plain.varTypes Tryd.prog) (ds ++ gs)).all (· ≤ reachBytes) = true := hsz0
  clear hsz0
  have hval : ∀ (j : Nat) t v, Tryd.f3.params[j]? = some t → args[j]? = some v → Value.okWide Tryd.prog W .any base t v := hval0
  have hW' := hW
  obtain ⟨p, q, hA0, hV, rfl, hfz, hnd⟩ := hW
  have hA : DataW.TrodAll enc Tryd.prog W 0 (fun _ => true) true Tryd.f3.params.toList args.toList ds p := hA0
  rw [Tryd.params3] at hA hval hsz
  obtain ⟨v0, vs0, d0, ds0, p0, q0, hargs, rfl, rfl, h0, r0⟩ := trodAll_cons hA
  obtain ⟨rfl, rfl, rfl⟩ := trodAll_nil r0
  obtain rfl : args = #[v0] := by cases args; simp_all
  obtain ⟨rfl, rfl⟩ := trodVars_none hV
  simp only [List.append_nil] at hW'
  have h0k := h0
  have hlt0 : ∀ x ∈ p0, x.block < W.heap.size := fun x hx => by simpa using hW'.lt x (by simp [hx])
  obtain ⟨l0, ia0⟩ := open_acts (hval 0 22 v0 rfl rfl) h0
  clear hA0 hval0
  refine (walk W (Good.of_laid hL) _ l0 ia0).mono fun e W' ⟨he, hnx⟩ => ?_
  subst he
  refine ⟨_, rfl, _, _, _, [], (p0 ++ []), [], hW', ?_, ?_, rfl, Below.frame hnx _, fun h => by cases h⟩
  · exact (trodAll_cons_mk (shut_bool Tryd.underlying4 _) trodAll_mk0)
  · exact (trodAll_cons_mk (Below.trod laidOut (by kernel_rfl) (of_decide_eq_true (by kernel_rfl)) h0k hnx hlt0) trodAll_mk0)

theorem over : Rows.showLinesRow.holds Tryd.pinned (OpenSpec.ofChange Rows.showLinesSpec) :=
  OpenClaim.holds_of_wide 3 Tryd.f3 rfl rfl rfl rfl rfl rfl rfl ⟨rfl, rfl, rfl, rfl, rfl⟩ rfl rfl rfl rfl rfl (by kernel_rfl) Tryd.func3 (by kernel_rfl)
    (of_decide_eq_true (by kernel_rfl)) (by unfold Func.isWrapper; first | (rw [if_pos (by decide +kernel)]; kernel_rfl) | (rw [if_neg (by decide +kernel)]; exact ⟨rfl, rfl⟩))
    (fun os started H enc _ => lifted os started H enc)

end Go.Proofs.YtmmimlpgpionnaaDoor.showLines

namespace Go.Proofs.YtmmimlpgpionnaaDoor
open Go
/-- The statement: the row, with its listed variables tied to the program's text. -/
theorem showLines_holds : Rows.ShowLinesCardSaid :=
  Claim7.holds_tied_plain_at .later [] [.data, .data, .data, .data, .data, .data, .data, .pinned] true Rows.showLinesCard.stood.harness true
    showLines.over (fun _ h => by cases h) (by kernel_rfl) (fun _ h => by cases h) showLines_row_tie rfl ⟨rfl, rfl⟩ (by kernel_rfl) rfl
    (fun f fn hf hfn => by
      obtain rfl : f = 3 := Option.some.inj ((show Tryd.prog.funcNamed Rows.showLinesRow.func = some 3 by kernel_rfl).symm.trans hf) |>.symm
      obtain rfl : fn = Tryd.f3 := (Option.some.inj (Tryd.func3.symm.trans hfn)).symm
      exact ⟨by kernel_rfl, fun j t ht => by
        rw [Tryd.params3] at ht
        have hm : t ∈ [22] := by simpa using Array.mem_of_getElem? ht
        have hall : ([22].all fun u => !Tryd.prog.wantsStandIn u) = true := by kernel_rfl
        exact (show Tryd.prog.wantsStandIn t = false by simpa using List.all_eq_true.1 hall t hm)⟩)
    (by kernel_rfl)
#print axioms showLines_holds
end Go.Proofs.YtmmimlpgpionnaaDoor
