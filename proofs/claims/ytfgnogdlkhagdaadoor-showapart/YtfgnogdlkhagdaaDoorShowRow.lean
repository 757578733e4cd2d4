/-
  The row of the symbols' names that show and the document's own text make. Conditions: the symbols stand in memory.
-/
import Derived.Test.YtfgnogdlkhagdaaDoorShowPlain
import Derived.Test.YtfgnogdlkhagdaaDoorJi
import Derived.Test.YtfgnogdlkhagdaaDoorJl
namespace Go.Proofs.YtfgnogdlkhagdaaDoor
open Go.RowKit
set_option linter.unusedVariables false
set_option linter.unusedSimpArgs false

theorem infoStr : (Tryd.prog.info? 9).map (fun i => (i.zero, i.size, i.bytes)) = some (some (.string ⟨#[]⟩), 1, 16) := by kernel_rfl

theorem names_take {S : Syms} {i : Nat} {s : Sym} {L : List Int} (h : S[i]? = some (s, L)) : (namesOf (S.take (i + 1))).map Value.string = (namesOf (S.take i)).map Value.string ++ [.string s.name] := by
  rw [names_next h]
  simp

/-- A row of texts of the call's own. -/
def OwnNames (w : World) (base : Nat) (v : Value) (N : List ByteArray) : Prop := w.ownsRow base 9 1 v N.length (N.map Value.string)

theorem OwnNames.row {w : World} {base : Nat} {v : Value} {N : List ByteArray} (h : OwnNames w base v N) : ∃ a cap, v = .slice a N.length cap ∧ CRow w a (N.map Value.string) :=
  crow_of_owns (by simp) h
theorem OwnNames.crow {w : World} {base : Nat} {a : Option Addr} {n cap : Nat} {N : List ByteArray} (h : OwnNames w base (.slice a n cap) N) : CRow w a (N.map Value.string) := by
  obtain ⟨a', cap', e, hr⟩ := h.row
  cases e
  exact hr

theorem owns_base {w : World} {base base' : Nat} {e : TypeId} {sz : Nat} {v : Value} {n : Nat} {xs : List Value} (ho : w.ownsRow base e sz v n xs) (h : base' ≤ base) : w.ownsRow base' e sz v n xs := by
  obtain ⟨h3, h4 | ⟨g, cap, cur, h5, h6, h7⟩⟩ := ho
  · exact ⟨h3, Or.inl h4⟩
  · exact ⟨h3, Or.inr ⟨g, cap, cur, h5, Nat.le_trans h h6, h7⟩⟩

set_option maxRecDepth 1000000 in
set_option maxHeartbeats 4000000 in
theorem symNames_any (u : Value) (S : Syms) (hf : S.length ≤ 1000) (w : World) (hS : SymRow w u S) :
    Calls Tryd.prog 61 #[u] w fun e w' => ∃ v, e = .returned v ∧ OwnNames w' w.heap.size v (namesOf S) ∧ Later w w' := by
  obtain ⟨p, cap, rfl, h1, h2⟩ := hS.slice
  obtain ⟨i0, hi, hz0, hz1, hz2⟩ := info_parts infoStr
  unfold maxLen at h2
  have HS : Hid (SymRow w (.slice p S.length cap) S) := hS
  clear hS
  go_enter Tryd.func61, Tryd.ntmps61
  go_wp2
  go_loopw [3, 8] (fun vo vi wr => ∃ (i : Nat) (op : Option Addr) (oc : Nat), vo = .slice op i oc ∧ vi = .int .i64 (i : Nat) ∧ i ≤ S.length ∧ Hid (Later w wr ∧ wr.ownsRow w.heap.size 9 1 (.slice op i oc) i ((namesOf (S.take i)).map Value.string))) (fun _ vi _ => S.length - (intOf vi).toNat)
  case atStart => exact ⟨0, none, 0, rfl, rfl, by omega, Later.refl _, rfl, Or.inl ⟨rfl, rfl⟩⟩
  case round =>
    obtain ⟨i, op, oc, rfl, rfl, hi8, hrr⟩ := hrel
    obtain ⟨Lr, Or⟩ := hrr.out
    by_cases h8 : i < S.length
    · obtain ⟨⟨s, L⟩, ht⟩ : ∃ t, S[i]? = some t := ⟨_, List.getElem?_eq_getElem h8⟩
      obtain ⟨g, o, rfl, hsz, -, hin, b0, b1, b2⟩ := (SymRow.kept HS.out Lr.kept).get ht
      have HT : Hid (S[i]? = some (s, L)) := ht
      obtain ⟨name, size, init⟩ := s
      dsimp only at hsz hin b0 b1 b2
      unfold maxLen at hsz
      obtain ⟨q, dap, hlb, hld, hdm⟩ := RowIn.slice hin
      subst hlb
      have HO : Hid (wr.ownsRow w.heap.size 9 1 (.slice op i oc) i ((namesOf (S.take i)).map Value.string)) := Or
      have LB := Later.alloc (Later.refl wr) (.cells #[.string name, .int .i64 size, .slice q L.length dap] 57)
      have HX := at_new wr (.cells #[.string name, .int .i64 size, .slice q L.length dap] 57)
      have hzw := Lr.size
      clear ht hin Or hrr
      go_upto_region 5 with (fail)
      obtain ⟨d0, d1, d2, -⟩ := box3_facts HX
      have OX : Hid ((wr.alloc (.cells #[.string name, .int .i64 size, .slice q L.length dap] 57)).ownsRow w.heap.size 9 1 (.slice op i oc) i ((namesOf (S.take i)).map Value.string)) := ownsC_later HO.out LB
      have LX := Lr.trans LB
      have hsx := LX.size
      generalize wr.alloc (.cells #[.string name, .int .i64 size, .slice q L.length dap] 57) = X at *
      clear HO HX LB b0 b1 b2
      go_wp2_with (at_builtin; refine wpList_append_own _ rfl _ _ 52 rfl w.heap.size 9 i0 (.string ⟨#[]⟩) 1 16 Tryd.underlying52 hi hz0 hz1 hz2 rfl (by decide) _ _ _ rfl (OX.out.alloc _) ⟨X.heap.size, 0, none⟩ 1 1 [.string name] rfl rfl (news_at _ _ _) (fun u hu => by simp at hu; subst hu; rfl) (by unfold maxLen; omega) (by omega) (by simp; omega) ?_; intro v3 w3 hown3 hgrow3 hnil3; obtain ⟨p5, q5, rfl⟩ := owns_slice hown3; have X5 := after_app LX (Nat.le_refl _) OX.out hgrow3 hown3; clear hown3 hgrow3 hnil3)
      go_roundw
      case rel => exact ⟨i + 1, _, _, rfl, by go_num, by omega, X5.out.2.1, by rw [names_take HT.out]; exact X5.out.1⟩
      case measure => simp [intOf]; omega
    · obtain rfl : i = S.length := by omega
      rw [List.take_length] at Or
      go_wp2
      go_ret
      exact ⟨_, rfl, by unfold OwnNames; rw [show (namesOf S).length = S.length by simp [namesOf]]; exact Or, Lr⟩

set_option maxRecDepth 1000000 in
set_option maxHeartbeats 4000000 in
theorem refSymNames_any (u v : Value) (hv : ∃ p n c, v = .slice p n c) (S : Syms) (hf : S.length ≤ 1000) (w : World) (hS : SymRow w u S) :
    Calls Tryd.prog 28 #[.agg #[u, v]] w fun e w' => ∃ v, e = .returned v ∧ OwnNames w' w.heap.size v (namesOf S) ∧ Later w w' := by
  obtain ⟨p, cap, rfl, h1, h2⟩ := hS.slice
  obtain ⟨p', n', cap', rfl⟩ := hv
  obtain ⟨i0, hi, hz0, hz1, hz2⟩ := info_parts infoStr
  unfold maxLen at h2
  have HS : Hid (SymRow w (.slice p S.length cap) S) := hS
  have LL := Later.alloc (Later.refl w) (.cells #[.slice p S.length cap, .slice p' n' cap'] 28)
  have HB := at_new w (.cells #[.slice p S.length cap, .slice p' n' cap'] 28)
  clear hS
  go_enter Tryd.func28, Tryd.ntmps28
  go_upto_region 1 with (fail)
  have hsz0 : w.heap.size < (w.alloc (.cells #[.slice p S.length cap, .slice p' n' cap'] 28)).heap.size := by simp
  generalize w.alloc (.cells #[.slice p S.length cap, .slice p' n' cap'] 28) = W at *
  obtain ⟨e0, e1, -⟩ := box2_facts HB
  go_wp2
  go_loopw [3, 4] (fun vo vi wr => ∃ (i : Nat) (op : Option Addr) (oc : Nat), vo = .slice op i oc ∧ vi = .int .i64 (i : Nat) ∧ i ≤ S.length ∧ Hid (Later W wr ∧ wr.ownsRow W.heap.size 9 1 (.slice op i oc) i ((namesOf (S.take i)).map Value.string))) (fun _ vi _ => S.length - (intOf vi).toNat)
  case atStart => exact ⟨0, none, 0, rfl, rfl, by omega, Later.refl _, rfl, Or.inl ⟨rfl, rfl⟩⟩
  case round =>
    obtain ⟨i, op, oc, rfl, rfl, hi8, hrr⟩ := hrel
    obtain ⟨Lr, Or⟩ := hrr.out
    have f0 := cell_later e0 Lr
    have f1 := cell_later e1 Lr
    by_cases h8 : i < S.length
    · obtain ⟨⟨s, L⟩, ht⟩ : ∃ t, S[i]? = some t := ⟨_, List.getElem?_eq_getElem h8⟩
      obtain ⟨g, o, rfl, hsz, -, hin, b0, b1, b2⟩ := (SymRow.kept HS.out (LL.trans Lr).kept).get ht
      have HT : Hid (S[i]? = some (s, L)) := ht
      obtain ⟨name, size, init⟩ := s
      dsimp only at hsz hin b0 b1 b2
      unfold maxLen at hsz
      have OX : Hid (wr.ownsRow W.heap.size 9 1 (.slice op i oc) i ((namesOf (S.take i)).map Value.string)) := Or
      have hsx := Lr.size
      clear ht hin Or hrr b1 b2
      go_wp2_with (at_builtin; refine wpList_append_own _ rfl _ _ 52 rfl W.heap.size 9 i0 (.string ⟨#[]⟩) 1 16 Tryd.underlying52 hi hz0 hz1 hz2 rfl (by decide) _ _ _ rfl (OX.out.alloc _) ⟨wr.heap.size, 0, none⟩ 1 1 [.string name] rfl rfl (news_at _ _ _) (fun u hu => by simp at hu; subst hu; rfl) (by unfold maxLen; omega) (by omega) (by simp; omega) ?_; intro v3 w3 hown3 hgrow3 hnil3; obtain ⟨p5, q5, rfl⟩ := owns_slice hown3; have X5 := after_app Lr (Nat.le_refl _) OX.out hgrow3 hown3; clear hown3 hgrow3 hnil3)
      go_roundw
      case rel => exact ⟨i + 1, _, _, rfl, by go_num, by omega, X5.out.2.1, by rw [names_take HT.out]; exact X5.out.1⟩
      case measure => simp [intOf]; omega
    · obtain rfl : i = S.length := by omega
      rw [List.take_length] at Or
      go_wp2
      go_ret
      refine ⟨_, rfl, ?_, LL.trans Lr⟩
      unfold OwnNames
      rw [show (namesOf S).length = S.length by simp [namesOf]]
      exact owns_base Or (Nat.le_of_lt hsz0)

end Go.Proofs.YtfgnogdlkhagdaaDoor
