/-
  What valid's own copy of a list of instructions returns: a row of the call's own, each instruction with labels of its own, all else the same. Nothing that was in memory turns. Conditions: the texts are no longer than 1000, there are no more than a million.
-/
import Derived.Test.YtegogmbcjjjjjaaDoorCloneAll
import Derived.Test.YtegogmbcjjjjjaaDoorOwnThr
import Derived.Test.YtegogmbcjjjjjaaDoorJi
namespace Go.Proofs.YtegogmbcjjjjjaaDoor
open Go.RowKit Go.WideShapes
set_option linter.unusedVariables false
set_option linter.unusedSimpArgs false

/-- A cell of a row of the call's own. -/
theorem owns_cellF {α : Type} {f : α → List Value} {k : Nat} (hk : ∀ x, (f x).length = k) {w : World} {N : Nat} {e : TypeId} {p : Option Addr} {n cap : Nat} {l : List α} (hn : l.length = n) (h : w.ownsRow N e k (.slice p n cap) n (flatC f l)) {i : Nat} {x : α} (hi : l[i]? = some x) (h0 : 0 < k) :
    ∃ g cur, p = some ⟨g, 0, none⟩ ∧ N ≤ g ∧ w.heap[g]? = some (.cells cur e) ∧ ∀ j u, (f x)[j]? = some u → w.cell? ⟨g, i * k + j, none⟩ = some u ∧ w.frozen? ⟨g, i * k + j, none⟩ = false := by
  have hil := (List.getElem?_eq_some_iff.1 hi).1
  obtain ⟨a, cap', hv, hrow⟩ := crow_of_owns (by rw [flatC_length f k hk, hn]) h
  cases hv
  rcases h.2 with ⟨-, hz⟩ | ⟨g, cap', cur, hv, hb, hg, -⟩
  · omega
  · cases hv
    refine ⟨g, cur, rfl, hb, hg, fun j u hj => ⟨CRow.cell hk hrow hi ?_ hj, by simp [World.frozen?, hg]⟩⟩
    have := (List.getElem?_eq_some_iff.1 hj).1
    rw [hk] at this
    exact this

theorem texts_src {w : World} {v : Value} {L : List ByteArray} (h : TextsIn w v L) : Src w v L.length 1 (L.map Value.string) := by
  obtain ⟨p, cap, rfl, -, -, -, h3⟩ := h
  refine ⟨p, cap, rfl, by simp, fun u hu => ?_, fun hp => ?_, fun a ha j u hj => ?_⟩
  · obtain ⟨t, -, rfl⟩ := List.mem_map.1 hu
    rfl
  · subst hp
    rcases L with _ | ⟨a, L⟩
    · rfl
    · obtain ⟨g, o, e, -⟩ := h3 (by simp)
      cases e
  · have hl : L ≠ [] := by rintro rfl; simp at hj
    obtain ⟨g, o, rfl, h4⟩ := h3 hl
    cases ha
    rw [List.getElem?_map, Option.map_eq_some_iff] at hj
    obtain ⟨t, ht, rfl⟩ := hj
    rw [add_plain]
    exact h4 j t ht

theorem ins_src {w : World} {v : Value} {T : Thr} (h : InsRow w v T) : Src w v T.length 13 (flatC insC T) := by
  obtain ⟨p, cap, rfl, -, -⟩ := RowIn.slice h
  refine src_row h insC (by omega) insC_len (fun x hx u hu => ?_) (fun i a cs _ he => he.1)
  obtain ⟨i, hi⟩ := List.getElem?_of_mem hx
  obtain ⟨x, L⟩ := x
  obtain ⟨g, o, -, -, ht, -⟩ := h.get hi
  obtain ⟨q, c, hq, -⟩ := ht
  obtain ⟨op, lock, cond, a, b, dest, lb⟩ := x
  dsimp only at hq
  subst hq
  simp [insC, Ins.cells] at hu
  rcases hu with rfl | rfl | rfl | rfl | rfl | rfl | rfl | rfl | rfl | rfl | rfl | rfl | rfl <;> rfl

theorem label_few {T : Thr} {x : Ins × List ByteArray} (hx : x ∈ T) : x.2.length ≤ (labelsOf T).length := by
  induction T with
  | nil => cases hx
  | cons a r ih =>
    have hd : labelsOf (a :: r) = a.2 ++ labelsOf r := rfl
    rw [hd, List.length_append]
    rcases List.mem_cons.1 hx with rfl | hx
    · omega
    · have := ih hx
      omega

/-- The same instructions, but for where their labels lie. -/
def CopyT (T T' : Thr) : Prop := T'.length = T.length ∧ ∀ (j : Nat) x L, T[j]? = some (x, L) → ∃ lv, T'[j]? = some (withLabels x lv, L)

/-- Behind i of them. -/
structure Half (w : World) (N : Nat) (v : Value) (T T' : Thr) (i : Nat) : Prop where
  row : w.ownsRow N 39 13 v T.length (flatC insC T')
  len : T'.length = T.length
  each : ∀ (j : Nat) x L, T[j]? = some (x, L) → ∃ lv, T'[j]? = some (withLabels x lv, L) ∧ (j < i → OwnTexts w N lv L) ∧ (i ≤ j → lv = x.labels)

theorem withLabels_self (x : Ins) : withLabels x x.labels = x := rfl

theorem Half.start {w : World} {N : Nat} {v : Value} {T : Thr} (h : w.ownsRow N 39 13 v T.length (flatC insC T)) : Half w N v T T 0 :=
  ⟨h, rfl, fun j x L hj => ⟨x.labels, hj, fun h => absurd h (Nat.not_lt_zero _), fun _ => rfl⟩⟩

theorem Half.later {w w' : World} {N : Nat} {v : Value} {T T' : Thr} {i : Nat} (h : Half w N v T T' i) (hl : Later w w') : Half w' N v T T' i :=
  ⟨ownsC_later h.row hl, h.len, fun j x L hj => by
    obtain ⟨lv, h1, h2, h3⟩ := h.each j x L hj
    exact ⟨lv, h1, fun hi => ownsC_later (h2 hi) hl, h3⟩⟩

theorem Half.next {w : World} {N g n cap : Nat} {T T' : Thr} {i : Nat} (h : Half w N (.slice (some ⟨g, 0, none⟩) n cap) T T' i) {x : Ins} {L : List ByteArray} (hi : T[i]? = some (x, L)) {lv : Value} (ho : OwnTexts w N lv L) {cur : Array Value} (hg : w.heap[g]? = some (.cells cur 39)) (hn : T.length = n) :
    Half (w.setCell ⟨g, i * 13 + 12, none⟩ lv) N (.slice (some ⟨g, 0, none⟩) n cap) T (T'.set i (withLabels x lv, L)) (i + 1) := by
  obtain ⟨l0, h1, -, h3⟩ := h.each i x L hi
  have hil := (List.getElem?_eq_some_iff.1 h1).1
  subst hn
  refine ⟨?_, by rw [List.length_set]; exact h.len, fun j y M hj => ?_⟩
  · rw [flatC_set insC 13 insC_len T' i 12 (withLabels x l0, L) (withLabels x lv, L) lv h1 (by omega) rfl]
    exact owns_set_own h.row lv
  · obtain ⟨l1, k1, k2, k3⟩ := h.each j y M hj
    by_cases hji : j = i
    · subst hji
      rw [hi] at hj
      cases hj
      exact ⟨lv, List.getElem?_set_self hil, fun _ => owns_set_other ho hg (fun cs fz e0 => by cases e0) _ _, fun h => absurd h (by omega)⟩
    · refine ⟨l1, by rw [List.getElem?_set_ne (Ne.symm hji)]; exact k1, fun h => owns_set_other (k2 (by omega)) hg (fun cs fz e0 => by cases e0) _ _, fun h => k3 (by omega)⟩

theorem Half.done {w : World} {N : Nat} {v : Value} {T T' : Thr} (h : Half w N v T T' T.length) (hok : ∀ x ∈ T, x.1.Ok) (f : FineT T) : OwnThr w N v T' ∧ CopyT T T' := by
  refine ⟨⟨by rw [h.len]; exact h.row, fun y hy => ?_⟩, h.len, fun j x L hj => ?_⟩
  · obtain ⟨j, hj⟩ := List.getElem?_of_mem hy
    have hjl : j < T.length := by rw [← h.len]; exact (List.getElem?_eq_some_iff.1 hj).1
    obtain ⟨⟨x, L⟩, hx⟩ : ∃ x, T[j]? = some x := ⟨_, List.getElem?_eq_getElem hjl⟩
    obtain ⟨lv, h1, h2, -⟩ := h.each j x L hx
    rw [hj] at h1
    cases h1
    have hm := List.mem_of_getElem? hx
    have ho := hok _ hm
    exact ⟨⟨ho.op, ho.cond, ho.a, ho.b, ho.dest⟩, h2 hjl, fun t ht => f.labels (x, L) hm t ht⟩
  · obtain ⟨lv, h1, -⟩ := h.each j x L hj
    exact ⟨lv, h1⟩

set_option maxRecDepth 1000000 in
set_option maxHeartbeats 4000000 in
theorem copyRow_any (v : Value) (T : Thr) (w : World) (hT : InsRow w v T) (f : FineT T) (hn0 : T.length ≤ 1000000) :
    Calls Tryd.prog 21 #[v] w fun e w' => ∃ v' T', e = .returned v' ∧ OwnThr w' w.heap.size v' T' ∧ CopyT T T' ∧ Later w w' := by
  have cC := cloneCIns_any w v T.length (flatC insC T) (ins_src hT) hn0
  have hok : Hid (∀ x ∈ T, x.1.Ok) := fun x hx => by
    obtain ⟨i, hi⟩ := List.getElem?_of_mem hx
    obtain ⟨p, cap, rfl, -, -⟩ := RowIn.slice hT
    obtain ⟨g, o, -, h1, -⟩ := InsRow.get hT (x := x.1) (L := x.2) hi
    exact h1
  have HT : Hid (InsRow w v T) := hT
  have HF : Hid (FineT T) := f
  clear hT f
  obtain ⟨n, hn⟩ : ∃ n, T.length = n := ⟨_, rfl⟩
  rw [hn] at cC hn0
  go_enter Tryd.func21, Tryd.ntmps21
  go_wp2_with (go_at_call 38; refine cC.mono ?_; rintro e w1 ⟨v1, rfl, ho1, hl1⟩; obtain ⟨p1, q1, rfl⟩ := owns_slice ho1)
  have hH : Half w1 w.heap.size (.slice p1 n q1) T T 0 := Half.start (by rw [hn]; exact ho1)
  clear ho1 cC
  go_loopw [9] (fun vi wr => ∃ (i : Nat) (T' : Thr), vi = .int .i64 (i : Nat) ∧ i ≤ n ∧ Later w wr ∧ Hid (Half wr w.heap.size (.slice p1 n q1) T T' i)) (fun vi _ => n - (intOf vi).toNat)
  case atStart => exact ⟨0, T, rfl, by omega, hl1, hH⟩
  case round =>
    clear hH hl1
    obtain ⟨i, T', rfl, hi, hlw, hH⟩ := hrel
    by_cases h8 : i < n
    · obtain ⟨⟨x, L⟩, hx⟩ : ∃ x, T[i]? = some x := ⟨_, List.getElem?_eq_getElem (by omega)⟩
      obtain ⟨l0, t1, -, t3⟩ := hH.out.each i x L hx
      have ht3 := t3 (Nat.le_refl _)
      subst ht3
      obtain ⟨g, cur, rfl, hg0, hg, hcell⟩ := owns_cellF insC_len (by rw [hH.out.len, hn]) (by have := hH.out.row; rwa [hn] at this) t1 (by omega)
      obtain ⟨c12, f12⟩ := hcell 12 x.labels rfl
      obtain ⟨pT, oT, hT0⟩ : ∃ p cap, InsRow w (.slice p n cap) T := by
        obtain ⟨p, cap, rfl, -, -⟩ := RowIn.slice HT.out
        exact ⟨p, cap, by have := HT.out; rwa [hn] at this⟩
      obtain ⟨-, -, -, -, htx, -⟩ := hT0.get hx
      have hLn : L.length ≤ 1000000 := Nat.le_trans (label_few (List.mem_of_getElem? hx)) HF.out.few
      have cT := cloneCTxt_any wr x.labels L.length (L.map Value.string) ((texts_src htx).later hlw) hLn
      clear hT0 htx hcell t3 t1 HF HT hok
      go_wp2_with (go_at_call 39; refine cT.mono ?_; rintro e w2 ⟨lv, rfl, ho2, hl2⟩; obtain ⟨p2, q2, rfl⟩ := owns_slice ho2; have d12 := cell_later c12 hl2; have hg2 := heap_later hl2 hg; have k12 : w2.frozen? ⟨g, i * 13 + 12, none⟩ = false := (by simp [World.frozen?, hg2]))
      go_roundw
      case rel => exact ⟨i + 1, _, by go_num, by omega, Later.setCell (hlw.trans hl2) hg0 _ _, (hH.out.later hl2).next hx (owns_base ho2 hlw.size) hg2 hn⟩
      case measure => simp [intOf] <;> omega
    · obtain rfl : i = n := by omega
      have hD := hH.out
      rw [← hn] at hD
      obtain ⟨d1, d2⟩ := hD.done hok.out HF.out
      rw [hn] at d1
      go_wp2
      go_ret
      exact ⟨_, T', rfl, d1, d2, hlw⟩

end Go.Proofs.YtegogmbcjjjjjaaDoor
