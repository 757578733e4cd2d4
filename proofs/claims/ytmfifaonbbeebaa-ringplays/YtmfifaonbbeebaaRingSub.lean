/-
  A slice of entries of the call's own that may begin within its row ('l = l[1:]'): what it holds, what an append of one entry leaves, what is left behind its first. Conditions: as each theorem names them.
-/
import Derived.Test.YtmfifaonbbeebaaRingTwo
import Derived.Deep.RegionLaw
namespace Go.Proofs.Ytmfifaonbbeebaa
open Go.RowKit Go.WideShapes
set_option linter.unusedVariables false
set_option linter.unusedSimpArgs false

/-- A slice of the call's own that holds these entries, wherever it begins. -/
def SubRow (base : Nat) (w : World) (v : Value) (L : List (Int × Int)) : Prop :=
  (v = .slice none 0 0 ∧ L = []) ∨ ∃ g off cap cur, v = .slice (some ⟨g, off, none⟩) L.length cap ∧ base ≤ g ∧ w.heap[g]? = some (.cells cur 31) ∧ L.length ≤ cap ∧ cap ≤ maxLen ∧ off + cap * 2 ≤ cur.size ∧ (cur.toList.drop off).take (L.length * 2) = flatC entC L

theorem SubRow.nil (base : Nat) (w : World) : SubRow base w (.slice none 0 0) [] := .inl ⟨rfl, rfl⟩

theorem SubRow.form {base : Nat} {w : World} {v : Value} {L : List (Int × Int)} (h : SubRow base w v L) : ∃ p cap, v = .slice p L.length cap := by
  rcases h with ⟨rfl, rfl⟩ | ⟨g, off, cap, cur, rfl, -⟩
  · exact ⟨none, 0, rfl⟩
  · exact ⟨_, _, rfl⟩

theorem SubRow.row {base : Nat} {w : World} {v : Value} {L : List (Int × Int)} (h : SubRow base w v L) : EntRow w v L := by
  rcases h with ⟨rfl, rfl⟩ | ⟨g, off, cap, cur, rfl, hb, hg, hn, hm, hs, ht⟩
  · exact EntRow.nil w
  · refine ⟨_, _, rfl, hn, hm, fun _ => ⟨g, off, rfl, fun i x hi => ⟨entC x, rfl, fun j c hj => ?_⟩⟩⟩
    have hj2 : j < 2 := (List.getElem?_eq_some_iff.1 hj).1
    have hil := (List.getElem?_eq_some_iff.1 hi).1
    have h1 := flatC_get entC 2 entC_len L i x hi j hj2
    rw [hj, ← ht, List.getElem?_take, if_pos (by omega), List.getElem?_drop, Array.getElem?_toList] at h1
    simp only [World.cell?, hg]
    rw [show off + i * 2 + j = off + (i * 2 + j) by omega]
    exact h1

theorem SubRow.own {base : Nat} {w : World} {v : Value} {L : List (Int × Int)} (h : SubRow base w v L) : ∀ k, v.ownBlock = some k → base ≤ k ∧ k < w.heap.size := by
  intro k hk
  rcases h with ⟨rfl, rfl⟩ | ⟨g, off, cap, cur, rfl, hb, hg, -⟩
  · simp [Value.ownBlock] at hk
  · simp [Value.ownBlock] at hk
    subst hk
    exact ⟨hb, lt_block hg⟩

/-- It stays where its block stays. -/
theorem SubRow.kept {base : Nat} {w w' : World} {v : Value} {L : List (Int × Int)} (h : SubRow base w v L) (hk : ∀ k, v.ownBlock = some k → w'.heap[k]? = w.heap[k]?) : SubRow base w' v L := by
  rcases h with h | ⟨g, off, cap, cur, rfl, hb, hg, rest⟩
  · exact .inl h
  · exact .inr ⟨g, off, cap, cur, rfl, hb, by rw [hk g rfl]; exact hg, rest⟩

theorem SubRow.later {base : Nat} {w w' : World} {v : Value} {L : List (Int × Int)} (h : SubRow base w v L) (hl : Later w w') : SubRow base w' v L :=
  h.kept (fun k hk => hl.block k (h.own k hk).2)

theorem SubRow.touch {base : Nat} {w w' : World} {v : Value} {L : List (Int × Int)} {p : Nat} {b : Option Nat} (h : SubRow base w v L) (ht : Touch p b w w') (hp : v.ownBlock ≠ some p) (hb : ∀ k, v.ownBlock = some k → some k ≠ b) : SubRow base w' v L :=
  h.kept (fun k hk => ht.block k (h.own k hk).2 (fun e => hp (by rw [hk, e])) (hb k hk))

theorem SubRow.not {base : Nat} {w : World} {v : Value} {L : List (Int × Int)} {p : Nat} {cs : Array Value} {t : TypeId} (h : SubRow base w v L) (hp : w.heap[p]? = some (.cells cs t)) (ht : t ≠ 31) : v.ownBlock ≠ some p := by
  rcases h with ⟨rfl, -⟩ | ⟨g, off, cap, cur, rfl, -, hg, -⟩
  · simp [Value.ownBlock]
  · simp only [Value.ownBlock]
    intro e1
    cases e1
    rw [hp] at hg
    simp at hg
    exact ht hg.2

/-- Behind its first entry. -/
theorem SubRow.tail {base : Nat} {w : World} {a : Option Addr} {n cap : Nat} {x : Int × Int} {L : List (Int × Int)} (h : SubRow base w (.slice a n cap) (x :: L)) :
    ∃ q, SubRow base w (.slice q (n - 1) (cap - 1)) L ∧ (Value.slice q (n - 1) (cap - 1)).ownBlock = (Value.slice a n cap).ownBlock ∧ (∀ w', (Instr.slice 26 (.slice a n cap) (some (.int .i64 1)) none none).run Try.prog w' = .ok (.slice q (n - 1) (cap - 1)) w') := by
  obtain ⟨q, -, hq, hs⟩ := slice_low (pre := [x]) (L := L) (l := 1) rfl h.row
  refine ⟨q, ?_, ?_, hq⟩
  all_goals
    have hq' : ∀ w', (Instr.slice 26 (.slice a n cap) (some (.int .i64 ((1 : Nat) : Int))) none none).run Try.prog w' = .ok (.slice (if cap = 1 then a else a.map (·.add (1 * 2))) (n - 1) (cap - 1)) w' := fun w' => by
      obtain ⟨i0, hi0, hz0, hz1, hz2⟩ := info_parts infoEnt
      rcases h with ⟨h1, h2⟩ | ⟨g, off, cap', cur, hv, hb, hg, hn, hm, hs, ht⟩
      · cases h2
      · simp only [Value.slice.injEq] at hv
        obtain ⟨rfl, rfl, rfl⟩ := hv
        unfold maxLen at hm
        simp [Instr.slice, Instr.sliceBounds, Instr.sliceBound, asIntOf, run_underlying Try.underlying26, sizeOf, typeInfo, hi0, hz1, go_sem]
        intro h9
        omega
    have he := (hq w).symm.trans (hq' w)
    simp only [Result.ok.injEq, Value.slice.injEq, and_true] at he
    subst he
    rcases h with ⟨h1, h2⟩ | ⟨g, off, cap', cur, hv, hb, hg, hn, hm, hs, ht⟩
    · cases h2
    simp only [Value.slice.injEq] at hv
    obtain ⟨rfl, rfl, rfl⟩ := hv
  · have hL : (x :: L).length - 1 = L.length := rfl
    rw [hL]
    have ht2 : (cur.toList.drop (off + 2)).take (L.length * 2) = flatC entC L := by
      have h3 : (x :: L).length * 2 = 2 + L.length * 2 := by rw [List.length_cons]; omega
      have h4 := congrArg (List.drop 2) ht
      rw [h3, List.drop_take, List.drop_drop] at h4
      rw [show 2 + L.length * 2 - 2 = L.length * 2 by omega] at h4
      rw [h4]
      rfl
    by_cases hc : cap = 1
    · subst hc
      have h0 : L = [] := List.length_eq_zero_iff.1 (by rw [List.length_cons] at hn; omega)
      subst h0
      rw [if_pos rfl]
      exact .inr ⟨g, off, 0, cur, rfl, hb, hg, Nat.le_refl _, by omega, by omega, by simp [flatC]⟩
    · rw [if_neg hc]
      rw [List.length_cons] at hn
      refine .inr ⟨g, off + 2, cap - 1, cur, by simp [add_plain], hb, hg, by omega, by omega, by omega, ht2⟩
  · split
    · rfl
    · simp [Value.ownBlock, add_plain]

section
variable (w : World)

theorem run_append_sub (base : Nat) (ty : TypeId) (v : Value) (L : List (Int × Int)) (x : Int × Int) (hown : SubRow base w v L) (ad : Addr) (c : Nat) (hnews : ∀ j u, (entC x)[j]? = some u → w.cell? (ad.add j) = some u)
    (hL : L.length ≤ 1000000) (hbase : base ≤ w.heap.size) :
    ∃ v' w', (Builtin.append_ #[26, 26] ty #[v, .slice (some ad) 1 c]).run Try.prog w = .ok v' w' ∧ SubRow base w' v' (L ++ [x]) ∧ w.grownBy w' v.ownBlock ∧ (v'.ownBlock = v.ownBlock ∨ v'.ownBlock = some w.heap.size) := by
  obtain ⟨i0, hi0, hz0, hz1, hz2⟩ := info_parts infoEnt
  have h1 : ∀ u ∈ entC x, u.oneCell' = true := fun u hu => by simp [entC] at hu; rcases hu with rfl | rfl <;> rfl
  have hfl := flatC_length entC 2 entC_len L
  have hlen1 : (L ++ [x]).length = L.length + 1 := by simp
  have hflx : flatC entC (L ++ [x]) = flatC entC L ++ entC x := by rw [flatC_append, flatC_one]
  rcases hown with ⟨rfl, rfl⟩ | ⟨g, off, cap, cur, rfl, hb, hg, hn, hm, hs, ht⟩
  · obtain ⟨v', w', hr, ho, hgr, -, h5⟩ := run_append_own_at (P := Try.prog) w base 26 ty 31 i0 (.agg #[.int .i64 0, .int .i64 0]) 2 16 Try.underlying26 hi0 hz0 hz1 hz2 rfl (by decide) (.slice none 0 0) 0 [] (World.ownsRow_nil _ _ _ _) ad 1 c (entC x) rfl hnews h1 (by unfold maxLen; omega) (by omega) hbase
    refine ⟨v', w', hr, ?_, hgr, h5⟩
    rcases ho.2 with ⟨-, h0⟩ | ⟨g, cap, cur, rfl, hb, hg, hn, hm, hs, ht⟩
    · omega
    · exact .inr ⟨g, 0, cap, cur, rfl, hb, hg, by simpa using hn, hm, by omega, by simpa [flatC] using ht⟩
  · by_cases hroom : L.length + 1 ≤ cap
    · have hfit : off + L.length * 2 + 0 + (entC x).length ≤ cur.size := by rw [entC_len]; omega
      have hf := run_firstCells_some (P := Try.prog) w 2 1 ad 1 c (entC x) rfl hnews
      have hst := run_storeCells_at Try.prog g (off + L.length * 2) 31 (entC x) 0 cur w hg hfit h1
      simp only [Nat.add_zero] at hst
      have hr : (Builtin.append_ #[26, 26] ty #[.slice (some ⟨g, off, none⟩) L.length cap, .slice (some ad) 1 c]).run Try.prog w =
          .ok (.slice (some ⟨g, off, none⟩) (L.length + 1) cap) (w.setRow g (cur.toList.take (off + L.length * 2) ++ entC x ++ cur.toList.drop (off + L.length * 2 + (entC x).length)).toArray) := by
        simp [Builtin.append_, run_underlying Try.underlying26, sizeOf, typeInfo, hi0, hz1, Builtin.lenOf, hroom, hf, Addr.add_lit, hst]
      refine ⟨_, _, hr, .inr ⟨g, off, cap, _, by rw [hlen1], hb, setRow_heap w g cur _ 31 _ hg, by rw [hlen1]; exact hroom, hm, ?_, ?_⟩, ⟨rfl, rfl, rfl, by simp, fun k _ hk => setRow_other w g k _ (fun e => hk (by simp [Value.ownBlock, e]))⟩, .inl rfl⟩
      · simp only [List.size_toArray, List.length_append, List.length_take, List.length_drop, Array.length_toList, entC_len]
        omega
      · have hcl : (cur.toList.take (off + L.length * 2)).length = off + L.length * 2 := by simp only [List.length_take, Array.length_toList]; omega
        rw [hflx, hlen1, List.append_assoc, List.drop_append_of_le_length (by rw [hcl]; omega), List.drop_take, show off + L.length * 2 - off = L.length * 2 by omega, ht, ← List.append_assoc]
        rw [show (L.length + 1) * 2 = (flatC entC L ++ entC x).length by rw [List.length_append, hfl, entC_len]; omega]
        exact List.take_left
    · have holds : ∀ j u, (flatC entC L)[j]? = some u → w.cell? ((⟨g, off, none⟩ : Addr).add j) = some u := fun j u hj => by
        have hjl := (List.getElem?_eq_some_iff.1 hj).1
        rw [← ht, List.getElem?_take, if_pos (by omega), List.getElem?_drop, Array.getElem?_toList] at hj
        rw [add_plain]
        simp only [World.cell?, hg]
        exact hj
      have hr := run_append_grow (P := Try.prog) w 26 ty 31 i0 (.agg #[.int .i64 0, .int .i64 0]) Try.underlying26 hi0 hz0 ⟨g, off, none⟩ L.length cap (flatC entC L) (by rw [hz1]; exact hfl) holds ad 1 c (entC x) (by rw [hz1]; rfl) hnews (by omega) (by omega) (by rw [hz2]; exact growslice_fits (by omega) (by omega))
      have hge := grownCap_ge w (L.length + 1) cap 31
      have hcm : grownCap w (L.length + 1) cap 31 ≤ maxLen := grownCap_le_maxLen w (L.length + 1) cap 31 (by unfold maxLen; omega)
      refine ⟨_, _, hr, .inr ⟨w.heap.size, 0, _, _, by rw [hlen1], hbase, heap_alloc_new w.drew _, by rw [hlen1]; exact hge, hcm, ?_, ?_⟩, ⟨rfl, rfl, rfl, by simp, fun k hk _ => heap_alloc_old w.drew _ (by simpa using hk)⟩, .inr rfl⟩
      · simp only [Array.size_append, List.size_toArray, size_zeroCells, hfl, entC_len]
        have hzs : (Value.agg #[.int .i64 0, .int .i64 0]).cells.size = 2 := rfl
        rw [hzs]
        omega
      · rw [hlen1, hflx, List.drop_zero]
        simp only [Array.toList_append, List.append_assoc]
        rw [← List.append_assoc, show (L.length + 1) * 2 = (flatC entC L ++ entC x).length by rw [List.length_append, hfl, entC_len]; omega]
        exact List.take_left

theorem wpList_append_sub {ops : Array Oper} {rest : List Oper} {o : Oper} {a : Act} {Q : Exit → Act → World → Prop} (hgd : o.guard = none) (s x : Operand)
    (ho : o.op = .call { callee := .builtin .append, args := #[s, x], argTypes := #[26, 26] })
    (base : Nat) (v : Value) (L : List (Int × Int)) (y : Int × Int) (hs : a.eval s = v) (hown : SubRow base w v L) (ad : Addr) (c : Nat) (hx : a.eval x = .slice (some ad) 1 c)
    (hnews : ∀ j u, (entC y)[j]? = some u → w.cell? (ad.add j) = some u) (hL : L.length ≤ 1000000) (hbase : base ≤ w.heap.size)
    (h : ∀ v' w', SubRow base w' v' (L ++ [y]) → w.grownBy w' v.ownBlock → (v'.ownBlock = v.ownBlock ∨ v'.ownBlock = some w.heap.size) → wpList Try.prog ops Q rest (a.put o.dst v') w') : wpList Try.prog ops Q (o :: rest) a w := by
  refine wpList_plain hgd fun _ hK => ?_
  obtain ⟨v', w', hr, h2, h3, h4⟩ := run_append_sub w base o.type v L y hown ad c hnews hL hbase
  unfold Oper.wp execOp
  simp only [ho, resolve, invoke, builtin, Sem.run_bind, Sem.run_pure, Result.andThen_ok, List.map_toArray, List.map_cons, List.map_nil, hs, hx, hr]
  exact hK _ _ (h v' w' h2 h3 h4)

end

end Go.Proofs.Ytmfifaonbbeebaa
