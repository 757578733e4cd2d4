/-
  A state's copy that is being bent: what each of the bends leaves. Conditions: as each theorem names them.
-/
import Derived.Test.YtpnbpjhoilibcaaDoorStateLoose
import Derived.Test.YtpnbpjhoilibcaaDoorStateSize
namespace Go.Proofs.YtpnbpjhoilibcaaDoor
open Go.RowKit Go.WideShapes
set_option linter.unusedVariables false
set_option linter.unusedSimpArgs false

/-- Blocks of other types than e stand as they stood. -/
def OffT (e : TypeId) (w w' : World) : Prop := ∀ (B : Nat) (cs : Array Value) (t : TypeId) (fz : Nat × Nat), t ≠ e → w.heap[B]? = some (.cells cs t fz) → w'.heap[B]? = some (.cells cs t fz)

theorem OffT.later {e : TypeId} {w w' : World} (h : Later w w') : OffT e w w' := fun B cs t fz _ hB => heap_later h hB
theorem OffT.trans {e : TypeId} {a b c : World} (h : OffT e a b) (k : OffT e b c) : OffT e a c := fun B cs t fz ht hB => k B cs t fz ht (h B cs t fz ht hB)
theorem OffT.one {e : TypeId} {g : Nat} {w w' : World} (h : InOne g w w') {cur : Array Value} {fz : Nat × Nat} (hg : w.heap[g]? = some (.cells cur e fz)) : OffT e w w' := fun B cs t fz' ht hB => by
  rw [h.off B (fun e0 => by subst e0; rw [hg] at hB; cases hB; exact ht rfl)]
  exact hB
theorem OffT.grown {e : TypeId} {w w' : World} {N k : Nat} {v : Value} {n : Nat} {xs : List Value} (h : w.ownsRow N e k v n xs) (hg : w.grownBy w' v.ownBlock) : OffT e w w' := fun B cs t fz ht hB => other_kept h hg hB (fun cs' fz' e0 => ht (by cases e0; rfl))

theorem OffT.owns {e e' : TypeId} {w w' : World} (h : OffT e w w') (hne : e' ≠ e) {N k : Nat} {v : Value} {n : Nat} {xs : List Value} (ho : w.ownsRow N e' k v n xs) : w'.ownsRow N e' k v n xs := by
  refine ⟨ho.1, ?_⟩
  rcases ho.2 with h2 | ⟨b, cap, cc, rfl, k3, k4, k5⟩
  · exact .inl h2
  · exact .inr ⟨b, cap, cc, rfl, k3, h _ _ _ _ hne k4, k5⟩

theorem OffT.buf {e : TypeId} {w w' : World} (h : OffT e w w') (hne : 41 ≠ e) {N : Nat} {u : Value} (ho : OwnBuf w N u) : OwnBuf w' N u := by
  obtain ⟨l, h1, h2, h3⟩ := ho
  exact ⟨l, h1, h2, h.owns hne h3⟩

theorem OffT.ownW {e e' : TypeId} {w w' : World} (h : OffT e w w') (hne : e' ≠ e) {N k : Nat} {v : Value} {n : Nat} (ho : OwnW w N e' k v n) : OwnW w' N e' k v n := by
  obtain ⟨p, cap, rfl, h1, h2⟩ := ho
  refine ⟨p, cap, rfl, h1, ?_⟩
  rcases h2 with h2 | ⟨b, cur, rfl, h3, h4, h5⟩
  · exact .inl h2
  · exact .inr ⟨b, cur, rfl, h3, h _ _ _ _ hne h4, h5⟩

theorem OffT.thr {e : TypeId} {w w' : World} (h : OffT e w w') (hne : 38 ≠ e) {N : Nat} {v : Value} {n : Nat} {T : List TS} (hn : T.length = n) (hT : TsRow w v T) (ho : OwnW w N 38 16 v n) : TsRow w' v T := by
  obtain ⟨p, cap, rfl, c1, c2, c3⟩ := hT
  refine ⟨p, cap, rfl, c1, c2, fun hT => ?_⟩
  obtain ⟨g, o, rfl, c4⟩ := c3 hT
  obtain ⟨p', cap', hv, -, hw⟩ := ho
  simp only [Value.slice.injEq] at hv
  obtain ⟨rfl, -, -⟩ := hv
  rcases hw with h0 | ⟨g', cur, hg', -, hgc, -⟩
  · rw [h0] at hn
    exact absurd (List.length_eq_zero_iff.1 hn) hT
  · cases hg'
    refine ⟨g, 0, rfl, fun i x hi => ?_⟩
    obtain ⟨cs, hcs, c5⟩ := c4 i x hi
    refine ⟨cs, ⟨hcs.1, hcs.2⟩, fun q c hq => ?_⟩
    have := c5 q c hq
    unfold World.cell? at this ⊢
    rw [hgc] at this
    rw [h _ _ _ _ hne hgc]
    exact this

/-- The lock is another number. -/
theorem Loose.putLock {W w : World} {N D : Nat} {m t b : Value} {nm nt nb : Nat} {k : Int} {ap : Bool} (h : Loose W w N D m t b nm nt nb k ap) (hD : W.heap.size ≤ D) (k' : Int) (hk : I64 k') : Loose W (w.setCell ⟨D, 3, none⟩ (.int .i64 k')) N D m t b nm nt nb k' ap := by
  obtain ⟨L, l1, l2, l3⟩ := h.mem
  obtain ⟨T, t1, t2⟩ := h.thr
  obtain ⟨H, b1, b2, b3, b4⟩ := h.bufs
  have ho : InOne D w (w.setCell ⟨D, 3, none⟩ (.int .i64 k')) := (InOne.refl D w).set _ _
  have hf := OffT.one ho h.box
  exact ⟨Later.setCell h.later hD 3 _, setCell_block h.box 3 _, ⟨L, l1, l2, hf.owns (by decide) l3⟩, ⟨T, t1, hf.thr (by decide) t1 t2 h.thrW⟩, hf.ownW (by decide) h.thrW, ⟨H, b1, hf.owns (by decide) b2, fun u hu => hf.buf (by decide) (b3 u hu), b4⟩, hk⟩

/-- One cell more. -/
theorem Loose.putMem {W w w' : World} {N D : Nat} {m m' t b : Value} {nm nt nb : Nat} {k n : Int} {ap : Bool} (h : Loose W w N D m t b nm nt nb k ap) (hD : W.heap.size ≤ D) (hN : W.heap.size ≤ N) (hn : I64 n) {L : List Int} (l1 : L.length = nm) (l2 : ∀ n ∈ L, I64 n) (l3 : w.ownsRow N 2 1 m nm (intsC L))
    (hg : w.grownBy w' m.ownBlock) (hown : w'.ownsRow N 2 1 m' (nm + 1) (intsC L ++ [.int .i64 n])) : w'.heap[D]? = some (.cells #[m, t, b, .int .i64 k] 26) ∧ Loose W (w'.setCell ⟨D, 0, none⟩ m') N D m' t b (nm + 1) nt nb k ap := by
  obtain ⟨T, t1, t2⟩ := h.thr
  obtain ⟨H, b1, b2, b3, b4⟩ := h.bufs
  have hf := OffT.grown l3 hg
  have hl : Later W w' := Below.grown h.later hg h.later.size (fun j hj => Nat.le_trans hN (l3.lt j hj).1)
  have hbox := hf _ _ _ _ (by decide) h.box
  have ho : InOne D w' (w'.setCell ⟨D, 0, none⟩ m') := (InOne.refl D w').set _ _
  have hf2 := OffT.one ho hbox
  have hf3 := fun {e' : TypeId} (h1 : e' ≠ 2) (h2 : e' ≠ 26) {k : Nat} {v : Value} {n : Nat} {xs : List Value} (ho : w.ownsRow N e' k v n xs) => hf2.owns h2 (hf.owns h1 ho)
  exact ⟨hbox, Later.setCell hl hD 0 _, setCell_block hbox 0 _, ⟨L ++ [n], by simp [l1], fun x hx => by
    rcases List.mem_append.1 hx with hx | hx
    · exact l2 x hx
    · simp at hx; subst hx; exact hn, by
    have : intsC (L ++ [n]) = intsC L ++ [.int .i64 n] := by simp [intsC]
    rw [this]
    exact hf2.owns (by decide) hown⟩, ⟨T, t1, hf2.thr (by decide) t1 (hf.thr (by decide) t1 t2 h.thrW) (hf.ownW (by decide) h.thrW)⟩, hf2.ownW (by decide) (hf.ownW (by decide) h.thrW), ⟨H, b1, hf3 (by decide) (by decide) b2, fun u hu => hf2.buf (by decide) (hf.buf (by decide) (b3 u hu)), b4⟩, h.lock⟩

/-- One buffer more, without entries. -/
theorem Loose.putBuf {W w w' : World} {N D : Nat} {m t b b' : Value} {nm nt nb : Nat} {k : Int} {ap : Bool} (h : Loose W w N D m t b nm nt nb k ap) (hD : W.heap.size ≤ D) (hN : W.heap.size ≤ N) {H : List Value} (b1 : H.length = nb) (b2 : w.ownsRow N 39 1 b nb H) (b3 : ∀ u ∈ H, OwnBuf w N u)
    (hg : w.grownBy w' b.ownBlock) (hown : w'.ownsRow N 39 1 b' (nb + 1) (H ++ [.slice none 0 0])) : w'.heap[D]? = some (.cells #[m, t, b, .int .i64 k] 26) ∧ Loose W (w'.setCell ⟨D, 2, none⟩ b') N D m t b' nm nt (nb + 1) k false := by
  obtain ⟨L, l1, l2, l3⟩ := h.mem
  obtain ⟨T, t1, t2⟩ := h.thr
  have hf := OffT.grown b2 hg
  have hl : Later W w' := Below.grown h.later hg h.later.size (fun j hj => Nat.le_trans hN (b2.lt j hj).1)
  have hbox := hf _ _ _ _ (by decide) h.box
  have ho : InOne D w' (w'.setCell ⟨D, 2, none⟩ b') := (InOne.refl D w').set _ _
  have hf2 := OffT.one ho hbox
  exact ⟨hbox, Later.setCell hl hD 2 _, setCell_block hbox 2 _, ⟨L, l1, l2, hf2.owns (by decide) (hf.owns (by decide) l3)⟩, ⟨T, t1, hf2.thr (by decide) t1 (hf.thr (by decide) t1 t2 h.thrW) (hf.ownW (by decide) h.thrW)⟩, hf2.ownW (by decide) (hf.ownW (by decide) h.thrW), ⟨H ++ [.slice none 0 0], by simp [b1], hf2.owns (by decide) hown, (fun u hu => by
    rcases List.mem_append.1 hu with hu | hu
    · exact hf2.buf (by decide) (hf.buf (by decide) (b3 u hu))
    · simp at hu; subst hu; exact ⟨[], by simp, (fun x hx => by cases hx), World.ownsRow_nil _ _ _ _⟩), fun h => by cases h⟩, h.lock⟩

/-- One entry more in one buffer: behind the append, and the store of its slice. -/
theorem Loose.putEnt {W w w' : World} {N D : Nat} {m t : Value} {p : Option Addr} {cap nm nt nb : Nat} {k : Int} {ap : Bool} (h : Loose W w N D m t (.slice p nb cap) nm nt nb k ap) (hN : W.heap.size ≤ N) {H : List Value} (b1 : H.length = nb) (b2 : w.ownsRow N 39 1 (.slice p nb cap) nb H) (b3 : ∀ u ∈ H, OwnBuf w N u)
    {i : Nat} {u u' : Value} (hu : H[i]? = some u) {l : List (Int × Int)} (hl20 : l.length < 20) (h64 : ∀ x ∈ l, I64 x.1 ∧ I64 x.2) (hlo : w.ownsRow N 41 2 u l.length (flatC entC l)) {e : Int × Int} (he : I64 e.1 ∧ I64 e.2)
    (hg : w.grownBy w' u.ownBlock) (hown : w'.ownsRow N 41 2 u' (l.length + 1) (flatC entC l ++ entC e)) (b4 : Apart H) :
    ∃ g, p = some ⟨g, 0, none⟩ ∧ w'.cell? ⟨g, i, none⟩ = some u ∧ w'.frozen? ⟨g, i, none⟩ = false ∧ w'.heap[D]? = some (.cells #[m, t, .slice p nb cap, .int .i64 k] 26) ∧ Loose W (w'.setCell ⟨g, i, none⟩ u') N D m t (.slice p nb cap) nm nt nb k false := by
  obtain ⟨L, l1, l2, l3⟩ := h.mem
  obtain ⟨T, t1, t2⟩ := h.thr
  have hf := OffT.grown hlo hg
  have hl : Later W w' := Below.grown h.later hg h.later.size (fun j hj => Nat.le_trans hN (hlo.lt j hj).1)
  have hbox := hf _ _ _ _ (by decide) h.box
  have hrow := hf.owns (by decide) b2
  obtain ⟨g, cur, rfl, hNg, -, hgc, hc, hfz⟩ := own_slot b1 (OwnIn.of hrow) hu
  have ho : InOne g w' (w'.setCell ⟨g, i, none⟩ u') := (InOne.refl g w').set _ _
  have hf2 := OffT.one ho hgc
  refine ⟨g, rfl, hc, hfz, hbox, Later.setCell hl (by omega) i _, hf2 _ _ _ _ (by decide) hbox, ⟨L, l1, l2, hf2.owns (by decide) (hf.owns (by decide) l3)⟩, ⟨T, t1, hf2.thr (by decide) t1 (hf.thr (by decide) t1 t2 h.thrW) (hf.ownW (by decide) h.thrW)⟩, hf2.ownW (by decide) (hf.ownW (by decide) h.thrW), ⟨H.set i u', by simp [b1], owns_set_own hrow u', fun v hv => ?_, fun h => by cases h⟩, h.lock⟩
  obtain ⟨j, hj, hjv⟩ := List.getElem_of_mem hv
  rw [List.getElem_set] at hjv
  have hjl : j < H.length := by rw [List.length_set] at hj; exact hj
  split at hjv
  rotate_left
  · rename_i hij
    have hvj : H[j]? = some v := by rw [List.getElem?_eq_getElem hjl, hjv]
    obtain ⟨l', k1, k2, k3⟩ := b3 v (List.mem_of_getElem? hvj)
    refine ⟨l', k1, k2, hf2.owns (by decide) (k3.kept hg ?_)⟩
    cases hb : u.ownBlock with
    | none =>
      cases hv0 : v.ownBlock with
      | none => exact .inl rfl
      | some g' => exact .inr (by simp)
    | some g' => exact .inr (b4 i j u v g' hij hu hvj hb)
  · subst hjv
    refine ⟨l ++ [e], by simp; omega, fun x hx => ?_, ?_⟩
    · rcases List.mem_append.1 hx with hx | hx
      · exact h64 x hx
      · simp at hx; subst hx; exact he
    · have e1 : (l ++ [e]).length = l.length + 1 := by simp
      rw [e1, flatC_append, flatC_one]
      exact hf2.owns (by decide) hown

theorem Apart.nil : Apart [] := fun i j u v g _ h => by simp at h

theorem Apart.snoc {H : List Value} {u : Value} (h : Apart H) (hu : ∀ g, u.ownBlock = some g → ∀ v ∈ H, v.ownBlock ≠ some g) : Apart (H ++ [u]) := by
  have last : ∀ {k : Nat} {z : Value}, (H ++ [u])[k]? = some z → (H[k]? = some z) ∨ (k = H.length ∧ z = u) := fun {k z} hk => by
    rcases Nat.lt_or_ge k H.length with h1 | h1
    · rw [List.getElem?_append_left h1] at hk
      exact .inl hk
    · have h2 := (List.getElem?_eq_some_iff.1 hk).1
      simp at h2
      obtain rfl : k = H.length := by omega
      rw [List.getElem?_append_right (Nat.le_refl _), Nat.sub_self] at hk
      cases hk
      exact .inr ⟨rfl, rfl⟩
  intro i j a b g hij ha hb hg
  rcases last ha with ka | ⟨rfl, rfl⟩ <;> rcases last hb with kb | ⟨rfl, rfl⟩
  · exact h i j a b g hij ka kb hg
  · exact fun e => hu g e a (List.mem_of_getElem? ka) hg
  · exact hu g hg b (List.mem_of_getElem? kb)
  · exact absurd rfl hij

theorem CopyAt.low {W w : World} {C : Nat} {m t b : Value} {x : MSt} {n1 n2 i : Nat} {H : List Value} (h : CopyAt W w C m t b x n1 n2 i H) (hi : i ≤ x.bufs.length) : ∀ v ∈ H, ∀ g, v.ownBlock = some g → g < w.heap.size := fun v hv g hg => by
  obtain ⟨j, hj, rfl⟩ := List.getElem_of_mem hv
  have hl : x.bufs[j]? = some (x.bufs[j]'(by have := h.len; omega)) := List.getElem?_eq_getElem _
  exact ((h.each j _ _ (List.getElem?_eq_getElem hj) hl).lt g hg).2

/-- While other boxes of states are written. -/
theorem Loose.rebase {W w w' : World} {N D : Nat} {m t b : Value} {nm nt nb : Nat} {k : Int} {ap : Bool} (h : Loose W w N D m t b nm nt nb k ap) (hf : OffT 26 w w') (hbox : w'.heap[D]? = some (.cells #[m, t, b, .int .i64 k] 26)) : Loose w' w' N D m t b nm nt nb k ap := by
  obtain ⟨L, l1, l2, l3⟩ := h.mem
  obtain ⟨T, t1, t2⟩ := h.thr
  obtain ⟨H, b1, b2, b3, b4⟩ := h.bufs
  exact ⟨Later.refl _, hbox, ⟨L, l1, l2, hf.owns (by decide) l3⟩, ⟨T, t1, hf.thr (by decide) t1 t2 h.thrW⟩, hf.ownW (by decide) h.thrW, ⟨H, b1, hf.owns (by decide) b2, fun u hu => hf.buf (by decide) (b3 u hu), b4⟩, h.lock⟩

/-- The copy is handed out: its box is read, and another box written. -/
theorem Loose.out {W w : World} {N D R : Nat} {m t b : Value} {nm nt nb : Nat} {k : Int} {ap : Bool} (h : Loose W w N D m t b nm nt nb k ap) {cs : Array Value} (hR : w.heap[R]? = some (.cells cs 26)) (hne : D ≠ R) (h1 : nm ≤ 40) (h2 : nt ≤ 10) (h3 : nb ≤ 10) :
    ∃ s : MSt, s.lock = k ∧ MsIn (put4 w R m t b (.int .i64 k)) m t b s ∧ (msL s).length ≤ 20000 := by
  have ho : InOne R w (put4 w R m t b (.int .i64 k)) := ((((InOne.refl R w).set 0 _).set 1 _).set 2 _).set 3 _
  obtain ⟨s, e1, e2, e3, e4, e5, e6⟩ := (h.rebase (OffT.one ho hR) (by rw [ho.off D hne]; exact h.box)).isIn
  refine ⟨s, e1, e6, ?_⟩
  have := ms_len e6.ok (a := 40) (b := 10) (c := 10) (d := 20) (by omega) (by omega) (by omega) e5
  omega

/-- While another block of a thread's state is written. -/
theorem Loose.offThr {W w w' : World} {N D E : Nat} {m b : Value} {p : Option Addr} {cap nm nt nb : Nat} {k : Int} {ap : Bool} (h : Loose W w N D m (.slice p nt cap) b nm nt nb k ap) (hE : W.heap.size ≤ E) (hne : ∀ g, p = some ⟨g, 0, none⟩ → g ≠ E) (ho : InOne E w w') {cur : Array Value} (hc : w.heap[E]? = some (.cells cur 38)) :
    Loose W w' N D m (.slice p nt cap) b nm nt nb k ap := by
  obtain ⟨L, l1, l2, l3⟩ := h.mem
  obtain ⟨T, t1, t2⟩ := h.thr
  obtain ⟨H, b1, b2, b3, b4⟩ := h.bufs
  have hf := OffT.one ho hc
  refine ⟨ho.later h.later hE, hf _ _ _ _ (by decide) h.box, ⟨L, l1, l2, hf.owns (by decide) l3⟩, ⟨T, t1, ?_⟩, h.thrW.one ho, ⟨H, b1, hf.owns (by decide) b2, fun u hu => hf.buf (by decide) (b3 u hu), b4⟩, h.lock⟩
  obtain ⟨p', cap', hv, c1, c2, c3⟩ := t2
  refine ⟨p', cap', hv, c1, c2, fun hT => ?_⟩
  obtain ⟨g, o, e0, c4⟩ := c3 hT
  have hp : p = p' := by cases hv; rfl
  obtain ⟨p3, cap3, hv3, -, hw⟩ := h.thrW
  have hp3 : p = p3 := by cases hv3; rfl
  rcases hw with h0 | ⟨g', cur', hg', -, -, -⟩
  · rw [h0] at t1
    exact absurd (List.length_eq_zero_iff.1 t1) hT
  · have e1 : (⟨g, o, none⟩ : Addr) = ⟨g', 0, none⟩ := by
      have : some (⟨g, o, none⟩ : Addr) = some ⟨g', 0, none⟩ := by rw [← e0, ← hg', ← hp, ← hp3]
      exact Option.some.inj this
    cases e1
    have hgE := hne g (by rw [hp, e0])
    refine ⟨g, 0, e0, fun i x hi => ?_⟩
    obtain ⟨cs, hcs, c5⟩ := c4 i x hi
    refine ⟨cs, ⟨hcs.1, hcs.2⟩, fun q c hq => ?_⟩
    have := c5 q c hq
    unfold World.cell? at this ⊢
    rw [ho.off g hgE]
    exact this

/-- A thread's state, as a range. -/
theorem Loose.thrAt {W w : World} {N D : Nat} {m b : Value} {p : Option Addr} {cap nm nt nb : Nat} {k : Int} {ap : Bool} (h : Loose W w N D m (.slice p nt cap) b nm nt nb k ap) {i : Nat} (hi : i < nt) :
    ∃ g x cur, p = some ⟨g, 0, none⟩ ∧ N ≤ g ∧ w.heap[g]? = some (.cells cur 38) ∧ w.there g (i * 16) 16 ∧ x.Ok ∧ w.rangeAt g (i * 16) (tsC x) := by
  obtain ⟨T, t1, t2⟩ := h.thr
  obtain ⟨g, cur, rfl, hN, hc, hth⟩ := h.thrW.there hi
  obtain ⟨p', cap', hv, c1, c2, c3⟩ := t2
  cases hv
  have hx : T[i]? = some (T[i]'(by omega)) := List.getElem?_eq_getElem (by omega)
  obtain ⟨g', o, e0, c4⟩ := c3 (by rintro rfl; simp at hx)
  cases e0
  obtain ⟨cs, hcs, c5⟩ := c4 i _ hx
  obtain ⟨rfl, hok⟩ := hcs
  exact ⟨g, _, cur, rfl, hN, hc, hth, hok, fun j v hj => by
    have := c5 j v hj
    rwa [Nat.zero_add] at this⟩

theorem rangeAt_set {w : World} {E : Nat} {cs : List Value} {cur : Array Value} {t : TypeId} (hE : w.heap[E]? = some (.cells cur t)) (h : w.rangeAt E 0 cs) {i : Nat} (hi : i < cs.length) (u : Value) : (w.setCell ⟨E, i, none⟩ u).rangeAt E 0 (cs.set i u) := by
  intro j v hj
  have hb := setCell_block hE i u
  have hc : ∀ q z, cs[q]? = some z → cur[q]? = some z := fun q z hq => by
    have := h q z hq
    simpa [World.cell?, hE] using this
  simp only [World.cell?, hb, Nat.zero_add]
  rw [List.getElem?_set] at hj
  split at hj
  · rename_i hij
    subst hij
    have h1 := hc i _ (List.getElem?_eq_getElem hi)
    have h2 := (Array.getElem?_eq_some_iff.1 h1).1
    obtain rfl : u = v := by simpa [hi] using hj
    simp [Array.getElem?_setIfInBounds, h2]
  · rename_i hij
    have := hc j v hj
    simp [Array.getElem?_setIfInBounds, hij, this]

def TS.putReg (x : TS) (k : Nat) (n : Int) : TS := { x with r := fun j => if j = k then n else x.r j }
theorem putReg_cells (x : TS) {k : Nat} (hk : k < 8) (n : Int) : tsC (x.putReg k n) = (tsC x).set k (.int .i64 n) := by
  match k, hk with
  | 0, _ => rfl
  | 1, _ => rfl
  | 2, _ => rfl
  | 3, _ => rfl
  | 4, _ => rfl
  | 5, _ => rfl
  | 6, _ => rfl
  | 7, _ => rfl
  | k + 8, h => omega
theorem putReg_ok {x : TS} (h : x.Ok) (k : Nat) {n : Int} (hn : I64 n) : (x.putReg k n).Ok := ⟨fun j => by
  show I64 (if j = k then n else x.r j)
  split
  · exact hn
  · exact h.r j, h.pc, h.phase, h.latch, h.status⟩

end Go.Proofs.YtpnbpjhoilibcaaDoor
