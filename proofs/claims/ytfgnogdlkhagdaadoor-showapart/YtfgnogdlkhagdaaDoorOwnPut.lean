/-
  One instruction of a thread of the call's own is written over: what its readers find; all else stands. Conditions: as each theorem names them.
-/
import Derived.Test.YtfgnogdlkhagdaaDoorBookProgPlain
namespace Go.Proofs.YtfgnogdlkhagdaaDoor
open Go.RowKit
set_option linter.unusedVariables false
set_option linter.unusedSimpArgs false

/-- All blocks but one stand as they stood. -/
def Off (g : Nat) (w w' : World) : Prop := ∀ B, B ≠ g → w'.heap[B]? = w.heap[B]?
theorem Off.refl (g : Nat) (w : World) : Off g w w := fun _ _ => rfl
theorem Off.set {g : Nat} {w w' : World} (h : Off g w w') (j : Nat) (u : Value) : Off g w (w'.setCell ⟨g, j, none⟩ u) := fun B hB => by
  rw [setCell_other hB j u]; exact h B hB

theorem Off.owns {g : Nat} {w w' : World} (h : Off g w w') {base : Nat} {e : TypeId} {k : Nat} {v : Value} {n : Nat} {xs : List Value} (ho : w.ownsRow base e k v n xs) (hne : v.ownBlock ≠ some g) : w'.ownsRow base e k v n xs := by
  obtain ⟨h1, h2 | ⟨g', cap, cur, rfl, h4, h5, h6⟩⟩ := ho
  · exact ⟨h1, Or.inl h2⟩
  · exact ⟨h1, Or.inr ⟨g', cap, cur, rfl, h4, (h g' (fun e => hne (by rw [e]; rfl))).trans h5, h6⟩⟩

theorem owns_ne {w : World} {base : Nat} {e t : TypeId} {k : Nat} {v : Value} {n : Nat} {xs : List Value} (ho : w.ownsRow base e k v n xs) {g : Nat} {cur : Array Value} (hg : w.heap[g]? = some (.cells cur t)) (het : e ≠ t) : v.ownBlock ≠ some g := by
  obtain ⟨h1, ⟨rfl, -⟩ | ⟨g', cap, cur', rfl, h4, h5, h6⟩⟩ := ho
  · intro h; cases h
  · intro h
    simp only [Value.ownBlock, Option.some.injEq] at h
    subst h
    rw [hg] at h5
    cases h5
    exact het rfl

theorem OwnThr.off {g : Nat} {w w' : World} (h : Off g w w') {cur : Array Value} (hg : w.heap[g]? = some (.cells cur 54)) {N : Nat} {u : Value} {U : Thr} (ho : OwnThr w N u U) (hne : u.ownBlock ≠ some g) : OwnThr w' N u U :=
  ⟨h.owns ho.row hne, fun x hx => ⟨(ho.each x hx).1, h.owns (ho.each x hx).2.1 (owns_ne (ho.each x hx).2.1 hg (by decide)), (ho.each x hx).2.2⟩⟩

theorem XYZ.off {g : Nat} {w w' : World} (h : Off g w w') {cur : Array Value} (hg : w.heap[g]? = some (.cells cur 54)) {b : Nat} (hx : XYZ w b) : XYZ w' b := by
  refine ⟨(h _ fun e => ?_).trans hx.y, (h _ fun e => ?_).trans hx.z, (h _ fun e => ?_).trans hx.s⟩
  · have := hx.y; rw [e, hg] at this; cases this
  · have := hx.z; rw [e, hg] at this; cases this
  · have := hx.s; rw [e, hg] at this; cases this

/-- One cell of an instruction, its labels aside. -/
theorem OwnThr.cell {w : World} {N g n cap : Nat} {T : Thr} (h : OwnThr w N (.slice (some ⟨g, 0, none⟩) n cap) T) {k : Nat} {x : Ins} {L : List ByteArray} (hk : T[k]? = some (x, L)) (j : Nat) (hj : j < 13) (y : Ins) (u : Value) (he : insC (y, L) = (insC (x, L)).set j u) (hy : y.Ok) (hl : y.labels = x.labels) :
    OwnThr (w.setCell ⟨g, k * 13 + j, none⟩ u) N (.slice (some ⟨g, 0, none⟩) n cap) (T.set k (y, L)) := by
  obtain ⟨rfl, -, cur, hg⟩ := h.at
  refine ⟨?_, fun z hz => ?_⟩
  · rw [List.length_set, flatC_set insC 13 insC_len T k j (x, L) (y, L) u hk hj he]
    exact owns_set_own h.row u
  · rcases mem_set hz with hz | rfl
    · exact ⟨(h.each z hz).1, owns_set_other (h.each z hz).2.1 hg (fun cs fz e0 => by cases e0) _ _, (h.each z hz).2.2⟩
    · have hx := h.each _ (List.mem_of_getElem? hk)
      exact ⟨hy, by rw [hl]; exact owns_set_other hx.2.1 hg (fun cs fz e0 => by cases e0) _ _, hx.2.2⟩

theorem set_at {α : Type} {l : List α} {k : Nat} {a b : α} (h : l[k]? = some a) : (l.set k b)[k]? = some b := by
  rw [List.getElem?_set_self (List.getElem?_eq_some_iff.1 h).1]

/-- The world behind the thirteen stores. -/
def put13 (w : World) (g o : Nat) (y : Ins) : World :=
  ((((((((((((w.setCell ⟨g, o, none⟩ (.int .i64 y.op)).setCell ⟨g, o + 1, none⟩ (.bool y.lock)).setCell ⟨g, o + 2, none⟩ (.int .i64 y.cond)).setCell ⟨g, o + 3, none⟩ (.int .i64 y.a.kind)).setCell ⟨g, o + 4, none⟩ (.int .i64 y.a.reg)).setCell ⟨g, o + 5, none⟩ (.int .i64 y.a.sym)).setCell ⟨g, o + 6, none⟩ (.int .i64 y.a.n)).setCell ⟨g, o + 7, none⟩ (.int .i64 y.b.kind)).setCell ⟨g, o + 8, none⟩ (.int .i64 y.b.reg)).setCell ⟨g, o + 9, none⟩ (.int .i64 y.b.sym)).setCell ⟨g, o + 10, none⟩ (.int .i64 y.b.n)).setCell ⟨g, o + 11, none⟩ (.string y.dest)).setCell ⟨g, o + 12, none⟩ y.labels

theorem put13_off (w : World) (g o : Nat) (y : Ins) : Off g w (put13 w g o y) :=
  ((((((((((((((Off.refl g w).set _ _).set _ _).set _ _).set _ _).set _ _).set _ _).set _ _).set _ _).set _ _).set _ _).set _ _).set _ _).set _ _)
theorem put13_later {a w : World} (h : Later a w) {g : Nat} (hg : a.heap.size ≤ g) (o : Nat) (y : Ins) : Later a (put13 w g o y) :=
  ((((((((((((((h.setCell hg _ _).setCell hg _ _).setCell hg _ _).setCell hg _ _).setCell hg _ _).setCell hg _ _).setCell hg _ _).setCell hg _ _).setCell hg _ _).setCell hg _ _).setCell hg _ _).setCell hg _ _).setCell hg _ _))

theorem OwnThr.put {w : World} {N g n cap : Nat} {T : Thr} (h : OwnThr w N (.slice (some ⟨g, 0, none⟩) n cap) T) {k : Nat} {x : Ins} {L : List ByteArray} (hk : T[k]? = some (x, L)) (y : Ins) (hy : y.Ok) (hl : y.labels = x.labels) :
    OwnThr (put13 w g (k * 13) y) N (.slice (some ⟨g, 0, none⟩) n cap) (T.set k (y, L)) := by
  have hx := (h.each _ (List.mem_of_getElem? hk)).1
  obtain ⟨op, lock, cond, ⟨ak, ar, ay, an⟩, ⟨bk, br, bs, bn⟩, dest, lb⟩ := x
  obtain ⟨op', lock', cond', ⟨ak', ar', ay', an'⟩, ⟨bk', br', bs', bn'⟩, dest', lb'⟩ := y
  dsimp only at hl
  subst hl
  obtain ⟨x1, x2, ⟨x3, x4, x5, x6⟩, ⟨x7, x8, x9, x10⟩, x11⟩ := hx
  obtain ⟨y1, y2, ⟨y3, y4, y5, y6⟩, ⟨y7, y8, y9, y10⟩, y11⟩ := hy
  dsimp only at *
  have s0 := h.cell hk 0 (by omega) ⟨op', lock, cond, ⟨ak, ar, ay, an⟩, ⟨bk, br, bs, bn⟩, dest, lb'⟩ (.int .i64 op') rfl ⟨y1, x2, ⟨x3, x4, x5, x6⟩, ⟨x7, x8, x9, x10⟩, x11⟩ rfl
  have k0 := set_at (b := ((⟨op', lock, cond, ⟨ak, ar, ay, an⟩, ⟨bk, br, bs, bn⟩, dest, lb'⟩ : Ins), L)) hk
  have s1 := s0.cell k0 1 (by omega) ⟨op', lock', cond, ⟨ak, ar, ay, an⟩, ⟨bk, br, bs, bn⟩, dest, lb'⟩ (.bool lock') rfl ⟨y1, x2, ⟨x3, x4, x5, x6⟩, ⟨x7, x8, x9, x10⟩, x11⟩ rfl
  rw [List.set_set] at s1
  have k1 := set_at (b := ((⟨op', lock', cond, ⟨ak, ar, ay, an⟩, ⟨bk, br, bs, bn⟩, dest, lb'⟩ : Ins), L)) hk
  have s2 := s1.cell k1 2 (by omega) ⟨op', lock', cond', ⟨ak, ar, ay, an⟩, ⟨bk, br, bs, bn⟩, dest, lb'⟩ (.int .i64 cond') rfl ⟨y1, y2, ⟨x3, x4, x5, x6⟩, ⟨x7, x8, x9, x10⟩, x11⟩ rfl
  rw [List.set_set] at s2
  have k2 := set_at (b := ((⟨op', lock', cond', ⟨ak, ar, ay, an⟩, ⟨bk, br, bs, bn⟩, dest, lb'⟩ : Ins), L)) hk
  have s3 := s2.cell k2 3 (by omega) ⟨op', lock', cond', ⟨ak', ar, ay, an⟩, ⟨bk, br, bs, bn⟩, dest, lb'⟩ (.int .i64 ak') rfl ⟨y1, y2, ⟨y3, x4, x5, x6⟩, ⟨x7, x8, x9, x10⟩, x11⟩ rfl
  rw [List.set_set] at s3
  have k3 := set_at (b := ((⟨op', lock', cond', ⟨ak', ar, ay, an⟩, ⟨bk, br, bs, bn⟩, dest, lb'⟩ : Ins), L)) hk
  have s4 := s3.cell k3 4 (by omega) ⟨op', lock', cond', ⟨ak', ar', ay, an⟩, ⟨bk, br, bs, bn⟩, dest, lb'⟩ (.int .i64 ar') rfl ⟨y1, y2, ⟨y3, y4, x5, x6⟩, ⟨x7, x8, x9, x10⟩, x11⟩ rfl
  rw [List.set_set] at s4
  have k4 := set_at (b := ((⟨op', lock', cond', ⟨ak', ar', ay, an⟩, ⟨bk, br, bs, bn⟩, dest, lb'⟩ : Ins), L)) hk
  have s5 := s4.cell k4 5 (by omega) ⟨op', lock', cond', ⟨ak', ar', ay', an⟩, ⟨bk, br, bs, bn⟩, dest, lb'⟩ (.int .i64 ay') rfl ⟨y1, y2, ⟨y3, y4, y5, x6⟩, ⟨x7, x8, x9, x10⟩, x11⟩ rfl
  rw [List.set_set] at s5
  have k5 := set_at (b := ((⟨op', lock', cond', ⟨ak', ar', ay', an⟩, ⟨bk, br, bs, bn⟩, dest, lb'⟩ : Ins), L)) hk
  have s6 := s5.cell k5 6 (by omega) ⟨op', lock', cond', ⟨ak', ar', ay', an'⟩, ⟨bk, br, bs, bn⟩, dest, lb'⟩ (.int .i64 an') rfl ⟨y1, y2, ⟨y3, y4, y5, y6⟩, ⟨x7, x8, x9, x10⟩, x11⟩ rfl
  rw [List.set_set] at s6
  have k6 := set_at (b := ((⟨op', lock', cond', ⟨ak', ar', ay', an'⟩, ⟨bk, br, bs, bn⟩, dest, lb'⟩ : Ins), L)) hk
  have s7 := s6.cell k6 7 (by omega) ⟨op', lock', cond', ⟨ak', ar', ay', an'⟩, ⟨bk', br, bs, bn⟩, dest, lb'⟩ (.int .i64 bk') rfl ⟨y1, y2, ⟨y3, y4, y5, y6⟩, ⟨y7, x8, x9, x10⟩, x11⟩ rfl
  rw [List.set_set] at s7
  have k7 := set_at (b := ((⟨op', lock', cond', ⟨ak', ar', ay', an'⟩, ⟨bk', br, bs, bn⟩, dest, lb'⟩ : Ins), L)) hk
  have s8 := s7.cell k7 8 (by omega) ⟨op', lock', cond', ⟨ak', ar', ay', an'⟩, ⟨bk', br', bs, bn⟩, dest, lb'⟩ (.int .i64 br') rfl ⟨y1, y2, ⟨y3, y4, y5, y6⟩, ⟨y7, y8, x9, x10⟩, x11⟩ rfl
  rw [List.set_set] at s8
  have k8 := set_at (b := ((⟨op', lock', cond', ⟨ak', ar', ay', an'⟩, ⟨bk', br', bs, bn⟩, dest, lb'⟩ : Ins), L)) hk
  have s9 := s8.cell k8 9 (by omega) ⟨op', lock', cond', ⟨ak', ar', ay', an'⟩, ⟨bk', br', bs', bn⟩, dest, lb'⟩ (.int .i64 bs') rfl ⟨y1, y2, ⟨y3, y4, y5, y6⟩, ⟨y7, y8, y9, x10⟩, x11⟩ rfl
  rw [List.set_set] at s9
  have k9 := set_at (b := ((⟨op', lock', cond', ⟨ak', ar', ay', an'⟩, ⟨bk', br', bs', bn⟩, dest, lb'⟩ : Ins), L)) hk
  have s10 := s9.cell k9 10 (by omega) ⟨op', lock', cond', ⟨ak', ar', ay', an'⟩, ⟨bk', br', bs', bn'⟩, dest, lb'⟩ (.int .i64 bn') rfl ⟨y1, y2, ⟨y3, y4, y5, y6⟩, ⟨y7, y8, y9, y10⟩, x11⟩ rfl
  rw [List.set_set] at s10
  have k10 := set_at (b := ((⟨op', lock', cond', ⟨ak', ar', ay', an'⟩, ⟨bk', br', bs', bn'⟩, dest, lb'⟩ : Ins), L)) hk
  have s11 := s10.cell k10 11 (by omega) ⟨op', lock', cond', ⟨ak', ar', ay', an'⟩, ⟨bk', br', bs', bn'⟩, dest', lb'⟩ (.string dest') rfl ⟨y1, y2, ⟨y3, y4, y5, y6⟩, ⟨y7, y8, y9, y10⟩, y11⟩ rfl
  rw [List.set_set] at s11
  have k11 := set_at (b := ((⟨op', lock', cond', ⟨ak', ar', ay', an'⟩, ⟨bk', br', bs', bn'⟩, dest', lb'⟩ : Ins), L)) hk
  have s12 := s11.cell k11 12 (by omega) ⟨op', lock', cond', ⟨ak', ar', ay', an'⟩, ⟨bk', br', bs', bn'⟩, dest', lb'⟩ lb' rfl ⟨y1, y2, ⟨y3, y4, y5, y6⟩, ⟨y7, y8, y9, y10⟩, y11⟩ rfl
  rw [List.set_set] at s12
  exact s12

end Go.Proofs.YtfgnogdlkhagdaaDoor
