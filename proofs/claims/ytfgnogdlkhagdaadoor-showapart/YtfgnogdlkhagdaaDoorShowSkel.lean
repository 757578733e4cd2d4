/-
  Programs with their labels' places struck: their texts and what the document's own comparison says of them are as before; one instruction for another. Conditions: as each theorem names them.
-/
import Derived.Test.YtfgnogdlkhagdaaDoorShowInj
import Derived.Test.YtfgnogdlkhagdaaDoorShowProg
import Derived.Test.YtfgnogdlkhagdaaDoorMadeRow
import Derived.Test.YtfgnogdlkhagdaaDoorSameProg
namespace Go.Proofs.YtfgnogdlkhagdaaDoor
open Go.RowKit
set_option linter.unusedVariables false
set_option linter.unusedSimpArgs false

def sk (z : Ins × List ByteArray) : Ins × List ByteArray := (withLabels z.1 (.slice none 0 0), z.2)
def skT (T : Thr) : Thr := T.map sk
def skP (P : List Thr) : List Thr := P.map skT

theorem insL_sk (N : List ByteArray) (z : Ins × List ByteArray) : insL N (sk z) = insL N z := rfl
theorem thrL_sk (N : List ByteArray) (T : Thr) : thrL N (skT T) = thrL N T := by
  unfold thrL skT
  rw [List.flatMap_map]
  rfl
theorem thrsL_sk (N : List ByteArray) (P : List Thr) : thrsL N (skP P) = thrsL N P := by
  unfold thrsL skP
  rw [List.flatMap_map]
  congr 1
  funext T
  exact thrL_sk N T

theorem listEq_map {α β : Type} (f : β → β → Bool) (g : α → β) : ∀ (l m : List α), listEq f (l.map g) (m.map g) = listEq (fun a b => f (g a) (g b)) l m
  | [], [] => rfl
  | [], _ :: _ => rfl
  | _ :: _, [] => rfl
  | a :: l, b :: m => by simp only [List.map_cons, listEq, listEq_map f g l m]
theorem insEq_sk (x y : Ins × List ByteArray) : insEq (sk x) (sk y) = insEq x y := rfl
theorem thrEq_sk (T U : Thr) : thrEq (skT T) (skT U) = thrEq T U := by
  unfold thrEq skT
  rw [listEq_map]
  rfl
theorem thrsEq_sk (P Q : List Thr) : listEq thrEq (skP P) (skP Q) = listEq thrEq P Q := by
  unfold skP
  rw [listEq_map]
  congr 1
  funext T U
  exact thrEq_sk T U

theorem insEq_refl (x : Ins × List ByteArray) : insEq x x = true := by simp [insEq, sameF, opdEq]
theorem listEq_refl {α : Type} {f : α → α → Bool} (h : ∀ a, f a a = true) : ∀ l : List α, listEq f l l = true
  | [] => rfl
  | a :: l => by simp only [listEq, h a, listEq_refl h l, Bool.and_self]
theorem thrEq_refl (T : Thr) : thrEq T T = true := listEq_refl insEq_refl T

theorem listEq_set {α : Type} {f : α → α → Bool} (hr : ∀ a, f a a = true) (z : α) : ∀ {l : List α} {i : Nat} {x : α}, l[i]? = some x → listEq f l (l.set i z) = f x z
  | [], i, x, h => by simp at h
  | a :: l, 0, x, h => by
    simp at h
    subst h
    simp only [List.set_cons_zero, listEq, listEq_refl hr l, Bool.and_true]
  | a :: l, i + 1, x, h => by
    simp only [List.getElem?_cons_succ] at h
    simp only [List.set_cons_succ, listEq, hr a, Bool.true_and]
    exact listEq_set hr z h

theorem flatM_set {α : Type} {f : α → List UInt8} (z : α) : ∀ {l : List α} {i : Nat} {x : α}, l[i]? = some x → ((l.set i z).flatMap f = l.flatMap f ↔ f z = f x)
  | [], i, x, h => by simp at h
  | a :: l, 0, x, h => by
    simp at h
    subst h
    simp only [List.set_cons_zero, List.flatMap_cons]
    exact List.append_left_inj _
  | a :: l, i + 1, x, h => by
    simp only [List.getElem?_cons_succ] at h
    simp only [List.set_cons_succ, List.flatMap_cons]
    rw [List.append_right_inj]
    exact flatM_set z h

theorem thr_set {N : List ByteArray} {T : Thr} {k : Nat} {x y : Ins} {L : List ByteArray} (h : T[k]? = some (x, L)) : thrL N (T.set k (y, L)) = thrL N T ↔ (insT y N).data.toList = (insT x N).data.toList := by
  unfold thrL
  rw [List.append_right_inj, flatM_set (y, L) h]
  unfold insL
  rw [List.append_right_inj, List.append_assoc, List.append_assoc, List.append_right_inj, List.append_left_inj]
theorem thrs_set {N : List ByteArray} {R : List Thr} {t : Nat} {T U : Thr} (h : R[t]? = some T) : thrsL N (R.set t U) = thrsL N R ↔ thrL N U = thrL N T := flatM_set U h

/-- One instruction for another: the text is the same just if they are. -/
theorem one_other {N : List ByteArray} (hN : Apart N) {R : List Thr} {t k : Nat} {T : Thr} {x y : Ins} {L : List ByteArray} (ht : R[t]? = some T) (hk : T[k]? = some (x, L)) (ox : x.Ok) (oy : y.Ok) (hx : insF x = 0) (hy : insF y = 0)
    (xa : lacksF x.a N = false) (xb : lacksF x.b N = false) (ya : lacksF y.a N = false) (yb : lacksF y.b N = false) :
    decide (thrsL N R = thrsL N (R.set t (T.set k (y, L)))) = listEq thrEq R (R.set t (T.set k (y, L))) := by
  rw [listEq_set thrEq_refl _ ht]
  unfold thrEq
  rw [listEq_set insEq_refl _ hk, Bool.eq_iff_iff, decide_eq_true_eq, eq_comm, thrs_set ht, thr_set hk]
  constructor
  · intro h
    obtain ⟨h1, h2, h3, h4, h5, h6⟩ := ins_same hN ox oy hx hy xa xb ya yb (bytes_ext h.symm)
    simp [insEq, sameF, opdEq, h1, h2, h3, h4, h5, h6]
  · intro h
    simp only [insEq, sameF, opdEq, Bool.and_eq_true, decide_eq_true_eq] at h
    obtain ⟨⟨⟨⟨⟨⟨h1, h2⟩, h3⟩, h4⟩, h5⟩, h6⟩, -⟩ := h
    have e : withLabels x (.slice none 0 0) = withLabels y (.slice none 0 0) := by
      obtain ⟨a1, a2, a3, ⟨p1, p2, p3, p4⟩, ⟨q1, q2, q3, q4⟩, a6, a7⟩ := x
      obtain ⟨b1, b2, b3, ⟨r1, r2, r3, r4⟩, ⟨s1, s2, s3, s4⟩, b6, b7⟩ := y
      simp only at h1 h2 h3 h4 h5 h6
      obtain ⟨c1, c2, c3, c4⟩ := h4
      obtain ⟨d1, d2, d3, d4⟩ := h5
      subst h1 h2 h3 c1 c2 c3 c4 d1 d2 d3 d4 h6
      rfl
    show (insT (withLabels y (.slice none 0 0)) N).data.toList = (insT (withLabels x (.slice none 0 0)) N).data.toList
    rw [e]

/-- Two programs made of the same acts are the same, their labels' places aside. -/
theorem made_alike {w w' : World} {N N' mn t : Nat} {l : List (List Act5)} {vs vs' : List Value} {P P' : List Thr} (htl : t ≤ l.length) (h : MadeThrs w N mn l t vs P) (h' : MadeThrs w' N' mn l t vs' P') : skP P = skP P' := by
  unfold skP
  apply List.ext_getElem?
  intro i
  rw [List.getElem?_map, List.getElem?_map]
  rcases Nat.lt_or_ge i t with hi | hi
  · have hP : i < P.length := by rw [h.plen]; exact hi
    have hP' : i < P'.length := by rw [h'.plen]; exact hi
    have hv : i < vs.length := by rw [h.vlen]; exact hi
    have hv' : i < vs'.length := by rw [h'.vlen]; exact hi
    have hl : i < l.length := by omega
    have m1 := (h.each i vs[i] P[i] l[i] (List.getElem?_eq_getElem hv) (List.getElem?_eq_getElem hP) (List.getElem?_eq_getElem hl)).is
    have m2 := (h'.each i vs'[i] P'[i] l[i] (List.getElem?_eq_getElem hv') (List.getElem?_eq_getElem hP') (List.getElem?_eq_getElem hl)).is
    rw [List.getElem?_eq_getElem hP, List.getElem?_eq_getElem hP']
    simp only [Option.map_some, Option.some.injEq]
    unfold skT
    apply List.ext_getElem?
    intro k
    rw [List.getElem?_map, List.getElem?_map]
    generalize P[i] = T at *
    generalize P'[i] = U at *
    have hlen : T.length = U.length := m1.len.trans m2.len.symm
    rcases Nat.lt_or_ge k T.length with hk | hk
    · have hk' : k < U.length := by omega
      obtain ⟨r, hr⟩ : ∃ r, (rawL l[i] (min l[i].length mn))[k]? = some r := ⟨_, List.getElem?_eq_getElem (by rw [← m1.len]; exact hk)⟩
      have a1 := m1.is k T[k].1 T[k].2 r (List.getElem?_eq_getElem hk) hr
      have a2 := m2.is k U[k].1 U[k].2 r (List.getElem?_eq_getElem hk') hr
      rw [List.getElem?_eq_getElem hk, List.getElem?_eq_getElem hk']
      simp only [Option.map_some, Option.some.injEq, sk]
      rw [a1.1, a2.1, a1.2, a2.2]
    · rw [List.getElem?_eq_none hk, List.getElem?_eq_none (by omega)]
  · rw [List.getElem?_eq_none (by rw [h.plen]; exact hi), List.getElem?_eq_none (by rw [h'.plen]; exact hi)]

end Go.Proofs.YtfgnogdlkhagdaaDoor
