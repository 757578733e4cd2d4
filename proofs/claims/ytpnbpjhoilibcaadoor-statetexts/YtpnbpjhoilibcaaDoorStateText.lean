/-
  A state's text, as plain recursions over lists; two states have one text just if they are the same. Conditions: none.
-/
import Derived.Test.YtpnbpjhoilibcaaDoorStateIn
import Derived.Test.YtpnbpjhoilibcaaDoorFlat
import Derived.Test.YtpnbpjhoilibcaaDoorNumTxt
namespace Go.Proofs.YtpnbpjhoilibcaaDoor
open Go.RowKit
set_option linter.unusedVariables false
set_option linter.unusedSimpArgs false

/-- Texts with commas between. -/
def joinL {α : Type} (f : α → List UInt8) : List α → List UInt8
  | [] => []
  | x :: r => f x ++ r.flatMap (fun y => 44 :: f y)

def numL (n : Int) : List UInt8 := (txt n).data.toList
def rowL (L : List Int) : List UInt8 := joinL numL L
def entL (e : Int × Int) : List UInt8 := numL e.1 ++ 61 :: numL e.2
def bufL (B : List (Int × Int)) : List UInt8 := 40 :: (joinL entL B ++ [41])
def bitL (b : Bool) : UInt8 := if b = true then 49 else 48
def regsL (x : TS) : List Int := [x.r 0, x.r 1, x.r 2, x.r 3, x.r 4, x.r 5, x.r 6, x.r 7]
def flagsL (x : TS) : List UInt8 := [bitL x.z, bitL x.s, bitL x.c, bitL x.o]
def tsL (x : TS) : List UInt8 := 124 :: (numL x.pc ++ 46 :: (numL x.phase ++ 46 :: (numL x.latch ++ 46 :: (numL x.status ++ 46 :: (flagsL x ++ 46 :: rowL (regsL x))))))
def msL (s : MSt) : List UInt8 := rowL s.mem ++ (s.thr.flatMap tsL ++ (s.bufs.flatMap bufL ++ (35 :: numL s.lock)))

theorem join_next {α : Type} (f : α → List UInt8) {L : List α} {i : Nat} {x : α} (h : L[i]? = some x) : joinL f (L.take (i + 1)) = joinL f (L.take i) ++ ((if i = 0 then [] else [44]) ++ f x) := by
  rcases L with _ | ⟨y, r⟩
  · simp at h
  rcases i with _ | i
  · simp at h
    subst h
    simp [joinL]
  · simp only [List.getElem?_cons_succ] at h
    simp only [List.take_succ_cons, joinL, Nat.succ_ne_zero, if_false]
    rw [flatM_next (fun y => 44 :: f y) h, List.append_assoc]
    rfl

theorem join_le {α : Type} (f : α → List UInt8) (L : List α) (i : Nat) : (joinL f (L.take i)).length ≤ (joinL f L).length := by
  rcases L with _ | ⟨y, r⟩
  · simp [joinL]
  rcases i with _ | i
  · simp [joinL]
  · simp only [List.take_succ_cons, joinL, List.length_append]
    have := flatM_le (fun y => 44 :: f y) r i
    omega

/-! ### Two texts that are one -/

def NumB (c : UInt8) : Prop := c.toNat = 45 ∨ (48 ≤ c.toNat ∧ c.toNat ≤ 57)
/-- What is left begins with no byte of a number, and with no comma. -/
def Stop (s : List UInt8) : Prop := ∀ c r, s = c :: r → ¬ NumB c ∧ c ≠ 44
theorem stop_nil : Stop [] := fun c r h => by cases h
theorem stop_cons {c : UInt8} {r : List UInt8} (h : ¬ NumB c) (k : c ≠ 44) : Stop (c :: r) := fun d t e => by cases e; exact ⟨h, k⟩
/-- .. but perhaps with a comma. -/
def Halt (s : List UInt8) : Prop := ∀ c r, s = c :: r → ¬ NumB c
theorem Stop.halt {s : List UInt8} (h : Stop s) : Halt s := fun c r e => (h c r e).1
theorem halt_cons {c : UInt8} {r : List UInt8} (h : ¬ NumB c) : Halt (c :: r) := fun d t e => by cases e; exact h

theorem cut_num : ∀ (u v s t : List UInt8), (∀ c ∈ u, NumB c) → (∀ c ∈ v, NumB c) → Halt s → Halt t → u ++ s = v ++ t → u = v ∧ s = t
  | [], [], s, t, _, _, _, _, h => ⟨rfl, h⟩
  | [], c :: v, s, t, _, hv, hs, _, h => absurd (hv c (List.mem_cons_self ..)) (hs c _ h)
  | c :: u, [], s, t, hu, _, _, ht, h => absurd (hu c (List.mem_cons_self ..)) (ht c _ h.symm)
  | c :: u, d :: v, s, t, hu, hv, hs, ht, h => by
    simp only [List.cons_append, List.cons.injEq] at h
    obtain ⟨h1, h2⟩ := cut_num u v s t (fun x hx => hu x (List.mem_cons_of_mem _ hx)) (fun x hx => hv x (List.mem_cons_of_mem _ hx)) hs ht h.2
    exact ⟨by rw [h.1, h1], h2⟩

theorem itoa_inj {a b : Int} (h : Lib.itoa a = Lib.itoa b) : a = b := by
  unfold Lib.itoa at h
  have hd : ∀ u v : Nat, Lib.decDigits u = Lib.decDigits v → u = v := fun u v e => by rw [← spell_dec u, ← spell_dec v, e]
  have hm : ∀ u v : Nat, ¬ (45 :: Lib.decDigits u = Lib.decDigits v) := fun u v e => by
    have := dec_digs v 45 (by rw [← e]; exact List.mem_cons_self ..)
    have h45 : (45 : UInt8).toNat = 45 := rfl
    omega
  split at h <;> split at h
  · have := hd _ _ (List.cons.inj h).2
    omega
  · exact absurd h (hm _ _)
  · exact absurd h.symm (hm _ _)
  · have := hd _ _ h
    omega

theorem num_bytes (n : Int) : ∀ c ∈ numL n, NumB c := by
  unfold numL
  rw [txt_list]
  exact itoa_bytes n
theorem num_ne (n : Int) : ∃ c r, numL n = c :: r ∧ NumB c := by
  have h := num_bytes n
  unfold numL at *
  rw [txt_list] at *
  cases hn : Lib.itoa n with
  | nil => exact absurd hn (itoa_ne_nil n)
  | cons c r => exact ⟨c, r, rfl, h c (by rw [hn]; exact List.mem_cons_self ..)⟩

theorem cut_n {a b : Int} {s t : List UInt8} (hs : Halt s) (ht : Halt t) (h : numL a ++ s = numL b ++ t) : a = b ∧ s = t := by
  obtain ⟨h1, h2⟩ := cut_num _ _ s t (num_bytes a) (num_bytes b) hs ht h
  unfold numL at h1
  rw [txt_list, txt_list] at h1
  exact ⟨itoa_inj h1, h2⟩

theorem not_num {c : UInt8} (h : c = 46 ∨ c = 61 ∨ c = 40 ∨ c = 41 ∨ c = 35 ∨ c = 124 ∨ c = 44) : ¬ NumB c := by
  rcases h with rfl | rfl | rfl | rfl | rfl | rfl | rfl <;> (unfold NumB; decide)

/-- Texts, each behind the same byte. -/
theorem cut_rows {α : Type} {E : α → α → Bool} {f : α → List UInt8} {c : UInt8} (hc : ¬ NumB c) (Q : List UInt8 → Prop) (hq : ∀ s, Q s → ∀ r, s ≠ c :: r)
    (hf : ∀ a b s t, (Q s ∨ ∃ r, s = c :: r) → (Q t ∨ ∃ r, t = c :: r) → f a ++ s = f b ++ t → E a b = true ∧ s = t) :
    ∀ (L M : List α) (s t : List UInt8), Q s → Q t → L.flatMap (fun y => c :: f y) ++ s = M.flatMap (fun y => c :: f y) ++ t → listEq E L M = true ∧ s = t
  | [], [], s, t, _, _, h => ⟨rfl, h⟩
  | [], b :: M, s, t, hs, _, h => absurd h (hq s hs _)
  | a :: L, [], s, t, _, ht, h => absurd h.symm (hq t ht _)
  | a :: L, b :: M, s, t, hs, ht, h => by
    have st : ∀ (L : List α) (s : List UInt8), Q s → (Q (L.flatMap (fun y => c :: f y) ++ s) ∨ ∃ r, L.flatMap (fun y => c :: f y) ++ s = c :: r) := fun L s hs => by
      cases L with
      | nil => exact Or.inl hs
      | cons x L => exact Or.inr ⟨_, rfl⟩
    simp only [List.flatMap_cons, List.cons_append, List.cons.injEq, true_and, List.append_assoc] at h
    obtain ⟨h1, h2⟩ := hf a b _ _ (st L s hs) (st M t ht) h
    obtain ⟨h3, h4⟩ := cut_rows hc Q hq hf L M s t hs ht h2
    exact ⟨by simp [listEq, h1, h3], h4⟩

theorem cut_join {α : Type} {E : α → α → Bool} {f : α → List UInt8} (hne : ∀ a, ∃ c r, f a = c :: r ∧ NumB c) (hf : ∀ a b s t, Halt s → Halt t → f a ++ s = f b ++ t → E a b = true ∧ s = t) :
    ∀ (L M : List α) (s t : List UInt8), Stop s → Stop t → joinL f L ++ s = joinL f M ++ t → listEq E L M = true ∧ s = t
  | [], [], s, t, _, _, h => ⟨rfl, h⟩
  | [], b :: M, s, t, hs, _, h => by
    obtain ⟨c, r, e, hc⟩ := hne b
    simp only [joinL, e, List.nil_append, List.cons_append] at h
    exact absurd hc (hs c _ h).1
  | a :: L, [], s, t, _, ht, h => by
    obtain ⟨c, r, e, hc⟩ := hne a
    simp only [joinL, e, List.nil_append, List.cons_append] at h
    exact absurd hc (ht c _ h.symm).1
  | a :: L, b :: M, s, t, hs, ht, h => by
    have st : ∀ (L : List α) (s : List UInt8), Stop s → Halt (L.flatMap (fun y => 44 :: f y) ++ s) := fun L s hs => by
      cases L with
      | nil => exact hs.halt
      | cons x L => exact halt_cons (not_num (by simp))
    simp only [joinL, List.append_assoc] at h
    obtain ⟨h1, h2⟩ := hf a b _ _ (st L s hs) (st M t ht) h
    obtain ⟨h3, h4⟩ := cut_rows (E := E) (f := f) (c := 44) (not_num (by simp)) Stop (fun s hs r e => (hs 44 r e).2 rfl)
      (fun a b s t hs ht => hf a b s t (by rcases hs with hs | ⟨r, rfl⟩; exact hs.halt; exact halt_cons (not_num (by simp))) (by rcases ht with ht | ⟨r, rfl⟩; exact ht.halt; exact halt_cons (not_num (by simp)))) L M s t hs ht h2
    exact ⟨by simp [listEq, h1, h3], h4⟩

theorem cut_row (L M : List Int) (s t : List UInt8) (hs : Stop s) (ht : Stop t) (h : rowL L ++ s = rowL M ++ t) : listEq intEq L M = true ∧ s = t :=
  cut_join (fun a => num_ne a) (fun a b s t hs ht h => by
    obtain ⟨rfl, h2⟩ := cut_n hs ht h
    exact ⟨(intEq_iff _ _).2 rfl, h2⟩) L M s t hs ht h

theorem cut_ent (a b : Int × Int) (s t : List UInt8) (hs : Halt s) (ht : Halt t) (h : entL a ++ s = entL b ++ t) : entEq a b = true ∧ s = t := by
  obtain ⟨a1, a2⟩ := a
  obtain ⟨b1, b2⟩ := b
  simp only [entL, List.append_assoc, List.cons_append] at h
  obtain ⟨rfl, h2⟩ := cut_n (halt_cons (not_num (by simp))) (halt_cons (not_num (by simp))) h
  obtain ⟨rfl, h3⟩ := cut_n hs ht (List.cons.inj h2).2
  exact ⟨by simp [entEq], h3⟩

theorem ent_ne (a : Int × Int) : ∃ c r, entL a = c :: r ∧ NumB c := by
  obtain ⟨c, r, e, hc⟩ := num_ne a.1
  exact ⟨c, _, by unfold entL; rw [e]; rfl, hc⟩

theorem bit_inj {a b : Bool} (h : bitL a = bitL b) : a = b := by cases a <;> cases b <;> simp_all [bitL]

theorem cut_ts (a b : TS) (s t : List UInt8) (hs : Stop s) (ht : Stop t)
    (h : (numL a.pc ++ 46 :: (numL a.phase ++ 46 :: (numL a.latch ++ 46 :: (numL a.status ++ 46 :: (flagsL a ++ 46 :: rowL (regsL a)))))) ++ s = (numL b.pc ++ 46 :: (numL b.phase ++ 46 :: (numL b.latch ++ 46 :: (numL b.status ++ 46 :: (flagsL b ++ 46 :: rowL (regsL b)))))) ++ t) : tsEq a b = true ∧ s = t := by
  have n46 : ¬ NumB 46 := not_num (by simp)
  simp only [List.append_assoc, List.cons_append] at h
  obtain ⟨h1, h⟩ := cut_n (halt_cons n46) (halt_cons n46) h
  obtain ⟨h2, h⟩ := cut_n (halt_cons n46) (halt_cons n46) (List.cons.inj h).2
  obtain ⟨h3, h⟩ := cut_n (halt_cons n46) (halt_cons n46) (List.cons.inj h).2
  obtain ⟨h4, h⟩ := cut_n (halt_cons n46) (halt_cons n46) (List.cons.inj h).2
  simp only [flagsL, List.cons_append, List.nil_append, List.cons.injEq, true_and] at h
  obtain ⟨h5, h6, h7, h8, h⟩ := h
  obtain ⟨h9, h⟩ := cut_row _ _ s t hs ht h
  refine ⟨(tsEq_iff a b).2 ⟨fun k hk => ?_, bit_inj h5, bit_inj h6, bit_inj h7, bit_inj h8, h1, h2, h3, h4⟩, h⟩
  have h10 := (listEq_iff intEq_iff _ _).1 h9
  simp only [regsL, List.cons.injEq, and_true] at h10
  obtain ⟨g0, g1, g2, g3, g4, g5, g6, g7⟩ := h10
  match k, hk with
  | 0, _ => exact g0
  | 1, _ => exact g1
  | 2, _ => exact g2
  | 3, _ => exact g3
  | 4, _ => exact g4
  | 5, _ => exact g5
  | 6, _ => exact g6
  | 7, _ => exact g7
  | k + 8, h => omega

theorem regs_same {a b : TS} (h : ∀ k, k < 8 → a.r k = b.r k) : regsL a = regsL b := by
  simp only [regsL, h 0 (by omega), h 1 (by omega), h 2 (by omega), h 3 (by omega), h 4 (by omega), h 5 (by omega), h 6 (by omega), h 7 (by omega)]

theorem ts_same {a b : TS} (h : tsEq a b = true) : tsL a = tsL b := by
  obtain ⟨h0, h1, h2, h3, h4, h5, h6, h7, h8⟩ := (tsEq_iff a b).1 h
  simp only [tsL, flagsL, regs_same h0, h1, h2, h3, h4, h5, h6, h7, h8]

theorem rows_same {L M : List TS} (h : listEq tsEq L M = true) : L.flatMap tsL = M.flatMap tsL := by
  induction L generalizing M with
  | nil => cases M with
    | nil => rfl
    | cons b M => simp [listEq] at h
  | cons a L ih => cases M with
    | nil => simp [listEq] at h
    | cons b M =>
      simp only [listEq, Bool.and_eq_true] at h
      simp only [List.flatMap_cons, ts_same h.1, ih h.2]

/-- P1303: two states have one text just if they are the same. -/
theorem ms_text (a b : MSt) : msL a = msL b ↔ msEq a b = true := by
  rw [msEq_iff]
  constructor
  · intro h
    unfold msL at h
    have n40 : ¬ NumB 40 := not_num (by simp)
    have n35 : ¬ NumB 35 := not_num (by simp)
    have n124 : ¬ NumB 124 := not_num (by simp)
    have q35 : ∀ r, Stop (35 :: r) := fun r => stop_cons n35 (by decide)
    have qb : ∀ (B : List (List (Int × Int))) r, Stop (B.flatMap bufL ++ 35 :: r) ∧ ∀ x, B.flatMap bufL ++ 35 :: r ≠ 124 :: x := fun B r => by
      cases B with
      | nil => exact ⟨q35 r, fun x e => by simp at e⟩
      | cons x B => exact ⟨stop_cons n40 (by decide), fun x e => by simp [bufL] at e⟩
    have qt : ∀ (T : List TS) (B : List (List (Int × Int))) r, Stop (T.flatMap tsL ++ (B.flatMap bufL ++ 35 :: r)) := fun T B r => by
      cases T with
      | nil => exact (qb B r).1
      | cons x T => exact stop_cons n124 (by decide)
    obtain ⟨h1, h⟩ := cut_row _ _ _ _ (qt _ _ _) (qt _ _ _) h
    obtain ⟨h2, h⟩ := cut_rows (E := tsEq) (c := 124) (f := fun x => numL x.pc ++ 46 :: (numL x.phase ++ 46 :: (numL x.latch ++ 46 :: (numL x.status ++ 46 :: (flagsL x ++ 46 :: rowL (regsL x)))))) n124
      (fun s => Stop s ∧ ∀ x, s ≠ 124 :: x) (fun s hs r => hs.2 r)
      (fun a b s t hs ht h => cut_ts a b s t (by rcases hs with hs | ⟨r, rfl⟩; exact hs.1; exact stop_cons n124 (by decide)) (by rcases ht with ht | ⟨r, rfl⟩; exact ht.1; exact stop_cons n124 (by decide)) h) _ _ _ _ (qb _ _) (qb _ _) h
    obtain ⟨h3, h⟩ := cut_rows (E := bufEq) (c := 40) (f := fun B => joinL entL B ++ [41]) n40 (fun s => Stop s ∧ ∀ x, s ≠ 40 :: x) (fun s hs r => hs.2 r)
      (fun a b s t hs ht h => by
        simp only [List.append_assoc, List.cons_append, List.nil_append] at h
        have n41 : ¬ NumB 41 := not_num (by simp)
        obtain ⟨k1, k2⟩ := cut_join ent_ne cut_ent a b _ _ (stop_cons n41 (by decide)) (stop_cons n41 (by decide)) h
        exact ⟨k1, (List.cons.inj k2).2⟩) _ _ _ _ ⟨q35 _, fun x e => by simp at e⟩ ⟨q35 _, fun x e => by simp at e⟩ h
    have h4 := (List.cons.inj h).2
    have h5 := (cut_n (s := []) (t := []) stop_nil.halt stop_nil.halt (by simpa using h4)).1
    exact ⟨(listEq_iff intEq_iff _ _).1 h1, h2, (listEq_iff bufEq_iff _ _).1 h3, h5⟩
  · rintro ⟨h1, h2, h3, h4⟩
    unfold msL
    rw [h1, rows_same h2, h3, h4]

end Go.Proofs.YtpnbpjhoilibcaaDoor
