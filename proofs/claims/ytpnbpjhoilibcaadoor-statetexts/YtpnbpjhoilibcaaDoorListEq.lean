/-
  Two lists held against each other, thing by thing. Conditions: none.
-/
import Derived.Test.YtpnbpjhoilibcaaDoorRows
namespace Go.Proofs.YtpnbpjhoilibcaaDoor


/-- Two lists are the same, thing by thing. -/
def listEq {α : Type} (f : α → α → Bool) : List α → List α → Bool
  | [], [] => true
  | a :: l, b :: m => f a b && listEq f l m
  | _, _ => false

theorem listEq_len {α : Type} {f : α → α → Bool} : ∀ {l m : List α}, l.length ≠ m.length → listEq f l m = false
  | [], [], h => absurd rfl h
  | [], _ :: _, _ => rfl
  | _ :: _, [], _ => rfl
  | a :: l, b :: m, h => by
    unfold listEq
    rw [listEq_len (l := l) (m := m) (by simpa using h)]
    simp

theorem listEq_not {α : Type} {f : α → α → Bool} : ∀ {l m : List α} {k : Nat} {a b : α}, l[k]? = some a → m[k]? = some b → f a b = false → listEq f l m = false
  | [], _, _, _, _, h, _, _ => by simp at h
  | _ :: _, [], _, _, _, _, h, _ => by simp at h
  | x :: l, y :: m, 0, a, b, ha, hb, h => by
    simp at ha hb
    subst ha hb
    simp [listEq, h]
  | x :: l, y :: m, k + 1, a, b, ha, hb, h => by
    simp at ha hb
    simp [listEq, listEq_not (l := l) (m := m) ha hb h]

theorem listEq_all {α : Type} {f : α → α → Bool} : ∀ {l m : List α}, l.length = m.length → (∀ (k : Nat) a b, l[k]? = some a → m[k]? = some b → f a b = true) → listEq f l m = true
  | [], [], _, _ => rfl
  | [], _ :: _, h, _ => by simp at h
  | _ :: _, [], h, _ => by simp at h
  | x :: l, y :: m, h, hf => by
    have h0 := hf 0 x y rfl rfl
    have h1 := listEq_all (f := f) (l := l) (m := m) (by simpa using h) (fun k a b ha hb => hf (k + 1) a b (by simpa using ha) (by simpa using hb))
    simp [listEq, h0, h1]

theorem listEq_self {α : Type} {f : α → α → Bool} (hf : ∀ a, f a a = true) : ∀ l, listEq f l l = true
  | [] => rfl
  | a :: l => by simp [listEq, hf a, listEq_self hf l]

theorem listEq_symm {α : Type} {f : α → α → Bool} (hf : ∀ a b, f a b = f b a) : ∀ l m, listEq f l m = listEq f m l
  | [], [] => rfl
  | [], _ :: _ => rfl
  | _ :: _, [] => rfl
  | a :: l, b :: m => by simp [listEq, hf a b, listEq_symm hf l m]

theorem listEq_trans {α : Type} {f : α → α → Bool} (hf : ∀ a b c, f a b = true → f b c = true → f a c = true) : ∀ l m n, listEq f l m = true → listEq f m n = true → listEq f l n = true
  | [], [], [], _, _ => rfl
  | [], [], _ :: _, _, h => by simp [listEq] at h
  | [], _ :: _, _, h, _ => by simp [listEq] at h
  | _ :: _, [], _, h, _ => by simp [listEq] at h
  | _ :: _, _ :: _, [], _, h => by simp [listEq] at h
  | a :: l, b :: m, c :: n, h, k => by
    simp only [listEq, Bool.and_eq_true] at h k ⊢
    exact ⟨hf a b c h.1 k.1, listEq_trans hf l m n h.2 k.2⟩

theorem listEq_iff {α : Type} {f : α → α → Bool} (hf : ∀ a b, f a b = true ↔ a = b) : ∀ l m, listEq f l m = true ↔ l = m
  | [], [] => by simp [listEq]
  | [], _ :: _ => by simp [listEq]
  | _ :: _, [] => by simp [listEq]
  | a :: l, b :: m => by simp [listEq, hf a b, listEq_iff hf l m]

end Go.Proofs.YtpnbpjhoilibcaaDoor
