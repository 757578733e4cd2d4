/-
  Bytes as lists; lists that are laid one behind another. Conditions: none.
-/
import Derived.Test.YtpnbpjhoilibcaaDoorLater
namespace Go.Proofs.YtpnbpjhoilibcaaDoor
open Go.RowKit

theorem bytes_app (a b : ByteArray) : (a ++ b).data.toList = a.data.toList ++ b.data.toList := by simp
theorem bytes_empty (a : ByteArray) : (⟨#[]⟩ : ByteArray) ++ a = a := ByteArray.empty_append
theorem bytes_ext {a b : ByteArray} (h : a.data.toList = b.data.toList) : a = b := by
  cases a; cases b
  simpa using congrArg List.toArray h
theorem bytes_size (a : ByteArray) : a.data.toList.length = a.size := Array.length_toList

theorem flatM_next {α β : Type} (f : α → List β) {l : List α} {i : Nat} {x : α} (h : l[i]? = some x) : (l.take (i + 1)).flatMap f = (l.take i).flatMap f ++ f x := by
  rw [List.take_add_one, h]
  simp

theorem flatM_le {α β : Type} (f : α → List β) (l : List α) (i : Nat) : ((l.take i).flatMap f).length ≤ (l.flatMap f).length := by
  conv => rhs; rw [← List.take_append_drop i l]
  rw [List.flatMap_append, List.length_append]
  omega

end Go.Proofs.YtpnbpjhoilibcaaDoor
