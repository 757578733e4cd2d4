/-
  A number's text, as bytes. Conditions: as each theorem names them.
-/
import Derived.Test.YtpnbpjhoilibcaaDoorNumPlain
namespace Go.Proofs.YtpnbpjhoilibcaaDoor
open Go.RowKit

/-- A number's text. -/
def txt (n : Int) : ByteArray := ⟨(Lib.itoa n).toArray⟩

theorem txt_list (n : Int) : (txt n).data.toList = Lib.itoa n := by simp [txt]
theorem txt_eq {n : Int} {s : ByteArray} (h : Lib.itoa n = s.data.toList) : txt n = s := by
  cases s with
  | mk d => cases d with
    | mk l => simp only [txt]; exact congrArg (fun x => ByteArray.mk (Array.mk x)) h
theorem txt_ne {n : Int} {s : ByteArray} (h : ¬ Lib.itoa n = s.data.toList) : txt n ≠ s := fun e => h (by rw [← e, txt_list])
theorem txt_size (n : Int) (h0 : -9223372036854775808 ≤ n) (h1 : n ≤ 9223372036854775807) : (txt n).size ≤ 21 := by
  have := Lib.itoa_length_le n h0 h1
  show (Lib.itoa n).toArray.size ≤ 21
  simpa using this

end Go.Proofs.YtpnbpjhoilibcaaDoor
