/-
  Plain facts on numbers of 64 bits: sums taken back, bits turned twice, what both have and what one has. Conditions: the numbers lie within 64 bits.
-/
import Derived.Test.YtdmcgckfdbeblaaRows
import Derived.WalkKit
import Derived.Laws.BitsLemmas
namespace Go.Proofs.Ytdmcgckfdbeblaa
open Go.RowKit

theorem back_sub (a b : Int) (h1 : -9223372036854775808 ≤ a) (h2 : a ≤ 9223372036854775807) : wrap64 (wrap64 (a + b) - b) = a := by
  unfold wrap64
  omega

theorem wrap_nat (n : Nat) : IntKind.i64.wrap (n : Int) = wrap64 n := by
  rw [IntKind.wrap_i64]
  unfold wrap64
  with_reducible rfl

theorem wrap_mod (n : Int) : wrap64 n % 18446744073709551616 = n % 18446744073709551616 := by
  unfold wrap64
  omega
theorem wrap_of_mod {m n : Int} (h : m % 18446744073709551616 = n % 18446744073709551616) : wrap64 m = wrap64 n := by
  unfold wrap64
  omega
theorem wrap_self {a : Int} (h1 : -9223372036854775808 ≤ a) (h2 : a ≤ 9223372036854775807) : wrap64 a = a := by
  unfold wrap64
  omega

theorem toNat_of (a : Int) : ((BitVec.ofInt 64 a).toNat : Int) = a % 18446744073709551616 := by
  rw [BitVec.toNat_ofInt]
  have e : (((2 ^ 64 : Nat) : Int)) = 18446744073709551616 := by decide
  rw [e]
  exact Int.toNat_of_nonneg (Int.emod_nonneg _ (by decide))

theorem ofInt_wrap (n : Int) : BitVec.ofInt 64 (wrap64 n) = BitVec.ofInt 64 n := by
  apply BitVec.eq_of_toNat_eq
  have h := toNat_of (wrap64 n)
  rw [wrap_mod, ← toNat_of n] at h
  exact Int.ofNat.inj h

theorem ofInt_toNat (x : BitVec 64) : BitVec.ofInt 64 (x.toNat : Int) = x := by
  rw [BitVec.ofInt_natCast, BitVec.ofNat_toNat, BitVec.setWidth_eq]

theorem xor_eq (a b : Int) : bits .xor .i64 a b = wrap64 ((BitVec.ofInt 64 a ^^^ BitVec.ofInt 64 b).toNat : Nat) := by
  show IntKind.i64.wrap ((BitVec.ofInt 64 a ^^^ BitVec.ofInt 64 b).toNat : Nat) = _
  exact wrap_nat _
theorem and_eq (a b : Int) : bits .and .i64 a b = wrap64 ((BitVec.ofInt 64 a &&& BitVec.ofInt 64 b).toNat : Nat) := by
  show IntKind.i64.wrap ((BitVec.ofInt 64 a &&& BitVec.ofInt 64 b).toNat : Nat) = _
  exact wrap_nat _
theorem or_eq (a b : Int) : bits .or .i64 a b = wrap64 ((BitVec.ofInt 64 a ||| BitVec.ofInt 64 b).toNat : Nat) := by
  show IntKind.i64.wrap ((BitVec.ofInt 64 a ||| BitVec.ofInt 64 b).toNat : Nat) = _
  exact wrap_nat _

theorem back_xor (a b : Int) (h1 : -9223372036854775808 ≤ a) (h2 : a ≤ 9223372036854775807) : bits .xor .i64 (bits .xor .i64 a b) b = a := by
  rw [xor_eq (bits .xor .i64 a b) b, xor_eq a b, ofInt_wrap, ofInt_toNat, BitVec.xor_assoc, BitVec.xor_self, BitVec.xor_zero, toNat_of]
  exact (wrap_of_mod (Int.emod_emod_of_dvd _ (Int.dvd_refl _))).trans (wrap_self h1 h2)

theorem wrap_add (x y : Int) : wrap64 (wrap64 x + wrap64 y) = wrap64 (x + y) := by
  apply wrap_of_mod
  rw [Int.add_emod, wrap_mod, wrap_mod, ← Int.add_emod]

theorem bv_and_or (x y : BitVec 64) : (x &&& y) + (x ||| y) = x + y := by
  have z1 : x &&& (y &&& ~~~x) = 0#64 := by
    ext i hi
    simp
    cases x[i] <;> cases y[i] <;> simp
  have z2 : (x &&& y) &&& (y &&& ~~~x) = 0#64 := by
    ext i hi
    simp
    cases x[i] <;> cases y[i] <;> simp
  have e1 : x ||| y = x + (y &&& ~~~x) := by
    rw [BitVec.add_eq_or_of_and_eq_zero _ _ z1]
    ext i hi
    simp
    cases x[i] <;> cases y[i] <;> simp
  have e2 : (x &&& y) + (y &&& ~~~x) = y := by
    rw [BitVec.add_eq_or_of_and_eq_zero _ _ z2]
    ext i hi
    simp
    cases x[i] <;> cases y[i] <;> simp
  rw [e1, ← BitVec.add_assoc, BitVec.add_comm (x &&& y) x, BitVec.add_assoc, e2]

theorem mod_cast_eq {p q r s : Nat} (h : (p + q) % 18446744073709551616 = (r + s) % 18446744073709551616) :
    ((p : Int) + (q : Int)) % 18446744073709551616 = ((r : Int) + (s : Int)) % 18446744073709551616 := by
  omega

theorem and_or (a b : Int) : wrap64 (bits .and .i64 a b + bits .or .i64 a b) = wrap64 (a + b) := by
  rw [and_eq, or_eq, wrap_add]
  have k' := congrArg BitVec.toNat (bv_and_or (BitVec.ofInt 64 a) (BitVec.ofInt 64 b))
  rw [BitVec.toNat_add, BitVec.toNat_add] at k'
  apply wrap_of_mod
  rw [mod_cast_eq k', toNat_of, toNat_of, ← Int.add_emod]
end Go.Proofs.Ytdmcgckfdbeblaa
