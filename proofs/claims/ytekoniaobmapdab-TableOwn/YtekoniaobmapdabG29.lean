/- The texts TNum, GGet, in this order. -/
import Derived.Test.YtekoniaobmapdabTBuild
import Derived.Test.YtekoniaobmapdabFMath
import Derived.Test.YtekoniaobmapdabVRefGet

/- The document's number of layer 10. -/
namespace Go.Proofs.Ytekoniaobmapdab
open Go.RowKit SumPlain
set_option linter.unusedVariables false
set_option linter.unusedSimpArgs false

theorem bits_or_i64_nat (a b : Nat) (ha : a < 9223372036854775808) (hb : b < 9223372036854775808) :
    bits .or .i64 (a : Int) (b : Int) = ((a ||| b : Nat) : Int) := by
  have hx : a ||| b < 2 ^ 63 := Nat.or_lt_two_pow (by omega) (by omega)
  have h1 : (BitVec.ofInt 64 (a : Int)).toNat = a := by
    rw [BitVec.ofInt_natCast, BitVec.toNat_ofNat]; exact Nat.mod_eq_of_lt (by omega)
  have h2 : (BitVec.ofInt 64 (b : Int)).toNat = b := by
    rw [BitVec.ofInt_natCast, BitVec.toNat_ofNat]; exact Nat.mod_eq_of_lt (by omega)
  show IntKind.i64.wrap ((BitVec.ofInt 64 (a : Int) ||| BitVec.ofInt 64 (b : Int)).toNat : Int) = _
  rw [BitVec.toNat_or, h1, h2, IntKind.wrap_i64]
  omega
theorem or_add (k : Nat) (A y : Int) (hA : 0 ≤ A) (hA2 : A ≤ 4294967295) (hk : k ≤ 24) (hy : 0 ≤ y) (hy2 : y < ((2 ^ k : Nat) : Int)) : bits .or .i64 (A * ((2 ^ k : Nat) : Int)) y = A * ((2 ^ k : Nat) : Int) + y := by
  obtain ⟨a, rfl⟩ := Int.eq_ofNat_of_zero_le hA
  obtain ⟨b, rfl⟩ := Int.eq_ofNat_of_zero_le hy
  have hp : 2 ^ k ≤ 2 ^ 24 := Nat.pow_le_pow_right (by omega) hk
  have hm : a * 2 ^ k ≤ 4294967295 * 2 ^ 24 := Nat.mul_le_mul (by omega) hp
  rw [← Int.natCast_mul, bits_or_i64_nat _ _ (by omega) (by omega)]
  have h := Nat.shiftLeft_add_eq_or_of_lt (b := b) (i := k) (by omega) a
  rw [Nat.shiftLeft_eq] at h
  rw [← h]
  simp

end Go.Proofs.Ytekoniaobmapdab

/- The document's own Get over any octets: it answers what 'fget' says. -/
namespace Go.Proofs.Ytekoniaobmapdab
open Go.RowKit SumPlain
set_option linter.unusedVariables false
set_option maxRecDepth 20000

end Go.Proofs.Ytekoniaobmapdab
