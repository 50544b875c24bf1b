/- varint.Get, whole: for any octets in a slice it returns what 'getOf' says. -/
import Derived.Test.YtgphkddcfcmaiabVGet
namespace Go.Proofs.Ytgphkddcfcmaiab
open Go.RowKit
set_option linter.unusedVariables false

/-- Get's three answers. -/
def getRet (l : List Int) : Value := .tuple #[.int .u64 (getOf l).1, .int .i64 (getOf l).2.1, .int .i64 (getOf l).2.2]

theorem getRet_short (f : Int) (r : List Int) (h : ((r.length : Int) + 1) < toldOf f) : getRet (f :: r) = .tuple #[.int .u64 0, .int .i64 0, .int .i64 8] := by
  simp only [getRet, getOf, if_pos h]
theorem getRet_bad (f : Int) (r : List Int) (k N : Int) (ht : toldOf f = k) (hl : ¬ ((r.length : Int) + 1) < k) (hN : acc (f - leadOf k) (r.take (k - 1).toNat) = N) (h : sizeOf N < k) : getRet (f :: r) = .tuple #[.int .u64 0, .int .i64 0, .int .i64 4] := by
  subst ht; subst hN
  simp only [getRet, getOf, if_neg hl, if_pos h]
theorem getRet_good (f : Int) (r : List Int) (k N : Int) (ht : toldOf f = k) (hl : ¬ ((r.length : Int) + 1) < k) (hN : acc (f - leadOf k) (r.take (k - 1).toNat) = N) (h : ¬ sizeOf N < k) : getRet (f :: r) = .tuple #[.int .u64 N, .int .i64 k, .int .i64 0] := by
  subst ht; subst hN
  simp only [getRet, getOf, if_neg hl, if_neg h]
theorem cons_of {r : List Int} (h : 0 < r.length) : ∃ x t, r = x :: t := by
  cases r with
  | nil => simp at h
  | cons x t => exact ⟨x, t, rfl⟩

end Go.Proofs.Ytgphkddcfcmaiab
