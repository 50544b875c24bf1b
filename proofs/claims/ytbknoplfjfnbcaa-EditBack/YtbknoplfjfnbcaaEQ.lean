/- What varint.Get tells of octets: a number up to a bound, and what stands behind. -/
import Derived.Test.YtbknoplfjfnbcaaVAgain
import Derived.Test.YtbknoplfjfnbcaaLBase
namespace Go.Proofs.Ytbknoplfjfnbcaa
open Go.RowKit
set_option linter.unusedVariables false

theorem getRet_inj {l : List Int} {a b c : Int} (h : getRet l = .tuple #[.int .u64 a, .int .i64 b, .int .i64 c]) : getOf l = (a, b, c) := by
  unfold getRet at h
  simp at h
  obtain ⟨h1, h2, h3⟩ := h
  rw [← h1, ← h2, ← h3]
theorem getOf_octets (n : Int) (h0 : 0 ≤ n) (h1 : n ≤ 18446744073709551615) (r : List Int) : getOf (octets n ++ r) = (n, ((octets n).length : Int), 0) := by
  rw [getRet_inj (getOf_back n h0 h1 r), ← (octets_form n h0 h1).size]

def numQ (most code : Int) (l : List Int) : Except Int (Int × List Int) :=
  if (getOf l).2.2 = 0 then (if most < (getOf l).1 then .error code else .ok ((getOf l).1, l.drop (getOf l).2.1.toNat)) else .error (getOf l).2.2
theorem numQ_back (most code n : Int) (h0 : 0 ≤ n) (h1 : n ≤ most) (hm : most ≤ 1099511627776) (r : List Int) : numQ most code (octets n ++ r) = .ok (n, r) := by
  unfold numQ
  rw [getOf_octets n h0 (by omega)]
  simp only [if_true]
  rw [if_neg (by omega), Int.toNat_natCast, List.drop_left]

end Go.Proofs.Ytbknoplfjfnbcaa
