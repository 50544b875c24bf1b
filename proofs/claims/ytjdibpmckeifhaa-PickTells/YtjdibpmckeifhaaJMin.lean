/- min and max of two texts. -/
import Derived.Test.YtjdibpmckeifhaaPMath
import Derived.Test.YtjdibpmckeifhaaKBase
namespace Go.Proofs.Ytjdibpmckeifhaa
open Go.RowKit
set_option linter.unusedVariables false
set_option linter.unusedSimpArgs false

theorem run_minK {P : Program} (w : World) (ts : Array TypeId) (t : TypeId) (x y : ByteArray) : (Builtin.min_ ts t #[.string x, .string y]).run P w = .ok (.string (minK x y)) w := by
  unfold minK
  by_cases h : Op.bytesLess y.toList x.toList = true
  · have h2 := leM_not.2 h
    unfold leM at h2
    rw [Bool.or_eq_false_iff] at h2
    rw [if_pos h]
    simp [Builtin.min_, Builtin.min2, Op.stringOp, asBool, h2.1]
    intro e
    have := h2.2
    simp [e] at this
  · have h2 : leM x y = true := leM_of_not h
    unfold leM at h2
    rw [if_neg h]
    simp only [Bool.or_eq_true, beq_iff_eq] at h2
    simp [Builtin.min_, Builtin.min2, Op.stringOp, asBool]
    rcases h2 with q | q
    · simp [q]
    · intro _ q2
      exact absurd q q2
theorem run_maxK {P : Program} (w : World) (ts : Array TypeId) (t : TypeId) (x y : ByteArray) : (Builtin.max_ ts t #[.string x, .string y]).run P w = .ok (.string (maxK x y)) w := by
  unfold maxK
  by_cases h : Op.bytesLess x.toList y.toList = true
  · rw [if_pos h]
    simp [Builtin.max_, Builtin.max2, Op.stringOp, asBool, h]
  · rw [if_neg h]
    simp [Builtin.max_, Builtin.max2, Op.stringOp, asBool, h]
end Go.Proofs.Ytjdibpmckeifhaa
