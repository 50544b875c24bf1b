/- The program's check and its k-th delay. -/
import Derived.Test.YtfomogahlcmniaaBDoc
namespace Go.Proofs.Ytfomogahlcmniaa
open Go.RowKit
set_option linter.unusedVariables false
set_option linter.unusedSimpArgs false

theorem three (a b c : Int) : (¬ a ≤ b) ∨ (a ≤ b ∧ ¬ b ≤ c) ∨ (a ≤ b ∧ b ≤ c) := by omega
set_option maxHeartbeats 4000000 in
theorem checkE_any (b c n : Int) (w : World) : Calls Try.prog 15 #[limV b c n] w fun e w' => e = .returned (.int .i64 (chkP b c n)) ∧ Below w.heap.size w w' := by
  have u := hid (up_alloc w (.cells #[.int .i64 b, .int .i64 c, .int .i64 n] 24))
  have RN : ¬ LimOk b c n → Hid (chkP b c n = 4) := fun h => if_neg h
  have RY : LimOk b c n → Hid (chkP b c n = 0) := fun h => if_pos h
  unfold LimOk at RN RY
  unfold limV
  go_enter Try.func15, Try.ntmps15
  rcases three 1 b 1048576 with q0 | ⟨q0, q1⟩ | ⟨q0, q1⟩ <;> rcases three b c 1073741824 with q2 | ⟨q2, q3⟩ | ⟨q2, q3⟩ <;> rcases three 1 n 16 with q4 | ⟨q4, q5⟩ | ⟨q4, q5⟩
  all_goals first
    | (have R := RN (by omega)
       clear RN RY
       go_wp2_with fail
       go_ret
       exact ⟨by rw [R.out] <;> rfl, u.out⟩)
    | (have R := RY (by omega)
       clear RN RY
       go_wp2_with fail
       go_ret
       exact ⟨by rw [R.out] <;> rfl, u.out⟩)
end Go.Proofs.Ytfomogahlcmniaa
