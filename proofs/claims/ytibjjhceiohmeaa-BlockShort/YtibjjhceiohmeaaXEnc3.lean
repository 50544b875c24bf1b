/- The document's Encode of layer 9, whatever it is given. -/
import Derived.Test.YtibjjhceiohmeaaXEnc2
namespace Go.Proofs.Ytibjjhceiohmeaa
open Go.RowKit SumPlain
set_option linter.unusedVariables false

theorem refEncB_any (l : List En) (v : Value) (w : World) (hv : EntsR w v l) :
    Calls Try.prog 12 #[v] w fun e w' => ∃ v', e = .returned (.tuple #[v', .int .i64 (encB l).2]) ∧ OwnB w' w.heap.size v' (encB l).1 ∧ Below w.heap.size w w' := by
  obtain ⟨a, c, rfl, hc, hm⟩ := hv.len
  by_cases h0 : chkB l = 0
  · have e : encB l = (guardOf (blockO l), 0) := by unfold encB; rw [if_pos h0]
    rw [e]
    exact refEncode_good l a c w hv h0
  · have e : encB l = ([], chkB l) := by unfold encB; rw [if_neg h0]
    rw [e]
    have HC : Hid (Calls Try.prog 21 #[.slice a l.length c] w fun e w' => e = .returned (.int .i64 (chkB l)) ∧ Hid (Below w.heap.size w w')) := refCheckB_any l _ w hv
    generalize chkB l = q at *
    have hq1 : (q == 0) = false := by simp [h0]
    have hq2 : (q != 0) = true := by simp [h0]
    clear hv
    go_enter Try.func12, Try.ntmps12
    go_wp2_with fail
    refine HC.out.mono ?_
    rintro e w1 ⟨rfl, b1⟩
    go_wp2_with fail
    go_ret2
    exact ⟨_, rfl, OwnB.nil _ _, b1.out⟩
end Go.Proofs.Ytibjjhceiohmeaa
