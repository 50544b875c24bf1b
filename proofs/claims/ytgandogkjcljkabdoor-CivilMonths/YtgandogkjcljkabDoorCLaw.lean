/- The law's own small functions, and the statement on what all calls tell. -/
import Derived.Test.YtgandogkjcljkabDoorCJoin
namespace Go.Proofs.YtgandogkjcljkabDoor
open Go.RowKit
set_option linter.unusedVariables false
set_option linter.unusedSimpArgs false

theorem num_any (x : Int) (w : World) : Calls Tryd.prog 7 #[.int .i64 x] w fun e w' => e = .returned (.int .i64 x) ∧ w' = w := by
  go_enter Tryd.func7, Tryd.ntmps7
  go_wp2
  go_ret
  exact ⟨rfl, rfl⟩
theorem mom_page : momP 951782400 = ([2000, 2, 29, 0, 0, 0, 2], 0) := by decide +kernel
set_option maxHeartbeats 400000 in
theorem alive_any (w : World) (he : Env w) : Calls Tryd.prog 4 #[] w fun e w' => e = .returned (.bool true) ∧ Below w.heap.size w w' := by
  have H1 := Split_any 951782400 w he
  rw [mom_page] at H1
  have R : retM ([2000, 2, 29, 0, 0, 0, 2], 0) = .tuple #[.agg #[.int .i64 2000, .int .i64 2, .int .i64 29, .int .i64 0, .int .i64 0, .int .i64 0, .int .i64 2], .int .i64 0] := rfl
  rw [R] at H1
  have H1 := hid H1
  clear R
  go_enter Tryd.func4, Tryd.ntmps4
  go_wp2_with fail
  refine H1.out.mono ?_
  rintro e w1 ⟨rfl, hb⟩
  go_wp2_with fail
  refine (num_any _ _).mono ?_
  rintro e w2 ⟨rfl, rfl⟩
  go_wp2
  go_ret
  exact ⟨rfl, up_al hb _⟩
end Go.Proofs.YtgandogkjcljkabDoor
