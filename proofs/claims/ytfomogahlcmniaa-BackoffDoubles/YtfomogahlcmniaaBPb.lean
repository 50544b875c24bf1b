/- What is wanted of the program; the page's example. -/
import Derived.Test.YtfomogahlcmniaaBTot
namespace Go.Proofs.Ytfomogahlcmniaa
open Go.RowKit
set_option linter.unusedVariables false
set_option linter.unusedSimpArgs false

/-- What the program's calls say, in every world that has grown out of w. -/
structure Pb (w : World) : Prop where
  check : ∀ b c n w', Below w.heap.size w w' → Calls Try.prog 15 #[limV b c n] w' fun e w'' => e = .returned (.int .i64 (chkP b c n)) ∧ Below w'.heap.size w' w''
  delay : ∀ b c n k w', k ≤ 9223372036854775807 → Below w.heap.size w w' → Calls Try.prog 8 #[limV b c n, .int .i64 k] w' fun e w'' => e = .returned (.tuple #[.int .i64 (delayP b c n k).1, .int .i64 (delayP b c n k).2]) ∧ Below w'.heap.size w' w''
  due : ∀ b c n now k w', k ≤ 9223372036854775807 → Below w.heap.size w w' → Calls Try.prog 10 #[limV b c n, .int .i64 now, .int .i64 k] w' fun e w'' => e = .returned (.tuple #[.int .i64 (dueP b c n now k).1, .int .i64 (dueP b c n now k).2]) ∧ Below w'.heap.size w' w''
  total : ∀ b c n w', Below w.heap.size w w' → Calls Try.prog 12 #[limV b c n] w' fun e w'' => e = .returned (.tuple #[.int .i64 (totalP b c n).1, .int .i64 (totalP b c n).2]) ∧ Below w'.heap.size w' w''
theorem num_any (x : Int) (w : World) : Calls Try.prog 14 #[.int .i64 x] w fun e w' => e = .returned (.int .i64 x) ∧ w' = w := by
  go_enter Try.func14, Try.ntmps14
  go_wp2
  go_ret
  exact ⟨rfl, rfl⟩
set_option maxHeartbeats 1000000 in
theorem alive_any (w : World) (hp : Pb w) (w0 : World) (h0 : Below w.heap.size w w0) : Calls Try.prog 17 #[] w0 fun e w' => e = .returned (.bool true) ∧ Below w0.heap.size w0 w' := by
  have H1 : Hid (∀ w', Below w.heap.size w w' → Calls Try.prog 8 #[.agg #[.int .i64 3, .int .i64 20, .int .i64 6], .int .i64 2] w' fun e w'' => e = .returned (.tuple #[.int .i64 12, .int .i64 0]) ∧ Below w'.heap.size w' w'') := fun w' hb => hp.delay 3 20 6 2 w' (by decide) hb
  have H2 : Hid (∀ w', Below w.heap.size w w' → Calls Try.prog 8 #[.agg #[.int .i64 3, .int .i64 20, .int .i64 6], .int .i64 3] w' fun e w'' => e = .returned (.tuple #[.int .i64 20, .int .i64 0]) ∧ Below w'.heap.size w' w'') := fun w' hb => hp.delay 3 20 6 3 w' (by decide) hb
  have H3 : Hid (∀ w', Below w.heap.size w w' → Calls Try.prog 12 #[.agg #[.int .i64 3, .int .i64 20, .int .i64 6]] w' fun e w'' => e = .returned (.tuple #[.int .i64 61, .int .i64 0]) ∧ Below w'.heap.size w' w'') := fun w' hb => hp.total 3 20 6 w' hb
  clear hp
  have k0 := hid (blk_new w0 (.cells #[.int .i64 3, .int .i64 20, .int .i64 6] 24))
  have u0 := hid (up_alloc w0 (.cells #[.int .i64 3, .int .i64 20, .int .i64 6] 24))
  have Uu0 := hid (up_trans h0 u0.out)
  clear h0
  go_enter Try.func17, Try.ntmps17
  go_wp2_with fail
  refine (H1.out _ Uu0.out).mono ?_
  rintro e w1 ⟨rfl, hb⟩
  have k1 := hid (blk_up k0.out hb)
  have u1 := hid (up_trans u0.out hb)
  have Uu1 := hid (up_trans Uu0.out hb)
  clear hb
  have z0 := blk_cell k1.out 0 _ rfl
  have z1 := blk_cell k1.out 1 _ rfl
  have z2 := blk_cell k1.out 2 _ rfl
  go_wp2_with fail
  clear z0 z1 z2
  refine (H2.out _ Uu1.out).mono ?_
  rintro e w2 ⟨rfl, hb⟩
  have k2 := hid (blk_up k1.out hb)
  have u2 := hid (up_trans u1.out hb)
  have Uu2 := hid (up_trans Uu1.out hb)
  clear hb
  have z0 := blk_cell k2.out 0 _ rfl
  have z1 := blk_cell k2.out 1 _ rfl
  have z2 := blk_cell k2.out 2 _ rfl
  go_wp2_with fail
  clear z0 z1 z2
  refine (H3.out _ Uu2.out).mono ?_
  rintro e w3 ⟨rfl, hb⟩
  have u3 := hid (up_trans u2.out hb)
  clear hb
  go_wp2_with fail
  refine (num_any _ _).mono ?_
  rintro e w4 ⟨rfl, rfl⟩
  go_wp2_with fail
  refine (num_any _ _).mono ?_
  rintro e w4 ⟨rfl, rfl⟩
  go_wp2_with fail
  refine (num_any _ _).mono ?_
  rintro e w4 ⟨rfl, rfl⟩
  go_wp2_with fail
  go_ret
  exact ⟨rfl, u3.out⟩
end Go.Proofs.Ytfomogahlcmniaa
