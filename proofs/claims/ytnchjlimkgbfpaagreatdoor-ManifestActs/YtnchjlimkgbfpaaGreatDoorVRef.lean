
import Derived.Test.YtnchjlimkgbfpaaGreatDoorZ18
namespace Go.Proofs.YtnchjlimkgbfpaaGreatDoor
open Go.RowKit
set_option linter.unusedVariables false
set_option maxRecDepth 20000
theorem refSize1 (n : Int) (w : World) (h0 : 0 ≤ n) (h1 : n ≤ 127) :
    Calls Tryz.prog 126 #[.int .u64 n] w fun e w' => e = .returned (.int .i64 1) ∧ w' = w := by
  have f1 : (n / 128 == 0) = true := by rw [beq_iff_eq]; omega
  go_enter Tryz.func126, Tryz.ntmps126
  go_wp2
  refine wp_loop_rounds 1 ?_
  rw [rounds_succ]
  go_wp2
  go_ret
  exact ⟨rfl, rfl⟩
theorem refSize2 (n : Int) (w : World) (h0 : 128 ≤ n) (h1 : n ≤ 16383) :
    Calls Tryz.prog 126 #[.int .u64 n] w fun e w' => e = .returned (.int .i64 2) ∧ w' = w := by
  have f1 : (n / 128 == 0) = false := by rw [beq_eq_false_iff_ne]; omega
  have f2 : (n / 16384 == 0) = true := by rw [beq_iff_eq]; omega
  go_enter Tryz.func126, Tryz.ntmps126
  go_wp2
  refine wp_loop_rounds 2 ?_
  rw [rounds_succ]
  go_wp2
  rw [rounds_succ]
  go_wp2
  go_ret
  exact ⟨rfl, rfl⟩
theorem refSize3 (n : Int) (w : World) (h0 : 16384 ≤ n) (h1 : n ≤ 2097151) :
    Calls Tryz.prog 126 #[.int .u64 n] w fun e w' => e = .returned (.int .i64 3) ∧ w' = w := by
  have f1 : (n / 128 == 0) = false := by rw [beq_eq_false_iff_ne]; omega
  have f2 : (n / 16384 == 0) = false := by rw [beq_eq_false_iff_ne]; omega
  have f3 : (n / 2097152 == 0) = true := by rw [beq_iff_eq]; omega
  go_enter Tryz.func126, Tryz.ntmps126
  go_wp2
  refine wp_loop_rounds 3 ?_
  rw [rounds_succ]
  go_wp2
  rw [rounds_succ]
  go_wp2
  rw [rounds_succ]
  go_wp2
  go_ret
  exact ⟨rfl, rfl⟩
theorem refSize4 (n : Int) (w : World) (h0 : 2097152 ≤ n) (h1 : n ≤ 268435455) :
    Calls Tryz.prog 126 #[.int .u64 n] w fun e w' => e = .returned (.int .i64 4) ∧ w' = w := by
  have f1 : (n / 128 == 0) = false := by rw [beq_eq_false_iff_ne]; omega
  have f2 : (n / 16384 == 0) = false := by rw [beq_eq_false_iff_ne]; omega
  have f3 : (n / 2097152 == 0) = false := by rw [beq_eq_false_iff_ne]; omega
  have f4 : (n / 268435456 == 0) = true := by rw [beq_iff_eq]; omega
  go_enter Tryz.func126, Tryz.ntmps126
  go_wp2
  refine wp_loop_rounds 4 ?_
  rw [rounds_succ]
  go_wp2
  rw [rounds_succ]
  go_wp2
  rw [rounds_succ]
  go_wp2
  rw [rounds_succ]
  go_wp2
  go_ret
  exact ⟨rfl, rfl⟩
theorem refSize5 (n : Int) (w : World) (h0 : 268435456 ≤ n) (h1 : n ≤ 34359738367) :
    Calls Tryz.prog 126 #[.int .u64 n] w fun e w' => e = .returned (.int .i64 5) ∧ w' = w := by
  have f1 : (n / 128 == 0) = false := by rw [beq_eq_false_iff_ne]; omega
  have f2 : (n / 16384 == 0) = false := by rw [beq_eq_false_iff_ne]; omega
  have f3 : (n / 2097152 == 0) = false := by rw [beq_eq_false_iff_ne]; omega
  have f4 : (n / 268435456 == 0) = false := by rw [beq_eq_false_iff_ne]; omega
  have f5 : (n / 34359738368 == 0) = true := by rw [beq_iff_eq]; omega
  go_enter Tryz.func126, Tryz.ntmps126
  go_wp2
  refine wp_loop_rounds 5 ?_
  rw [rounds_succ]
  go_wp2
  rw [rounds_succ]
  go_wp2
  rw [rounds_succ]
  go_wp2
  rw [rounds_succ]
  go_wp2
  rw [rounds_succ]
  go_wp2
  go_ret
  exact ⟨rfl, rfl⟩
theorem refSize6 (n : Int) (w : World) (h0 : 34359738368 ≤ n) (h1 : n ≤ 4398046511103) :
    Calls Tryz.prog 126 #[.int .u64 n] w fun e w' => e = .returned (.int .i64 6) ∧ w' = w := by
  have f1 : (n / 128 == 0) = false := by rw [beq_eq_false_iff_ne]; omega
  have f2 : (n / 16384 == 0) = false := by rw [beq_eq_false_iff_ne]; omega
  have f3 : (n / 2097152 == 0) = false := by rw [beq_eq_false_iff_ne]; omega
  have f4 : (n / 268435456 == 0) = false := by rw [beq_eq_false_iff_ne]; omega
  have f5 : (n / 34359738368 == 0) = false := by rw [beq_eq_false_iff_ne]; omega
  have f6 : (n / 4398046511104 == 0) = true := by rw [beq_iff_eq]; omega
  go_enter Tryz.func126, Tryz.ntmps126
  go_wp2
  refine wp_loop_rounds 6 ?_
  rw [rounds_succ]
  go_wp2
  rw [rounds_succ]
  go_wp2
  rw [rounds_succ]
  go_wp2
  rw [rounds_succ]
  go_wp2
  rw [rounds_succ]
  go_wp2
  rw [rounds_succ]
  go_wp2
  go_ret
  exact ⟨rfl, rfl⟩
theorem refSize7 (n : Int) (w : World) (h0 : 4398046511104 ≤ n) (h1 : n ≤ 562949953421311) :
    Calls Tryz.prog 126 #[.int .u64 n] w fun e w' => e = .returned (.int .i64 7) ∧ w' = w := by
  have f1 : (n / 128 == 0) = false := by rw [beq_eq_false_iff_ne]; omega
  have f2 : (n / 16384 == 0) = false := by rw [beq_eq_false_iff_ne]; omega
  have f3 : (n / 2097152 == 0) = false := by rw [beq_eq_false_iff_ne]; omega
  have f4 : (n / 268435456 == 0) = false := by rw [beq_eq_false_iff_ne]; omega
  have f5 : (n / 34359738368 == 0) = false := by rw [beq_eq_false_iff_ne]; omega
  have f6 : (n / 4398046511104 == 0) = false := by rw [beq_eq_false_iff_ne]; omega
  have f7 : (n / 562949953421312 == 0) = true := by rw [beq_iff_eq]; omega
  go_enter Tryz.func126, Tryz.ntmps126
  go_wp2
  refine wp_loop_rounds 7 ?_
  rw [rounds_succ]
  go_wp2
  rw [rounds_succ]
  go_wp2
  rw [rounds_succ]
  go_wp2
  rw [rounds_succ]
  go_wp2
  rw [rounds_succ]
  go_wp2
  rw [rounds_succ]
  go_wp2
  rw [rounds_succ]
  go_wp2
  go_ret
  exact ⟨rfl, rfl⟩
theorem refSize8 (n : Int) (w : World) (h0 : 562949953421312 ≤ n) (h1 : n ≤ 72057594037927935) :
    Calls Tryz.prog 126 #[.int .u64 n] w fun e w' => e = .returned (.int .i64 8) ∧ w' = w := by
  have f1 : (n / 128 == 0) = false := by rw [beq_eq_false_iff_ne]; omega
  have f2 : (n / 16384 == 0) = false := by rw [beq_eq_false_iff_ne]; omega
  have f3 : (n / 2097152 == 0) = false := by rw [beq_eq_false_iff_ne]; omega
  have f4 : (n / 268435456 == 0) = false := by rw [beq_eq_false_iff_ne]; omega
  have f5 : (n / 34359738368 == 0) = false := by rw [beq_eq_false_iff_ne]; omega
  have f6 : (n / 4398046511104 == 0) = false := by rw [beq_eq_false_iff_ne]; omega
  have f7 : (n / 562949953421312 == 0) = false := by rw [beq_eq_false_iff_ne]; omega
  have f8 : (n / 72057594037927936 == 0) = true := by rw [beq_iff_eq]; omega
  go_enter Tryz.func126, Tryz.ntmps126
  go_wp2
  refine wp_loop_rounds 8 ?_
  rw [rounds_succ]
  go_wp2
  rw [rounds_succ]
  go_wp2
  rw [rounds_succ]
  go_wp2
  rw [rounds_succ]
  go_wp2
  rw [rounds_succ]
  go_wp2
  rw [rounds_succ]
  go_wp2
  rw [rounds_succ]
  go_wp2
  rw [rounds_succ]
  go_wp2
  go_ret
  exact ⟨rfl, rfl⟩
theorem refSize9 (n : Int) (w : World) (h0 : 72057594037927936 ≤ n) (h1 : n ≤ 18446744073709551615) :
    Calls Tryz.prog 126 #[.int .u64 n] w fun e w' => e = .returned (.int .i64 9) ∧ w' = w := by
  have f1 : (n / 128 == 0) = false := by rw [beq_eq_false_iff_ne]; omega
  have f2 : (n / 16384 == 0) = false := by rw [beq_eq_false_iff_ne]; omega
  have f3 : (n / 2097152 == 0) = false := by rw [beq_eq_false_iff_ne]; omega
  have f4 : (n / 268435456 == 0) = false := by rw [beq_eq_false_iff_ne]; omega
  have f5 : (n / 34359738368 == 0) = false := by rw [beq_eq_false_iff_ne]; omega
  have f6 : (n / 4398046511104 == 0) = false := by rw [beq_eq_false_iff_ne]; omega
  have f7 : (n / 562949953421312 == 0) = false := by rw [beq_eq_false_iff_ne]; omega
  have f8 : (n / 72057594037927936 == 0) = false := by rw [beq_eq_false_iff_ne]; omega
  go_enter Tryz.func126, Tryz.ntmps126
  go_wp2
  refine wp_loop_rounds 9 ?_
  rw [rounds_succ]
  go_wp2
  rw [rounds_succ]
  go_wp2
  rw [rounds_succ]
  go_wp2
  rw [rounds_succ]
  go_wp2
  rw [rounds_succ]
  go_wp2
  rw [rounds_succ]
  go_wp2
  rw [rounds_succ]
  go_wp2
  rw [rounds_succ]
  go_wp2
  rw [rounds_succ]
  go_wp2
  go_ret
  exact ⟨rfl, rfl⟩
theorem refSize_any (n : Int) (w : World) (h0 : 0 ≤ n) (h1 : n ≤ 18446744073709551615) :
    Calls Tryz.prog 126 #[.int .u64 n] w fun e w' => e = .returned (.int .i64 (sizeOf n)) ∧ w' = w := by
  rcases size_cases n h0 h1 with ⟨hs, ha, hb⟩ | ⟨hs, ha, hb⟩ | ⟨hs, ha, hb⟩ | ⟨hs, ha, hb⟩ | ⟨hs, ha, hb⟩ | ⟨hs, ha, hb⟩ | ⟨hs, ha, hb⟩ | ⟨hs, ha, hb⟩ | ⟨hs, ha, hb⟩
  · rw [hs]; exact refSize1 n w ha hb
  · rw [hs]; exact refSize2 n w ha hb
  · rw [hs]; exact refSize3 n w ha hb
  · rw [hs]; exact refSize4 n w ha hb
  · rw [hs]; exact refSize5 n w ha hb
  · rw [hs]; exact refSize6 n w ha hb
  · rw [hs]; exact refSize7 n w ha hb
  · rw [hs]; exact refSize8 n w ha hb
  · rw [hs]; exact refSize9 n w ha hb
end Go.Proofs.YtnchjlimkgbfpaaGreatDoor
