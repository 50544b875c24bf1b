
import Derived.Test.YtnchjlimkgbfpaaGreatDoorE07
namespace Go.Proofs.YtnchjlimkgbfpaaGreatDoor
open Go.RowKit
set_option linter.unusedVariables false
set_option maxRecDepth 20000
theorem refSize1 (n : Int) (w : World) (h0 : 0 ≤ n) (h1 : n ≤ 127) :
    Calls Tryz.prog 126 #[.int .u64 n] w fun e w' => e = .returned (.int .i64 1) ∧ w' = w := by
  have f1 : (n / 128 == 0) = true := by rw [beq_iff_eq]; omega
  go_enter Tryz.func126, Tryz.ntmps126
  go_wp2
  refine wp_loop_rounds 1 ?_
  rw [rounds_succ]
  go_wp2
  go_ret
  exact ⟨rfl, rfl⟩
theorem refSize2 (n : Int) (w : World) (h0 : 128 ≤ n) (h1 : n ≤ 16383) :
    Calls Tryz.prog 126 #[.int .u64 n] w fun e w' => e = .returned (.int .i64 2) ∧ w' = w := by
  have f1 : (n / 128 == 0) = false := by rw [beq_eq_false_iff_ne]; omega
  have f2 : (n / 16384 == 0) = true := by rw [beq_iff_eq]; omega
  go_enter Tryz.func126, Tryz.ntmps126
  go_wp2
  refine wp_loop_rounds 2 ?_
  rw [rounds_succ]
  go_wp2
  rw [rounds_succ]
  go_wp2
  go_ret
  exact ⟨rfl, rfl⟩
theorem refSize3 (n : Int) (w : World) (h0 : 16384 ≤ n) (h1 : n ≤ 2097151) :
    Calls Tryz.prog 126 #[.int .u64 n] w fun e w' => e = .returned (.int .i64 3) ∧ w' = w := by
  have f1 : (n / 128 == 0) = false := by rw [beq_eq_false_iff_ne]; omega
  have f2 : (n / 16384 == 0) = false := by rw [beq_eq_false_iff_ne]; omega
  have f3 : (n / 2097152 == 0) = true := by rw [beq_iff_eq]; omega
  go_enter Tryz.func126, Tryz.ntmps126
  go_wp2
  refine wp_loop_rounds 3 ?_
  rw [rounds_succ]
  go_wp2
  rw [rounds_succ]
  go_wp2
  rw [rounds_succ]
  go_wp2
  go_ret
  exact ⟨rfl, rfl⟩
theorem refSize4 (n : Int) (w : World) (h0 : 2097152 ≤ n) (h1 : n ≤ 268435455) :
    Calls Tryz.prog 126 #[.int .u64 n] w fun e w' => e = .returned (.int .i64 4) ∧ w' = w := by
  have f1 : (n / 128 == 0) = false := by rw [beq_eq_false_iff_ne]; omega
  have f2 : (n / 16384 == 0) = false := by rw [beq_eq_false_iff_ne]; omega
  have f3 : (n / 2097152 == 0) = false := by rw [beq_eq_false_iff_ne]; omega
  have f4 : (n / 268435456 == 0) = true := by rw [beq_iff_eq]; omega
  go_enter Tryz.func126, Tryz.ntmps126
  go_wp2
  refine wp_loop_rounds 4 ?_
  rw [rounds_succ]
  go_wp2
  rw [rounds_succ]
  go_wp2
  rw [rounds_succ]
  go_wp2
  rw [rounds_succ]
  go_wp2
  go_ret
  exact ⟨rfl, rfl⟩
theorem refSize5 (n : Int) (w : World) (h0 : 268435456 ≤ n) (h1 : n ≤ 34359738367) :
    Calls Tryz.prog 126 #[.int .u64 n] w fun e w' => e = .returned (.int .i64 5) ∧ w' = w := by
  have f1 : (n / 128 == 0) = false := by rw [beq_eq_false_iff_ne]; omega
  have f2 : (n / 16384 == 0) = false := by rw [beq_eq_false_iff_ne]; omega
  have f3 : (n / 2097152 == 0) = false := by rw [beq_eq_false_iff_ne]; omega
  have f4 : (n / 268435456 == 0) = false := by rw [beq_eq_false_iff_ne]; omega
  have f5 : (n / 34359738368 == 0) = true := by rw [beq_iff_eq]; omega
  go_enter Tryz.func126, Tryz.ntmps126
  go_wp2
  refine wp_loop_rounds 5 ?_
  rw [rounds_succ]
  go_wp2
  rw [rounds_succ]
  go_wp2
  rw [rounds_succ]
  go_wp2
  rw [rounds_succ]
  go_wp2
  rw [rounds_succ]
  go_wp2
  go_ret
  exact ⟨rfl, rfl⟩
theorem refSize6 (n : Int) (w : World) (h0 : 34359738368 ≤ n) (h1 : n ≤ 4398046511103) :
    Calls Tryz.prog 126 #[.int .u64 n] w fun e w' => e = .returned (.int .i64 6) ∧ w' = w := by
  have f1 : (n / 128 == 0) = false := by rw [beq_eq_false_iff_ne]; omega
  have f2 : (n / 16384 == 0) = false := by rw [beq_eq_false_iff_ne]; omega
  have f3 : (n / 2097152 == 0) = false := by rw [beq_eq_false_iff_ne]; omega
  have f4 : (n / 268435456 == 0) = false := by rw [beq_eq_false_iff_ne]; omega
  have f5 : (n / 34359738368 == 0) = false := by rw [beq_eq_false_iff_ne]; omega
  have f6 : (n / 4398046511104 == 0) = true := by rw [beq_iff_eq]; omega
  go_enter Tryz.func126, Tryz.ntmps126
  go_wp2
  refine wp_loop_rounds 6 ?_
  rw [rounds_succ]
  go_wp2
  rw [rounds_succ]
  go_wp2
  rw [rounds_succ]
  go_wp2
  rw [rounds_succ]
  go_wp2
  rw [rounds_succ]
  go_wp2
  rw [rounds_succ]
  go_wp2
  go_ret
  exact ⟨rfl, rfl⟩
theorem refSize7 (n : Int) (w : World) (h0 : 4398046511104 ≤ n) (h1 : n ≤ 562949953421311) :
    Calls Tryz.prog 126 #[.int .u64 n] w fun e w' => e = .returned (.int .i64 7) ∧ w' = w := by
  have f1 : (n / 128 == 0) = false := by rw [beq_eq_false_iff_ne]; omega
  have f2 : (n / 16384 == 0) = false := by rw [beq_eq_false_iff_ne]; omega
  have f3 : (n / 2097152 == 0) = false := by rw [beq_eq_false_iff_ne]; omega
  have f4 : (n / 268435456 == 0) = false := by rw [beq_eq_false_iff_ne]; omega
  have f5 : (n / 34359738368 == 0) = false := by rw [beq_eq_false_iff_ne]; omega
  have f6 : (n / 4398046511104 == 0) = false := by rw [beq_eq_false_iff_ne]; omega
  have f7 : (n / 562949953421312 == 0) = true := by rw [beq_iff_eq]; omega
  go_enter Tryz.func126, Tryz.ntmps126
  go_wp2
  refine wp_loop_rounds 7 ?_
  rw [rounds_succ]
  go_wp2
  rw [rounds_succ]
  go_wp2
  rw [rounds_succ]
  go_wp2
  rw [rounds_succ]
  go_wp2
  rw [rounds_succ]
  go_wp2
  rw [rounds_succ]
  go_wp2
  rw [rounds_succ]
  go_wp2
  go_ret
  exact ⟨rfl, rfl⟩
theorem refSize8 (n : Int) (w : World) (h0 : 562949953421312 ≤ n) (h1 : n ≤ 72057594037927935) :
    Calls Tryz.prog 126 #[.int .u64 n] w fun e w' => e = .returned (.int .i64 8) ∧ w' = w := by
  have f1 : (n / 128 == 0) = false := by rw [beq_eq_false_iff_ne]; omega
  have f2 : (n / 16384 == 0) = false := by rw [beq_eq_false_iff_ne]; omega
  have f3 : (n / 2097152 == 0) = false := by rw [beq_eq_false_iff_ne]; omega
  have f4 : (n / 268435456 == 0) = false := by rw [beq_eq_false_iff_ne]; omega
  have f5 : (n / 34359738368 == 0) = false := by rw [beq_eq_false_iff_ne]; omega
  have f6 : (n / 4398046511104 == 0) = false := by rw [beq_eq_false_iff_ne]; omega
  have f7 : (n / 562949953421312 == 0) = false := by rw [beq_eq_false_iff_ne]; omega
  have f8 : (n / 72057594037927936 == 0) = true := by rw [beq_iff_eq]; omega
  go_enter Tryz.func126, Tryz.ntmps126
  go_wp2
  refine wp_loop_rounds 8 ?_
  rw [rounds_succ]
  go_wp2
  rw [rounds_succ]
  go_wp2
  rw [rounds_succ]
  go_wp2
  rw [rounds_succ]
  go_wp2
  rw [rounds_succ]
  go_wp2
  rw [rounds_succ]
  go_wp2
  rw [rounds_succ]
  go_wp2
  rw [rounds_succ]
  go_wp2
  go_ret
  exact ⟨rfl, rfl⟩
theorem refSize9 (n : Int) (w : World) (h0 : 72057594037927936 ≤ n) (h1 : n ≤ 18446744073709551615) :
    Calls Tryz.prog 126 #[.int .u64 n] w fun e w' => e = .returned (.int .i64 9) ∧ w' = w := by
  have f1 : (n / 128 == 0) = false := by rw [beq_eq_false_iff_ne]; omega
  have f2 : (n / 16384 == 0) = false := by rw [beq_eq_false_iff_ne]; omega
  have f3 : (n / 2097152 == 0) = false := by rw [beq_eq_false_iff_ne]; omega
  have f4 : (n / 268435456 == 0) = false := by rw [beq_eq_false_iff_ne]; omega
  have f5 : (n / 34359738368 == 0) = false := by rw [beq_eq_false_iff_ne]; omega
  have f6 : (n / 4398046511104 == 0) = false := by rw [beq_eq_false_iff_ne]; omega
  have f7 : (n / 562949953421312 == 0) = false := by rw [beq_eq_false_iff_ne]; omega
  have f8 : (n / 72057594037927936 == 0) = false := by rw [beq_eq_false_iff_ne]; omega
  go_enter Tryz.func126, Tryz.ntmps126
  go_wp2
  refine wp_loop_rounds 9 ?_
  rw [rounds_succ]
  go_wp2
  rw [rounds_succ]
  go_wp2
  rw [rounds_succ]
  go_wp2
  rw [rounds_succ]
  go_wp2
  rw [rounds_succ]
  go_wp2
  rw [rounds_succ]
  go_wp2
  rw [rounds_succ]
  go_wp2
  rw [rounds_succ]
  go_wp2
  rw [rounds_succ]
  go_wp2
  go_ret
  exact ⟨rfl, rfl⟩
theorem refSize_any (n : Int) (w : World) (h0 : 0 ≤ n) (h1 : n ≤ 18446744073709551615) :
    Calls Tryz.prog 126 #[.int .u64 n] w fun e w' => e = .returned (.int .i64 (sizeOf n)) ∧ w' = w := by
  rcases size_cases n h0 h1 with ⟨hs, ha, hb⟩ | ⟨hs, ha, hb⟩ | ⟨hs, ha, hb⟩ | ⟨hs, ha, hb⟩ | ⟨hs, ha, hb⟩ | ⟨hs, ha, hb⟩ | ⟨hs, ha, hb⟩ | ⟨hs, ha, hb⟩ | ⟨hs, ha, hb⟩
  · rw [hs]; exact refSize1 n w ha hb
  · rw [hs]; exact refSize2 n w ha hb
  · rw [hs]; exact refSize3 n w ha hb
  · rw [hs]; exact refSize4 n w ha hb
  · rw [hs]; exact refSize5 n w ha hb
  · rw [hs]; exact refSize6 n w ha hb
  · rw [hs]; exact refSize7 n w ha hb
  · rw [hs]; exact refSize8 n w ha hb
  · rw [hs]; exact refSize9 n w ha hb
theorem and_table : ∀ c : Fin 256, bits .and .u8 (c.val : Int) 1 = (c.val : Int) % 2 := by decide +kernel
theorem and_one (c : Int) (h0 : 0 ≤ c) (h1 : c ≤ 255) : bits .and .u8 c 1 = c % 2 := by
  have h := and_table ⟨c.toNat, by omega⟩
  have e : ((c.toNat : Nat) : Int) = c := by omega
  have h' : bits .and .u8 ((c.toNat : Nat) : Int) 1 = ((c.toNat : Nat) : Int) % 2 := h
  rw [e] at h'
  exact h'
set_option maxHeartbeats 400000 in
theorem ones1 (c : Int) (w : World) (h0 : 0 ≤ c) (h1 : c ≤ 127) :
    Calls Tryz.prog 139 #[.int .u8 c] w fun e w' => e = .returned (.int .i64 0) ∧ w' = w := by
  have f0 : bits .and .u8 (c / 128) 1 = 0 := by rw [and_one _ (by omega) (by omega)]; omega
  go_enter Tryz.func139, Tryz.ntmps139
  go_wp2
  refine wp_loop_rounds 1 ?_
  rw [rounds_succ]
  go_wp2
  go_ret
  exact ⟨rfl, rfl⟩
set_option maxHeartbeats 400000 in
theorem ones2 (c : Int) (w : World) (h0 : 128 ≤ c) (h1 : c ≤ 191) :
    Calls Tryz.prog 139 #[.int .u8 c] w fun e w' => e = .returned (.int .i64 1) ∧ w' = w := by
  have f0 : bits .and .u8 (c / 128) 1 = 1 := by rw [and_one _ (by omega) (by omega)]; omega
  have f1 : bits .and .u8 (c / 64) 1 = 0 := by rw [and_one _ (by omega) (by omega)]; omega
  go_enter Tryz.func139, Tryz.ntmps139
  go_wp2
  refine wp_loop_rounds 2 ?_
  rw [rounds_succ]
  go_wp2
  rw [rounds_succ]
  go_wp2
  go_ret
  exact ⟨rfl, rfl⟩
set_option maxHeartbeats 400000 in
theorem ones3 (c : Int) (w : World) (h0 : 192 ≤ c) (h1 : c ≤ 223) :
    Calls Tryz.prog 139 #[.int .u8 c] w fun e w' => e = .returned (.int .i64 2) ∧ w' = w := by
  have f0 : bits .and .u8 (c / 128) 1 = 1 := by rw [and_one _ (by omega) (by omega)]; omega
  have f1 : bits .and .u8 (c / 64) 1 = 1 := by rw [and_one _ (by omega) (by omega)]; omega
  have f2 : bits .and .u8 (c / 32) 1 = 0 := by rw [and_one _ (by omega) (by omega)]; omega
  go_enter Tryz.func139, Tryz.ntmps139
  go_wp2
  refine wp_loop_rounds 3 ?_
  rw [rounds_succ]
  go_wp2
  rw [rounds_succ]
  go_wp2
  rw [rounds_succ]
  go_wp2
  go_ret
  exact ⟨rfl, rfl⟩
set_option maxHeartbeats 400000 in
theorem ones4 (c : Int) (w : World) (h0 : 224 ≤ c) (h1 : c ≤ 239) :
    Calls Tryz.prog 139 #[.int .u8 c] w fun e w' => e = .returned (.int .i64 3) ∧ w' = w := by
  have f0 : bits .and .u8 (c / 128) 1 = 1 := by rw [and_one _ (by omega) (by omega)]; omega
  have f1 : bits .and .u8 (c / 64) 1 = 1 := by rw [and_one _ (by omega) (by omega)]; omega
  have f2 : bits .and .u8 (c / 32) 1 = 1 := by rw [and_one _ (by omega) (by omega)]; omega
  have f3 : bits .and .u8 (c / 16) 1 = 0 := by rw [and_one _ (by omega) (by omega)]; omega
  go_enter Tryz.func139, Tryz.ntmps139
  go_wp2
  refine wp_loop_rounds 4 ?_
  rw [rounds_succ]
  go_wp2
  rw [rounds_succ]
  go_wp2
  rw [rounds_succ]
  go_wp2
  rw [rounds_succ]
  go_wp2
  go_ret
  exact ⟨rfl, rfl⟩
set_option maxHeartbeats 400000 in
theorem ones5 (c : Int) (w : World) (h0 : 240 ≤ c) (h1 : c ≤ 247) :
    Calls Tryz.prog 139 #[.int .u8 c] w fun e w' => e = .returned (.int .i64 4) ∧ w' = w := by
  have f0 : bits .and .u8 (c / 128) 1 = 1 := by rw [and_one _ (by omega) (by omega)]; omega
  have f1 : bits .and .u8 (c / 64) 1 = 1 := by rw [and_one _ (by omega) (by omega)]; omega
  have f2 : bits .and .u8 (c / 32) 1 = 1 := by rw [and_one _ (by omega) (by omega)]; omega
  have f3 : bits .and .u8 (c / 16) 1 = 1 := by rw [and_one _ (by omega) (by omega)]; omega
  have f4 : bits .and .u8 (c / 8) 1 = 0 := by rw [and_one _ (by omega) (by omega)]; omega
  go_enter Tryz.func139, Tryz.ntmps139
  go_wp2
  refine wp_loop_rounds 5 ?_
  rw [rounds_succ]
  go_wp2
  rw [rounds_succ]
  go_wp2
  rw [rounds_succ]
  go_wp2
  rw [rounds_succ]
  go_wp2
  rw [rounds_succ]
  go_wp2
  go_ret
  exact ⟨rfl, rfl⟩
set_option maxHeartbeats 400000 in
theorem ones6 (c : Int) (w : World) (h0 : 248 ≤ c) (h1 : c ≤ 251) :
    Calls Tryz.prog 139 #[.int .u8 c] w fun e w' => e = .returned (.int .i64 5) ∧ w' = w := by
  have f0 : bits .and .u8 (c / 128) 1 = 1 := by rw [and_one _ (by omega) (by omega)]; omega
  have f1 : bits .and .u8 (c / 64) 1 = 1 := by rw [and_one _ (by omega) (by omega)]; omega
  have f2 : bits .and .u8 (c / 32) 1 = 1 := by rw [and_one _ (by omega) (by omega)]; omega
  have f3 : bits .and .u8 (c / 16) 1 = 1 := by rw [and_one _ (by omega) (by omega)]; omega
  have f4 : bits .and .u8 (c / 8) 1 = 1 := by rw [and_one _ (by omega) (by omega)]; omega
  have f5 : bits .and .u8 (c / 4) 1 = 0 := by rw [and_one _ (by omega) (by omega)]; omega
  go_enter Tryz.func139, Tryz.ntmps139
  go_wp2
  refine wp_loop_rounds 6 ?_
  rw [rounds_succ]
  go_wp2
  rw [rounds_succ]
  go_wp2
  rw [rounds_succ]
  go_wp2
  rw [rounds_succ]
  go_wp2
  rw [rounds_succ]
  go_wp2
  rw [rounds_succ]
  go_wp2
  go_ret
  exact ⟨rfl, rfl⟩
set_option maxHeartbeats 400000 in
theorem ones7 (c : Int) (w : World) (h0 : 252 ≤ c) (h1 : c ≤ 253) :
    Calls Tryz.prog 139 #[.int .u8 c] w fun e w' => e = .returned (.int .i64 6) ∧ w' = w := by
  have f0 : bits .and .u8 (c / 128) 1 = 1 := by rw [and_one _ (by omega) (by omega)]; omega
  have f1 : bits .and .u8 (c / 64) 1 = 1 := by rw [and_one _ (by omega) (by omega)]; omega
  have f2 : bits .and .u8 (c / 32) 1 = 1 := by rw [and_one _ (by omega) (by omega)]; omega
  have f3 : bits .and .u8 (c / 16) 1 = 1 := by rw [and_one _ (by omega) (by omega)]; omega
  have f4 : bits .and .u8 (c / 8) 1 = 1 := by rw [and_one _ (by omega) (by omega)]; omega
  have f5 : bits .and .u8 (c / 4) 1 = 1 := by rw [and_one _ (by omega) (by omega)]; omega
  have f6 : bits .and .u8 (c / 2) 1 = 0 := by rw [and_one _ (by omega) (by omega)]; omega
  go_enter Tryz.func139, Tryz.ntmps139
  go_wp2
  refine wp_loop_rounds 7 ?_
  rw [rounds_succ]
  go_wp2
  rw [rounds_succ]
  go_wp2
  rw [rounds_succ]
  go_wp2
  rw [rounds_succ]
  go_wp2
  rw [rounds_succ]
  go_wp2
  rw [rounds_succ]
  go_wp2
  rw [rounds_succ]
  go_wp2
  go_ret
  exact ⟨rfl, rfl⟩
set_option maxHeartbeats 400000 in
theorem ones8 (c : Int) (w : World) (h0 : 254 ≤ c) (h1 : c ≤ 254) :
    Calls Tryz.prog 139 #[.int .u8 c] w fun e w' => e = .returned (.int .i64 7) ∧ w' = w := by
  have f0 : bits .and .u8 (c / 128) 1 = 1 := by rw [and_one _ (by omega) (by omega)]; omega
  have f1 : bits .and .u8 (c / 64) 1 = 1 := by rw [and_one _ (by omega) (by omega)]; omega
  have f2 : bits .and .u8 (c / 32) 1 = 1 := by rw [and_one _ (by omega) (by omega)]; omega
  have f3 : bits .and .u8 (c / 16) 1 = 1 := by rw [and_one _ (by omega) (by omega)]; omega
  have f4 : bits .and .u8 (c / 8) 1 = 1 := by rw [and_one _ (by omega) (by omega)]; omega
  have f5 : bits .and .u8 (c / 4) 1 = 1 := by rw [and_one _ (by omega) (by omega)]; omega
  have f6 : bits .and .u8 (c / 2) 1 = 1 := by rw [and_one _ (by omega) (by omega)]; omega
  have f7 : bits .and .u8 (c) 1 = 0 := by rw [and_one _ (by omega) (by omega)]; omega
  go_enter Tryz.func139, Tryz.ntmps139
  go_wp2
  refine wp_loop_rounds 8 ?_
  rw [rounds_succ]
  go_wp2
  rw [rounds_succ]
  go_wp2
  rw [rounds_succ]
  go_wp2
  rw [rounds_succ]
  go_wp2
  rw [rounds_succ]
  go_wp2
  rw [rounds_succ]
  go_wp2
  rw [rounds_succ]
  go_wp2
  rw [rounds_succ]
  go_wp2
  go_ret
  exact ⟨rfl, rfl⟩
set_option maxHeartbeats 400000 in
theorem ones9 (c : Int) (w : World) (h0 : 255 ≤ c) (h1 : c ≤ 255) :
    Calls Tryz.prog 139 #[.int .u8 c] w fun e w' => e = .returned (.int .i64 8) ∧ w' = w := by
  have f0 : bits .and .u8 (c / 128) 1 = 1 := by rw [and_one _ (by omega) (by omega)]; omega
  have f1 : bits .and .u8 (c / 64) 1 = 1 := by rw [and_one _ (by omega) (by omega)]; omega
  have f2 : bits .and .u8 (c / 32) 1 = 1 := by rw [and_one _ (by omega) (by omega)]; omega
  have f3 : bits .and .u8 (c / 16) 1 = 1 := by rw [and_one _ (by omega) (by omega)]; omega
  have f4 : bits .and .u8 (c / 8) 1 = 1 := by rw [and_one _ (by omega) (by omega)]; omega
  have f5 : bits .and .u8 (c / 4) 1 = 1 := by rw [and_one _ (by omega) (by omega)]; omega
  have f6 : bits .and .u8 (c / 2) 1 = 1 := by rw [and_one _ (by omega) (by omega)]; omega
  have f7 : bits .and .u8 (c) 1 = 1 := by rw [and_one _ (by omega) (by omega)]; omega
  go_enter Tryz.func139, Tryz.ntmps139
  go_wp2
  refine wp_loop_rounds 9 ?_
  rw [rounds_succ]
  go_wp2
  rw [rounds_succ]
  go_wp2
  rw [rounds_succ]
  go_wp2
  rw [rounds_succ]
  go_wp2
  rw [rounds_succ]
  go_wp2
  rw [rounds_succ]
  go_wp2
  rw [rounds_succ]
  go_wp2
  rw [rounds_succ]
  go_wp2
  rw [rounds_succ]
  go_wp2
  go_ret
  exact ⟨rfl, rfl⟩
end Go.Proofs.YtnchjlimkgbfpaaGreatDoor
