
import Derived.Test.YtnchjlimkgbfpaaGreatDoorZ14
import Derived.Deep.RegionWith
import Derived.OwnWalk
namespace Go.Proofs.YtnchjlimkgbfpaaGreatDoor
open Go.RowKit
def octs (n : Int) : Nat → List Int
  | 1 => [n]
  | 2 => [128 + n / 256, n % 256]
  | 3 => [192 + n / 65536, n / 256 % 256, n % 256]
  | 4 => [224 + n / 16777216, n / 65536 % 256, n / 256 % 256, n % 256]
  | 5 => [240 + n / 4294967296, n / 16777216 % 256, n / 65536 % 256, n / 256 % 256, n % 256]
  | 6 => [248 + n / 1099511627776, n / 4294967296 % 256, n / 16777216 % 256, n / 65536 % 256, n / 256 % 256, n % 256]
  | 7 => [252 + n / 281474976710656, n / 1099511627776 % 256, n / 4294967296 % 256, n / 16777216 % 256, n / 65536 % 256, n / 256 % 256, n % 256]
  | 8 => [254 + n / 72057594037927936, n / 281474976710656 % 256, n / 1099511627776 % 256, n / 4294967296 % 256, n / 16777216 % 256, n / 65536 % 256, n / 256 % 256, n % 256]
  | 9 => [255, n / 72057594037927936 % 256, n / 281474976710656 % 256, n / 1099511627776 % 256, n / 4294967296 % 256, n / 16777216 % 256, n / 65536 % 256, n / 256 % 256, n % 256]
  | _ => []
theorem or_table : ∀ k : Fin 9, ∀ x : Fin 256, x.val < 2 ^ (7 - k.val) → k.val < 8 → bits .or .u8 (x.val : Int) (leadOf ((k.val : Int) + 1)) = leadOf ((k.val : Int) + 1) + (x.val : Int) := by decide +kernel
theorem or_lead (k : Nat) (x : Int) (L : Int) (hk : k < 8) (hL : leadOf ((k : Int) + 1) = L) (h0 : 0 ≤ x) (h1 : x < 2 ^ (7 - k)) (h2 : x < 256) : bits .or .u8 x L = L + x := by
  have h := or_table ⟨k, by omega⟩ ⟨x.toNat, by omega⟩ (by
    show x.toNat < 2 ^ (7 - k)
    have : ((2 ^ (7 - k) : Nat) : Int) = 2 ^ (7 - k) := by simp
    omega) hk
  have e : ((x.toNat : Nat) : Int) = x := by omega
  have h' : bits .or .u8 ((x.toNat : Nat) : Int) (leadOf ((k : Int) + 1)) = leadOf ((k : Int) + 1) + ((x.toNat : Nat) : Int) := h
  rw [e, hL] at h'
  exact h'
theorem agg9 {a0 a1 a2 a3 a4 a5 a6 a7 a8 b0 b1 b2 b3 b4 b5 b6 b7 b8 : Int} (h0 : a0 = b0) (h1 : a1 = b1) (h2 : a2 = b2) (h3 : a3 = b3) (h4 : a4 = b4) (h5 : a5 = b5) (h6 : a6 = b6) (h7 : a7 = b7) (h8 : a8 = b8) :
    Ending.returned (.agg #[.int .u8 a0, .int .u8 a1, .int .u8 a2, .int .u8 a3, .int .u8 a4, .int .u8 a5, .int .u8 a6, .int .u8 a7, .int .u8 a8]) =
    .returned (.agg #[.int .u8 b0, .int .u8 b1, .int .u8 b2, .int .u8 b3, .int .u8 b4, .int .u8 b5, .int .u8 b6, .int .u8 b7, .int .u8 b8]) := by
  rw [h0, h1, h2, h3, h4, h5, h6, h7, h8]
set_option maxHeartbeats 1000000 in
theorem lay1 (n : Int) (w : World) (h0 : 0 ≤ n) (h1 : n ≤ 127) :
    Calls Tryz.prog 123 #[.int .u64 n, .int .i64 1] w fun e w' => e = .returned (.agg #[.int .u8 (n), .int .u8 (0), .int .u8 (0), .int .u8 (0), .int .u8 (0), .int .u8 (0), .int .u8 (0), .int .u8 (0), .int .u8 (0)]) ∧ Below w.heap.size w w' := by
  have hl : leadOf 1 = 0 := by decide +kernel
  have hx : bits .or .u8 (n) 0 = 0 + (n) := or_lead 0 (n) 0 (by decide) hl (by omega) (by show n < 128; omega) (by omega)
  go_enter Tryz.func123, Tryz.ntmps123
  go_wp2
  refine wp_loop_rounds 2 ?_
  rw [rounds_succ]
  go_wp2
  rw [rounds_succ]
  go_wp2
  go_region_with (go_at_call 134; refine (lead_any 1 _ (by omega) (by omega)).mono ?_; rintro e w' ⟨rfl, rfl⟩)
  all_goals go_wp2
  all_goals
    exact bodyPost_ret (v := .agg #[.int .u8 (n), .int .u8 (0), .int .u8 (0), .int .u8 (0), .int .u8 (0), .int .u8 (0), .int .u8 (0), .int .u8 (0), .int .u8 (0)]) (by simp [results, Tryz.results123, go_sem]) rfl ⟨agg9 (by omega) (by omega) (by omega) (by omega) (by omega) (by omega) (by omega) (by omega) (by omega), (((Below.refl _ _).alloc (Nat.le_refl _) _).alloc (by simp) _).drew⟩
set_option maxHeartbeats 1000000 in
theorem lay2 (n : Int) (w : World) (h0 : 0 ≤ n) (h1 : n ≤ 16383) :
    Calls Tryz.prog 123 #[.int .u64 n, .int .i64 2] w fun e w' => e = .returned (.agg #[.int .u8 (128 + n / 256), .int .u8 (n % 256), .int .u8 (0), .int .u8 (0), .int .u8 (0), .int .u8 (0), .int .u8 (0), .int .u8 (0), .int .u8 (0)]) ∧ Below w.heap.size w w' := by
  have hl : leadOf 2 = 128 := by decide +kernel
  have hx : bits .or .u8 (n / 256) 128 = 128 + (n / 256) := or_lead 1 (n / 256) 128 (by decide) hl (by omega) (by show n / 256 < 64; omega) (by omega)
  go_enter Tryz.func123, Tryz.ntmps123
  go_wp2
  refine wp_loop_rounds 3 ?_
  rw [rounds_succ]
  go_wp2
  rw [rounds_succ]
  go_wp2
  rw [rounds_succ]
  go_wp2
  go_region_with (go_at_call 134; refine (lead_any 2 _ (by omega) (by omega)).mono ?_; rintro e w' ⟨rfl, rfl⟩)
  all_goals go_wp2
  all_goals
    exact bodyPost_ret (v := .agg #[.int .u8 (128 + n / 256), .int .u8 (n % 256), .int .u8 (0), .int .u8 (0), .int .u8 (0), .int .u8 (0), .int .u8 (0), .int .u8 (0), .int .u8 (0)]) (by simp [results, Tryz.results123, go_sem]) rfl ⟨agg9 (by omega) (by omega) (by omega) (by omega) (by omega) (by omega) (by omega) (by omega) (by omega), (((Below.refl _ _).alloc (Nat.le_refl _) _).alloc (by simp) _).drew⟩
set_option maxHeartbeats 1000000 in
theorem lay3 (n : Int) (w : World) (h0 : 0 ≤ n) (h1 : n ≤ 2097151) :
    Calls Tryz.prog 123 #[.int .u64 n, .int .i64 3] w fun e w' => e = .returned (.agg #[.int .u8 (192 + n / 65536), .int .u8 (n / 256 % 256), .int .u8 (n % 256), .int .u8 (0), .int .u8 (0), .int .u8 (0), .int .u8 (0), .int .u8 (0), .int .u8 (0)]) ∧ Below w.heap.size w w' := by
  have hl : leadOf 3 = 192 := by decide +kernel
  have hx : bits .or .u8 (n / 256 / 256) 192 = 192 + (n / 256 / 256) := or_lead 2 (n / 256 / 256) 192 (by decide) hl (by omega) (by show n / 256 / 256 < 32; omega) (by omega)
  go_enter Tryz.func123, Tryz.ntmps123
  go_wp2
  refine wp_loop_rounds 4 ?_
  rw [rounds_succ]
  go_wp2
  rw [rounds_succ]
  go_wp2
  rw [rounds_succ]
  go_wp2
  rw [rounds_succ]
  go_wp2
  go_region_with (go_at_call 134; refine (lead_any 3 _ (by omega) (by omega)).mono ?_; rintro e w' ⟨rfl, rfl⟩)
  all_goals go_wp2
  all_goals
    exact bodyPost_ret (v := .agg #[.int .u8 (192 + n / 256 / 256), .int .u8 (n / 256 % 256), .int .u8 (n % 256), .int .u8 (0), .int .u8 (0), .int .u8 (0), .int .u8 (0), .int .u8 (0), .int .u8 (0)]) (by simp [results, Tryz.results123, go_sem]) rfl ⟨agg9 (by omega) (by omega) (by omega) (by omega) (by omega) (by omega) (by omega) (by omega) (by omega), (((Below.refl _ _).alloc (Nat.le_refl _) _).alloc (by simp) _).drew⟩
set_option maxHeartbeats 1000000 in
theorem lay4 (n : Int) (w : World) (h0 : 0 ≤ n) (h1 : n ≤ 268435455) :
    Calls Tryz.prog 123 #[.int .u64 n, .int .i64 4] w fun e w' => e = .returned (.agg #[.int .u8 (224 + n / 16777216), .int .u8 (n / 65536 % 256), .int .u8 (n / 256 % 256), .int .u8 (n % 256), .int .u8 (0), .int .u8 (0), .int .u8 (0), .int .u8 (0), .int .u8 (0)]) ∧ Below w.heap.size w w' := by
  have hl : leadOf 4 = 224 := by decide +kernel
  have hx : bits .or .u8 (n / 256 / 256 / 256) 224 = 224 + (n / 256 / 256 / 256) := or_lead 3 (n / 256 / 256 / 256) 224 (by decide) hl (by omega) (by show n / 256 / 256 / 256 < 16; omega) (by omega)
  go_enter Tryz.func123, Tryz.ntmps123
  go_wp2
  refine wp_loop_rounds 5 ?_
  rw [rounds_succ]
  go_wp2
  rw [rounds_succ]
  go_wp2
  rw [rounds_succ]
  go_wp2
  rw [rounds_succ]
  go_wp2
  rw [rounds_succ]
  go_wp2
  go_region_with (go_at_call 134; refine (lead_any 4 _ (by omega) (by omega)).mono ?_; rintro e w' ⟨rfl, rfl⟩)
  all_goals go_wp2
  all_goals
    exact bodyPost_ret (v := .agg #[.int .u8 (224 + n / 256 / 256 / 256), .int .u8 (n / 256 / 256 % 256), .int .u8 (n / 256 % 256), .int .u8 (n % 256), .int .u8 (0), .int .u8 (0), .int .u8 (0), .int .u8 (0), .int .u8 (0)]) (by simp [results, Tryz.results123, go_sem]) rfl ⟨agg9 (by omega) (by omega) (by omega) (by omega) (by omega) (by omega) (by omega) (by omega) (by omega), (((Below.refl _ _).alloc (Nat.le_refl _) _).alloc (by simp) _).drew⟩
set_option maxHeartbeats 1000000 in
theorem lay5 (n : Int) (w : World) (h0 : 0 ≤ n) (h1 : n ≤ 34359738367) :
    Calls Tryz.prog 123 #[.int .u64 n, .int .i64 5] w fun e w' => e = .returned (.agg #[.int .u8 (240 + n / 4294967296), .int .u8 (n / 16777216 % 256), .int .u8 (n / 65536 % 256), .int .u8 (n / 256 % 256), .int .u8 (n % 256), .int .u8 (0), .int .u8 (0), .int .u8 (0), .int .u8 (0)]) ∧ Below w.heap.size w w' := by
  have hl : leadOf 5 = 240 := by decide +kernel
  have hx : bits .or .u8 (n / 256 / 256 / 256 / 256) 240 = 240 + (n / 256 / 256 / 256 / 256) := or_lead 4 (n / 256 / 256 / 256 / 256) 240 (by decide) hl (by omega) (by show n / 256 / 256 / 256 / 256 < 8; omega) (by omega)
  go_enter Tryz.func123, Tryz.ntmps123
  go_wp2
  refine wp_loop_rounds 6 ?_
  rw [rounds_succ]
  go_wp2
  rw [rounds_succ]
  go_wp2
  rw [rounds_succ]
  go_wp2
  rw [rounds_succ]
  go_wp2
  rw [rounds_succ]
  go_wp2
  rw [rounds_succ]
  go_wp2
  go_region_with (go_at_call 134; refine (lead_any 5 _ (by omega) (by omega)).mono ?_; rintro e w' ⟨rfl, rfl⟩)
  all_goals go_wp2
  all_goals
    exact bodyPost_ret (v := .agg #[.int .u8 (240 + n / 256 / 256 / 256 / 256), .int .u8 (n / 256 / 256 / 256 % 256), .int .u8 (n / 256 / 256 % 256), .int .u8 (n / 256 % 256), .int .u8 (n % 256), .int .u8 (0), .int .u8 (0), .int .u8 (0), .int .u8 (0)]) (by simp [results, Tryz.results123, go_sem]) rfl ⟨agg9 (by omega) (by omega) (by omega) (by omega) (by omega) (by omega) (by omega) (by omega) (by omega), (((Below.refl _ _).alloc (Nat.le_refl _) _).alloc (by simp) _).drew⟩
set_option maxHeartbeats 1000000 in
theorem lay6 (n : Int) (w : World) (h0 : 0 ≤ n) (h1 : n ≤ 4398046511103) :
    Calls Tryz.prog 123 #[.int .u64 n, .int .i64 6] w fun e w' => e = .returned (.agg #[.int .u8 (248 + n / 1099511627776), .int .u8 (n / 4294967296 % 256), .int .u8 (n / 16777216 % 256), .int .u8 (n / 65536 % 256), .int .u8 (n / 256 % 256), .int .u8 (n % 256), .int .u8 (0), .int .u8 (0), .int .u8 (0)]) ∧ Below w.heap.size w w' := by
  have hl : leadOf 6 = 248 := by decide +kernel
  have hx : bits .or .u8 (n / 256 / 256 / 256 / 256 / 256) 248 = 248 + (n / 256 / 256 / 256 / 256 / 256) := or_lead 5 (n / 256 / 256 / 256 / 256 / 256) 248 (by decide) hl (by omega) (by show n / 256 / 256 / 256 / 256 / 256 < 4; omega) (by omega)
  go_enter Tryz.func123, Tryz.ntmps123
  go_wp2
  refine wp_loop_rounds 7 ?_
  rw [rounds_succ]
  go_wp2
  rw [rounds_succ]
  go_wp2
  rw [rounds_succ]
  go_wp2
  rw [rounds_succ]
  go_wp2
  rw [rounds_succ]
  go_wp2
  rw [rounds_succ]
  go_wp2
  rw [rounds_succ]
  go_wp2
  go_region_with (go_at_call 134; refine (lead_any 6 _ (by omega) (by omega)).mono ?_; rintro e w' ⟨rfl, rfl⟩)
  all_goals go_wp2
  all_goals
    exact bodyPost_ret (v := .agg #[.int .u8 (248 + n / 256 / 256 / 256 / 256 / 256), .int .u8 (n / 256 / 256 / 256 / 256 % 256), .int .u8 (n / 256 / 256 / 256 % 256), .int .u8 (n / 256 / 256 % 256), .int .u8 (n / 256 % 256), .int .u8 (n % 256), .int .u8 (0), .int .u8 (0), .int .u8 (0)]) (by simp [results, Tryz.results123, go_sem]) rfl ⟨agg9 (by omega) (by omega) (by omega) (by omega) (by omega) (by omega) (by omega) (by omega) (by omega), (((Below.refl _ _).alloc (Nat.le_refl _) _).alloc (by simp) _).drew⟩
set_option maxHeartbeats 1000000 in
theorem lay7 (n : Int) (w : World) (h0 : 0 ≤ n) (h1 : n ≤ 562949953421311) :
    Calls Tryz.prog 123 #[.int .u64 n, .int .i64 7] w fun e w' => e = .returned (.agg #[.int .u8 (252 + n / 281474976710656), .int .u8 (n / 1099511627776 % 256), .int .u8 (n / 4294967296 % 256), .int .u8 (n / 16777216 % 256), .int .u8 (n / 65536 % 256), .int .u8 (n / 256 % 256), .int .u8 (n % 256), .int .u8 (0), .int .u8 (0)]) ∧ Below w.heap.size w w' := by
  have hl : leadOf 7 = 252 := by decide +kernel
  have hx : bits .or .u8 (n / 256 / 256 / 256 / 256 / 256 / 256) 252 = 252 + (n / 256 / 256 / 256 / 256 / 256 / 256) := or_lead 6 (n / 256 / 256 / 256 / 256 / 256 / 256) 252 (by decide) hl (by omega) (by show n / 256 / 256 / 256 / 256 / 256 / 256 < 2; omega) (by omega)
  go_enter Tryz.func123, Tryz.ntmps123
  go_wp2
  refine wp_loop_rounds 8 ?_
  rw [rounds_succ]
  go_wp2
  rw [rounds_succ]
  go_wp2
  rw [rounds_succ]
  go_wp2
  rw [rounds_succ]
  go_wp2
  rw [rounds_succ]
  go_wp2
  rw [rounds_succ]
  go_wp2
  rw [rounds_succ]
  go_wp2
  rw [rounds_succ]
  go_wp2
  go_region_with (go_at_call 134; refine (lead_any 7 _ (by omega) (by omega)).mono ?_; rintro e w' ⟨rfl, rfl⟩)
  all_goals go_wp2
  all_goals
    exact bodyPost_ret (v := .agg #[.int .u8 (252 + n / 256 / 256 / 256 / 256 / 256 / 256), .int .u8 (n / 256 / 256 / 256 / 256 / 256 % 256), .int .u8 (n / 256 / 256 / 256 / 256 % 256), .int .u8 (n / 256 / 256 / 256 % 256), .int .u8 (n / 256 / 256 % 256), .int .u8 (n / 256 % 256), .int .u8 (n % 256), .int .u8 (0), .int .u8 (0)]) (by simp [results, Tryz.results123, go_sem]) rfl ⟨agg9 (by omega) (by omega) (by omega) (by omega) (by omega) (by omega) (by omega) (by omega) (by omega), (((Below.refl _ _).alloc (Nat.le_refl _) _).alloc (by simp) _).drew⟩
set_option maxHeartbeats 1000000 in
theorem lay8 (n : Int) (w : World) (h0 : 0 ≤ n) (h1 : n ≤ 72057594037927935) :
    Calls Tryz.prog 123 #[.int .u64 n, .int .i64 8] w fun e w' => e = .returned (.agg #[.int .u8 (254 + n / 72057594037927936), .int .u8 (n / 281474976710656 % 256), .int .u8 (n / 1099511627776 % 256), .int .u8 (n / 4294967296 % 256), .int .u8 (n / 16777216 % 256), .int .u8 (n / 65536 % 256), .int .u8 (n / 256 % 256), .int .u8 (n % 256), .int .u8 (0)]) ∧ Below w.heap.size w w' := by
  have hl : leadOf 8 = 254 := by decide +kernel
  have hx : bits .or .u8 (n / 256 / 256 / 256 / 256 / 256 / 256 / 256) 254 = 254 + (n / 256 / 256 / 256 / 256 / 256 / 256 / 256) := or_lead 7 (n / 256 / 256 / 256 / 256 / 256 / 256 / 256) 254 (by decide) hl (by omega) (by show n / 256 / 256 / 256 / 256 / 256 / 256 / 256 < 1; omega) (by omega)
  go_enter Tryz.func123, Tryz.ntmps123
  go_wp2
  refine wp_loop_rounds 9 ?_
  rw [rounds_succ]
  go_wp2
  rw [rounds_succ]
  go_wp2
  rw [rounds_succ]
  go_wp2
  rw [rounds_succ]
  go_wp2
  rw [rounds_succ]
  go_wp2
  rw [rounds_succ]
  go_wp2
  rw [rounds_succ]
  go_wp2
  rw [rounds_succ]
  go_wp2
  rw [rounds_succ]
  go_wp2
  go_region_with (go_at_call 134; refine (lead_any 8 _ (by omega) (by omega)).mono ?_; rintro e w' ⟨rfl, rfl⟩)
  all_goals go_wp2
  all_goals
    exact bodyPost_ret (v := .agg #[.int .u8 (254 + n / 256 / 256 / 256 / 256 / 256 / 256 / 256), .int .u8 (n / 256 / 256 / 256 / 256 / 256 / 256), .int .u8 (n / 256 / 256 / 256 / 256 / 256 % 256), .int .u8 (n / 256 / 256 / 256 / 256 % 256), .int .u8 (n / 256 / 256 / 256 % 256), .int .u8 (n / 256 / 256 % 256), .int .u8 (n / 256 % 256), .int .u8 (n % 256), .int .u8 (0)]) (by simp [results, Tryz.results123, go_sem]) rfl ⟨agg9 (by omega) (by omega) (by omega) (by omega) (by omega) (by omega) (by omega) (by omega) (by omega), (((Below.refl _ _).alloc (Nat.le_refl _) _).alloc (by simp) _).drew⟩
set_option maxHeartbeats 1000000 in
theorem lay9 (n : Int) (w : World) (h0 : 0 ≤ n) (h1 : n ≤ 18446744073709551615) :
    Calls Tryz.prog 123 #[.int .u64 n, .int .i64 9] w fun e w' => e = .returned (.agg #[.int .u8 (255), .int .u8 (n / 72057594037927936 % 256), .int .u8 (n / 281474976710656 % 256), .int .u8 (n / 1099511627776 % 256), .int .u8 (n / 4294967296 % 256), .int .u8 (n / 16777216 % 256), .int .u8 (n / 65536 % 256), .int .u8 (n / 256 % 256), .int .u8 (n % 256)]) ∧ Below w.heap.size w w' := by
  have hl : leadOf 9 = 255 := by decide +kernel
  have hz : n / 256 / 256 / 256 / 256 / 256 / 256 / 256 / 256 = 0 := by omega
  have hx : bits .or .u8 0 255 = 255 := by decide +kernel
  go_enter Tryz.func123, Tryz.ntmps123
  go_wp2
  refine wp_loop_rounds 10 ?_
  rw [rounds_succ]
  go_wp2
  rw [rounds_succ]
  go_wp2
  rw [rounds_succ]
  go_wp2
  rw [rounds_succ]
  go_wp2
  rw [rounds_succ]
  go_wp2
  rw [rounds_succ]
  go_wp2
  rw [rounds_succ]
  go_wp2
  rw [rounds_succ]
  go_wp2
  rw [rounds_succ]
  go_wp2
  rw [rounds_succ]
  go_wp2
  go_region_with (go_at_call 134; refine (lead_any 9 _ (by omega) (by omega)).mono ?_; rintro e w' ⟨rfl, rfl⟩)
  all_goals go_wp2
  all_goals
    exact bodyPost_ret (v := .agg #[.int .u8 (255), .int .u8 (n / 256 / 256 / 256 / 256 / 256 / 256 / 256), .int .u8 (n / 256 / 256 / 256 / 256 / 256 / 256 % 256), .int .u8 (n / 256 / 256 / 256 / 256 / 256 % 256), .int .u8 (n / 256 / 256 / 256 / 256 % 256), .int .u8 (n / 256 / 256 / 256 % 256), .int .u8 (n / 256 / 256 % 256), .int .u8 (n / 256 % 256), .int .u8 (n % 256)]) (by simp [results, Tryz.results123, go_sem]) rfl ⟨agg9 (by omega) (by omega) (by omega) (by omega) (by omega) (by omega) (by omega) (by omega) (by omega), (((Below.refl _ _).alloc (Nat.le_refl _) _).alloc (by simp) _).drew⟩
end Go.Proofs.YtnchjlimkgbfpaaGreatDoor
