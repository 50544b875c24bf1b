/- The texts VLay, VPut, in this order. -/
import Derived.Test.YtnchjlimkgbfpaaGreatDoorG19
import Derived.Deep.RegionWith
import Derived.OwnWalk

/- The octets of a number: varint's lay and Put return, for every number, new memory that holds just the octets that the list 'octs' says, and change nothing that was there; conditions: the number fits uint64. -/
namespace Go.Proofs.YtnchjlimkgbfpaaGreatDoor
open Go.RowKit

/-- The k octets of n (k = 1 .. 9). -/
def octs (n : Int) : Nat → List Int
  | 1 => [n]
  | 2 => [128 + n / 256, n % 256]
  | 3 => [192 + n / 65536, n / 256 % 256, n % 256]
  | 4 => [224 + n / 16777216, n / 65536 % 256, n / 256 % 256, n % 256]
  | 5 => [240 + n / 4294967296, n / 16777216 % 256, n / 65536 % 256, n / 256 % 256, n % 256]
  | 6 => [248 + n / 1099511627776, n / 4294967296 % 256, n / 16777216 % 256, n / 65536 % 256, n / 256 % 256, n % 256]
  | 7 => [252 + n / 281474976710656, n / 1099511627776 % 256, n / 4294967296 % 256, n / 16777216 % 256, n / 65536 % 256, n / 256 % 256, n % 256]
  | 8 => [254 + n / 72057594037927936, n / 281474976710656 % 256, n / 1099511627776 % 256, n / 4294967296 % 256, n / 16777216 % 256, n / 65536 % 256, n / 256 % 256, n % 256]
  | 9 => [255, n / 72057594037927936 % 256, n / 281474976710656 % 256, n / 1099511627776 % 256, n / 4294967296 % 256, n / 16777216 % 256, n / 65536 % 256, n / 256 % 256, n % 256]
  | _ => []

theorem or_table : ∀ k : Fin 9, ∀ x : Fin 256, x.val < 2 ^ (7 - k.val) → k.val < 8 → bits .or .u8 (x.val : Int) (leadOf ((k.val : Int) + 1)) = leadOf ((k.val : Int) + 1) + (x.val : Int) := by decide +kernel

theorem or_lead (k : Nat) (x : Int) (L : Int) (hk : k < 8) (hL : leadOf ((k : Int) + 1) = L) (h0 : 0 ≤ x) (h1 : x < 2 ^ (7 - k)) (h2 : x < 256) : bits .or .u8 x L = L + x := by
  have h := or_table ⟨k, by omega⟩ ⟨x.toNat, by omega⟩ (by
    show x.toNat < 2 ^ (7 - k)
    have : ((2 ^ (7 - k) : Nat) : Int) = 2 ^ (7 - k) := by simp
    omega) hk
  have e : ((x.toNat : Nat) : Int) = x := by omega
  have h' : bits .or .u8 ((x.toNat : Nat) : Int) (leadOf ((k : Int) + 1)) = leadOf ((k : Int) + 1) + ((x.toNat : Nat) : Int) := h
  rw [e, hL] at h'
  exact h'

theorem agg9 {a0 a1 a2 a3 a4 a5 a6 a7 a8 b0 b1 b2 b3 b4 b5 b6 b7 b8 : Int} (h0 : a0 = b0) (h1 : a1 = b1) (h2 : a2 = b2) (h3 : a3 = b3) (h4 : a4 = b4) (h5 : a5 = b5) (h6 : a6 = b6) (h7 : a7 = b7) (h8 : a8 = b8) :
    Ending.returned (.agg #[.int .u8 a0, .int .u8 a1, .int .u8 a2, .int .u8 a3, .int .u8 a4, .int .u8 a5, .int .u8 a6, .int .u8 a7, .int .u8 a8]) =
    .returned (.agg #[.int .u8 b0, .int .u8 b1, .int .u8 b2, .int .u8 b3, .int .u8 b4, .int .u8 b5, .int .u8 b6, .int .u8 b7, .int .u8 b8]) := by
  rw [h0, h1, h2, h3, h4, h5, h6, h7, h8]


set_option maxHeartbeats 1000000 in
theorem lay1 (n : Int) (w : World) (h0 : 0 ≤ n) (h1 : n ≤ 127) :
    Calls Tryz.prog 123 #[.int .u64 n, .int .i64 1] w fun e w' => e = .returned (.agg #[.int .u8 (n), .int .u8 (0), .int .u8 (0), .int .u8 (0), .int .u8 (0), .int .u8 (0), .int .u8 (0), .int .u8 (0), .int .u8 (0)]) ∧ Below w.heap.size w w' := by
  have hl : leadOf 1 = 0 := by decide +kernel
  have hx : bits .or .u8 (n) 0 = 0 + (n) := or_lead 0 (n) 0 (by decide) hl (by omega) (by show n < 128; omega) (by omega)
  go_enter Tryz.func123, Tryz.ntmps123
  go_wp2
  refine wp_loop_rounds 2 ?_
  rw [rounds_succ]
  go_wp2
  rw [rounds_succ]
  go_wp2
  go_region_with (go_at_call 134; refine (lead_any 1 _ (by omega) (by omega)).mono ?_; rintro e w' ⟨rfl, rfl⟩)
  all_goals go_wp2
  all_goals
    exact bodyPost_ret (v := .agg #[.int .u8 (n), .int .u8 (0), .int .u8 (0), .int .u8 (0), .int .u8 (0), .int .u8 (0), .int .u8 (0), .int .u8 (0), .int .u8 (0)]) (by simp [results, Tryz.results123, go_sem]) rfl ⟨agg9 (by omega) (by omega) (by omega) (by omega) (by omega) (by omega) (by omega) (by omega) (by omega), (((Below.refl _ _).alloc (Nat.le_refl _) _).alloc (by simp) _).drew⟩

set_option maxHeartbeats 1000000 in
theorem lay2 (n : Int) (w : World) (h0 : 0 ≤ n) (h1 : n ≤ 16383) :
    Calls Tryz.prog 123 #[.int .u64 n, .int .i64 2] w fun e w' => e = .returned (.agg #[.int .u8 (128 + n / 256), .int .u8 (n % 256), .int .u8 (0), .int .u8 (0), .int .u8 (0), .int .u8 (0), .int .u8 (0), .int .u8 (0), .int .u8 (0)]) ∧ Below w.heap.size w w' := by
  have hl : leadOf 2 = 128 := by decide +kernel
  have hx : bits .or .u8 (n / 256) 128 = 128 + (n / 256) := or_lead 1 (n / 256) 128 (by decide) hl (by omega) (by show n / 256 < 64; omega) (by omega)
  go_enter Tryz.func123, Tryz.ntmps123
  go_wp2
  refine wp_loop_rounds 3 ?_
  rw [rounds_succ]
  go_wp2
  rw [rounds_succ]
  go_wp2
  rw [rounds_succ]
  go_wp2
  go_region_with (go_at_call 134; refine (lead_any 2 _ (by omega) (by omega)).mono ?_; rintro e w' ⟨rfl, rfl⟩)
  all_goals go_wp2
  all_goals
    exact bodyPost_ret (v := .agg #[.int .u8 (128 + n / 256), .int .u8 (n % 256), .int .u8 (0), .int .u8 (0), .int .u8 (0), .int .u8 (0), .int .u8 (0), .int .u8 (0), .int .u8 (0)]) (by simp [results, Tryz.results123, go_sem]) rfl ⟨agg9 (by omega) (by omega) (by omega) (by omega) (by omega) (by omega) (by omega) (by omega) (by omega), (((Below.refl _ _).alloc (Nat.le_refl _) _).alloc (by simp) _).drew⟩

set_option maxHeartbeats 1000000 in
theorem lay3 (n : Int) (w : World) (h0 : 0 ≤ n) (h1 : n ≤ 2097151) :
    Calls Tryz.prog 123 #[.int .u64 n, .int .i64 3] w fun e w' => e = .returned (.agg #[.int .u8 (192 + n / 65536), .int .u8 (n / 256 % 256), .int .u8 (n % 256), .int .u8 (0), .int .u8 (0), .int .u8 (0), .int .u8 (0), .int .u8 (0), .int .u8 (0)]) ∧ Below w.heap.size w w' := by
  have hl : leadOf 3 = 192 := by decide +kernel
  have hx : bits .or .u8 (n / 256 / 256) 192 = 192 + (n / 256 / 256) := or_lead 2 (n / 256 / 256) 192 (by decide) hl (by omega) (by show n / 256 / 256 < 32; omega) (by omega)
  go_enter Tryz.func123, Tryz.ntmps123
  go_wp2
  refine wp_loop_rounds 4 ?_
  rw [rounds_succ]
  go_wp2
  rw [rounds_succ]
  go_wp2
  rw [rounds_succ]
  go_wp2
  rw [rounds_succ]
  go_wp2
  go_region_with (go_at_call 134; refine (lead_any 3 _ (by omega) (by omega)).mono ?_; rintro e w' ⟨rfl, rfl⟩)
  all_goals go_wp2
  all_goals
    exact bodyPost_ret (v := .agg #[.int .u8 (192 + n / 256 / 256), .int .u8 (n / 256 % 256), .int .u8 (n % 256), .int .u8 (0), .int .u8 (0), .int .u8 (0), .int .u8 (0), .int .u8 (0), .int .u8 (0)]) (by simp [results, Tryz.results123, go_sem]) rfl ⟨agg9 (by omega) (by omega) (by omega) (by omega) (by omega) (by omega) (by omega) (by omega) (by omega), (((Below.refl _ _).alloc (Nat.le_refl _) _).alloc (by simp) _).drew⟩

set_option maxHeartbeats 1000000 in
theorem lay4 (n : Int) (w : World) (h0 : 0 ≤ n) (h1 : n ≤ 268435455) :
    Calls Tryz.prog 123 #[.int .u64 n, .int .i64 4] w fun e w' => e = .returned (.agg #[.int .u8 (224 + n / 16777216), .int .u8 (n / 65536 % 256), .int .u8 (n / 256 % 256), .int .u8 (n % 256), .int .u8 (0), .int .u8 (0), .int .u8 (0), .int .u8 (0), .int .u8 (0)]) ∧ Below w.heap.size w w' := by
  have hl : leadOf 4 = 224 := by decide +kernel
  have hx : bits .or .u8 (n / 256 / 256 / 256) 224 = 224 + (n / 256 / 256 / 256) := or_lead 3 (n / 256 / 256 / 256) 224 (by decide) hl (by omega) (by show n / 256 / 256 / 256 < 16; omega) (by omega)
  go_enter Tryz.func123, Tryz.ntmps123
  go_wp2
  refine wp_loop_rounds 5 ?_
  rw [rounds_succ]
  go_wp2
  rw [rounds_succ]
  go_wp2
  rw [rounds_succ]
  go_wp2
  rw [rounds_succ]
  go_wp2
  rw [rounds_succ]
  go_wp2
  go_region_with (go_at_call 134; refine (lead_any 4 _ (by omega) (by omega)).mono ?_; rintro e w' ⟨rfl, rfl⟩)
  all_goals go_wp2
  all_goals
    exact bodyPost_ret (v := .agg #[.int .u8 (224 + n / 256 / 256 / 256), .int .u8 (n / 256 / 256 % 256), .int .u8 (n / 256 % 256), .int .u8 (n % 256), .int .u8 (0), .int .u8 (0), .int .u8 (0), .int .u8 (0), .int .u8 (0)]) (by simp [results, Tryz.results123, go_sem]) rfl ⟨agg9 (by omega) (by omega) (by omega) (by omega) (by omega) (by omega) (by omega) (by omega) (by omega), (((Below.refl _ _).alloc (Nat.le_refl _) _).alloc (by simp) _).drew⟩

set_option maxHeartbeats 1000000 in
theorem lay5 (n : Int) (w : World) (h0 : 0 ≤ n) (h1 : n ≤ 34359738367) :
    Calls Tryz.prog 123 #[.int .u64 n, .int .i64 5] w fun e w' => e = .returned (.agg #[.int .u8 (240 + n / 4294967296), .int .u8 (n / 16777216 % 256), .int .u8 (n / 65536 % 256), .int .u8 (n / 256 % 256), .int .u8 (n % 256), .int .u8 (0), .int .u8 (0), .int .u8 (0), .int .u8 (0)]) ∧ Below w.heap.size w w' := by
  have hl : leadOf 5 = 240 := by decide +kernel
  have hx : bits .or .u8 (n / 256 / 256 / 256 / 256) 240 = 240 + (n / 256 / 256 / 256 / 256) := or_lead 4 (n / 256 / 256 / 256 / 256) 240 (by decide) hl (by omega) (by show n / 256 / 256 / 256 / 256 < 8; omega) (by omega)
  go_enter Tryz.func123, Tryz.ntmps123
  go_wp2
  refine wp_loop_rounds 6 ?_
  rw [rounds_succ]
  go_wp2
  rw [rounds_succ]
  go_wp2
  rw [rounds_succ]
  go_wp2
  rw [rounds_succ]
  go_wp2
  rw [rounds_succ]
  go_wp2
  rw [rounds_succ]
  go_wp2
  go_region_with (go_at_call 134; refine (lead_any 5 _ (by omega) (by omega)).mono ?_; rintro e w' ⟨rfl, rfl⟩)
  all_goals go_wp2
  all_goals
    exact bodyPost_ret (v := .agg #[.int .u8 (240 + n / 256 / 256 / 256 / 256), .int .u8 (n / 256 / 256 / 256 % 256), .int .u8 (n / 256 / 256 % 256), .int .u8 (n / 256 % 256), .int .u8 (n % 256), .int .u8 (0), .int .u8 (0), .int .u8 (0), .int .u8 (0)]) (by simp [results, Tryz.results123, go_sem]) rfl ⟨agg9 (by omega) (by omega) (by omega) (by omega) (by omega) (by omega) (by omega) (by omega) (by omega), (((Below.refl _ _).alloc (Nat.le_refl _) _).alloc (by simp) _).drew⟩

set_option maxHeartbeats 1000000 in
theorem lay6 (n : Int) (w : World) (h0 : 0 ≤ n) (h1 : n ≤ 4398046511103) :
    Calls Tryz.prog 123 #[.int .u64 n, .int .i64 6] w fun e w' => e = .returned (.agg #[.int .u8 (248 + n / 1099511627776), .int .u8 (n / 4294967296 % 256), .int .u8 (n / 16777216 % 256), .int .u8 (n / 65536 % 256), .int .u8 (n / 256 % 256), .int .u8 (n % 256), .int .u8 (0), .int .u8 (0), .int .u8 (0)]) ∧ Below w.heap.size w w' := by
  have hl : leadOf 6 = 248 := by decide +kernel
  have hx : bits .or .u8 (n / 256 / 256 / 256 / 256 / 256) 248 = 248 + (n / 256 / 256 / 256 / 256 / 256) := or_lead 5 (n / 256 / 256 / 256 / 256 / 256) 248 (by decide) hl (by omega) (by show n / 256 / 256 / 256 / 256 / 256 < 4; omega) (by omega)
  go_enter Tryz.func123, Tryz.ntmps123
  go_wp2
  refine wp_loop_rounds 7 ?_
  rw [rounds_succ]
  go_wp2
  rw [rounds_succ]
  go_wp2
  rw [rounds_succ]
  go_wp2
  rw [rounds_succ]
  go_wp2
  rw [rounds_succ]
  go_wp2
  rw [rounds_succ]
  go_wp2
  rw [rounds_succ]
  go_wp2
  go_region_with (go_at_call 134; refine (lead_any 6 _ (by omega) (by omega)).mono ?_; rintro e w' ⟨rfl, rfl⟩)
  all_goals go_wp2
  all_goals
    exact bodyPost_ret (v := .agg #[.int .u8 (248 + n / 256 / 256 / 256 / 256 / 256), .int .u8 (n / 256 / 256 / 256 / 256 % 256), .int .u8 (n / 256 / 256 / 256 % 256), .int .u8 (n / 256 / 256 % 256), .int .u8 (n / 256 % 256), .int .u8 (n % 256), .int .u8 (0), .int .u8 (0), .int .u8 (0)]) (by simp [results, Tryz.results123, go_sem]) rfl ⟨agg9 (by omega) (by omega) (by omega) (by omega) (by omega) (by omega) (by omega) (by omega) (by omega), (((Below.refl _ _).alloc (Nat.le_refl _) _).alloc (by simp) _).drew⟩

set_option maxHeartbeats 1000000 in
theorem lay7 (n : Int) (w : World) (h0 : 0 ≤ n) (h1 : n ≤ 562949953421311) :
    Calls Tryz.prog 123 #[.int .u64 n, .int .i64 7] w fun e w' => e = .returned (.agg #[.int .u8 (252 + n / 281474976710656), .int .u8 (n / 1099511627776 % 256), .int .u8 (n / 4294967296 % 256), .int .u8 (n / 16777216 % 256), .int .u8 (n / 65536 % 256), .int .u8 (n / 256 % 256), .int .u8 (n % 256), .int .u8 (0), .int .u8 (0)]) ∧ Below w.heap.size w w' := by
  have hl : leadOf 7 = 252 := by decide +kernel
  have hx : bits .or .u8 (n / 256 / 256 / 256 / 256 / 256 / 256) 252 = 252 + (n / 256 / 256 / 256 / 256 / 256 / 256) := or_lead 6 (n / 256 / 256 / 256 / 256 / 256 / 256) 252 (by decide) hl (by omega) (by show n / 256 / 256 / 256 / 256 / 256 / 256 < 2; omega) (by omega)
  go_enter Tryz.func123, Tryz.ntmps123
  go_wp2
  refine wp_loop_rounds 8 ?_
  rw [rounds_succ]
  go_wp2
  rw [rounds_succ]
  go_wp2
  rw [rounds_succ]
  go_wp2
  rw [rounds_succ]
  go_wp2
  rw [rounds_succ]
  go_wp2
  rw [rounds_succ]
  go_wp2
  rw [rounds_succ]
  go_wp2
  rw [rounds_succ]
  go_wp2
  go_region_with (go_at_call 134; refine (lead_any 7 _ (by omega) (by omega)).mono ?_; rintro e w' ⟨rfl, rfl⟩)
  all_goals go_wp2
  all_goals
    exact bodyPost_ret (v := .agg #[.int .u8 (252 + n / 256 / 256 / 256 / 256 / 256 / 256), .int .u8 (n / 256 / 256 / 256 / 256 / 256 % 256), .int .u8 (n / 256 / 256 / 256 / 256 % 256), .int .u8 (n / 256 / 256 / 256 % 256), .int .u8 (n / 256 / 256 % 256), .int .u8 (n / 256 % 256), .int .u8 (n % 256), .int .u8 (0), .int .u8 (0)]) (by simp [results, Tryz.results123, go_sem]) rfl ⟨agg9 (by omega) (by omega) (by omega) (by omega) (by omega) (by omega) (by omega) (by omega) (by omega), (((Below.refl _ _).alloc (Nat.le_refl _) _).alloc (by simp) _).drew⟩

set_option maxHeartbeats 1000000 in
theorem lay8 (n : Int) (w : World) (h0 : 0 ≤ n) (h1 : n ≤ 72057594037927935) :
    Calls Tryz.prog 123 #[.int .u64 n, .int .i64 8] w fun e w' => e = .returned (.agg #[.int .u8 (254 + n / 72057594037927936), .int .u8 (n / 281474976710656 % 256), .int .u8 (n / 1099511627776 % 256), .int .u8 (n / 4294967296 % 256), .int .u8 (n / 16777216 % 256), .int .u8 (n / 65536 % 256), .int .u8 (n / 256 % 256), .int .u8 (n % 256), .int .u8 (0)]) ∧ Below w.heap.size w w' := by
  have hl : leadOf 8 = 254 := by decide +kernel
  have hx : bits .or .u8 (n / 256 / 256 / 256 / 256 / 256 / 256 / 256) 254 = 254 + (n / 256 / 256 / 256 / 256 / 256 / 256 / 256) := or_lead 7 (n / 256 / 256 / 256 / 256 / 256 / 256 / 256) 254 (by decide) hl (by omega) (by show n / 256 / 256 / 256 / 256 / 256 / 256 / 256 < 1; omega) (by omega)
  go_enter Tryz.func123, Tryz.ntmps123
  go_wp2
  refine wp_loop_rounds 9 ?_
  rw [rounds_succ]
  go_wp2
  rw [rounds_succ]
  go_wp2
  rw [rounds_succ]
  go_wp2
  rw [rounds_succ]
  go_wp2
  rw [rounds_succ]
  go_wp2
  rw [rounds_succ]
  go_wp2
  rw [rounds_succ]
  go_wp2
  rw [rounds_succ]
  go_wp2
  rw [rounds_succ]
  go_wp2
  go_region_with (go_at_call 134; refine (lead_any 8 _ (by omega) (by omega)).mono ?_; rintro e w' ⟨rfl, rfl⟩)
  all_goals go_wp2
  all_goals
    exact bodyPost_ret (v := .agg #[.int .u8 (254 + n / 256 / 256 / 256 / 256 / 256 / 256 / 256), .int .u8 (n / 256 / 256 / 256 / 256 / 256 / 256), .int .u8 (n / 256 / 256 / 256 / 256 / 256 % 256), .int .u8 (n / 256 / 256 / 256 / 256 % 256), .int .u8 (n / 256 / 256 / 256 % 256), .int .u8 (n / 256 / 256 % 256), .int .u8 (n / 256 % 256), .int .u8 (n % 256), .int .u8 (0)]) (by simp [results, Tryz.results123, go_sem]) rfl ⟨agg9 (by omega) (by omega) (by omega) (by omega) (by omega) (by omega) (by omega) (by omega) (by omega), (((Below.refl _ _).alloc (Nat.le_refl _) _).alloc (by simp) _).drew⟩

set_option maxHeartbeats 1000000 in
theorem lay9 (n : Int) (w : World) (h0 : 0 ≤ n) (h1 : n ≤ 18446744073709551615) :
    Calls Tryz.prog 123 #[.int .u64 n, .int .i64 9] w fun e w' => e = .returned (.agg #[.int .u8 (255), .int .u8 (n / 72057594037927936 % 256), .int .u8 (n / 281474976710656 % 256), .int .u8 (n / 1099511627776 % 256), .int .u8 (n / 4294967296 % 256), .int .u8 (n / 16777216 % 256), .int .u8 (n / 65536 % 256), .int .u8 (n / 256 % 256), .int .u8 (n % 256)]) ∧ Below w.heap.size w w' := by
  have hl : leadOf 9 = 255 := by decide +kernel
  have hz : n / 256 / 256 / 256 / 256 / 256 / 256 / 256 / 256 = 0 := by omega
  have hx : bits .or .u8 0 255 = 255 := by decide +kernel
  go_enter Tryz.func123, Tryz.ntmps123
  go_wp2
  refine wp_loop_rounds 10 ?_
  rw [rounds_succ]
  go_wp2
  rw [rounds_succ]
  go_wp2
  rw [rounds_succ]
  go_wp2
  rw [rounds_succ]
  go_wp2
  rw [rounds_succ]
  go_wp2
  rw [rounds_succ]
  go_wp2
  rw [rounds_succ]
  go_wp2
  rw [rounds_succ]
  go_wp2
  rw [rounds_succ]
  go_wp2
  rw [rounds_succ]
  go_wp2
  go_region_with (go_at_call 134; refine (lead_any 9 _ (by omega) (by omega)).mono ?_; rintro e w' ⟨rfl, rfl⟩)
  all_goals go_wp2
  all_goals
    exact bodyPost_ret (v := .agg #[.int .u8 (255), .int .u8 (n / 256 / 256 / 256 / 256 / 256 / 256 / 256), .int .u8 (n / 256 / 256 / 256 / 256 / 256 / 256 % 256), .int .u8 (n / 256 / 256 / 256 / 256 / 256 % 256), .int .u8 (n / 256 / 256 / 256 / 256 % 256), .int .u8 (n / 256 / 256 / 256 % 256), .int .u8 (n / 256 / 256 % 256), .int .u8 (n / 256 % 256), .int .u8 (n % 256)]) (by simp [results, Tryz.results123, go_sem]) rfl ⟨agg9 (by omega) (by omega) (by omega) (by omega) (by omega) (by omega) (by omega) (by omega) (by omega), (((Below.refl _ _).alloc (Nat.le_refl _) _).alloc (by simp) _).drew⟩
end Go.Proofs.YtnchjlimkgbfpaaGreatDoor

/- varint.Put returns, for every number that fits uint64, a slice in memory of its own that holds just the number's octets ('octs n' at 'sizeOf n'), and changes nothing that was there. -/
namespace Go.Proofs.YtnchjlimkgbfpaaGreatDoor
open Go.RowKit
set_option maxHeartbeats 400000 in
theorem put1 (n : Int) (w : World) (h0 : 0 ≤ n) (h1 : n ≤ 127) (hs : sizeOf n = 1) :
    Calls Tryz.prog 76 #[.int .u64 n] w fun e w' => ∃ v, e = .returned v ∧ w'.ownsRow w.heap.size 5 1 v 1 ((octs n 1).map (Value.int .u8)) ∧ Below w.heap.size w w' := by
  have H : Hid (sizeOf n = 1) := hs
  clear hs
  obtain ⟨i0, hi, hz0, hz1, hz2⟩ := info_parts Tryz.info5
  go_enter Tryz.func76, Tryz.ntmps76
  go_wp2_with fail
  refine (size_any n _ h0 (by omega)).mono ?_
  rintro e w' ⟨rfl, rfl⟩
  rw [H.out]
  go_wp2_with fail
  refine (lay1 n _ h0 h1).mono ?_
  rintro e w1 ⟨rfl, hb⟩
  go_wp2_with (at_builtin; refine wpList_append_own _ rfl _ _ 88 rfl w'.heap.size 5 i0 (.int .u8 0) 1 1 Tryz.underlying88 hi hz0 hz1 hz2 rfl (by decide) _ _ _ rfl (World.ownsRow_nil _ _ _ _) ⟨w1.heap.size, 0, none⟩ 1 9 ((octs n 1).map (Value.int .u8)) rfl rfl ?c1 ?c2 ?c3 ?c4 ?c5 ?_)
  case c1 =>
    intro j u hj
    exact cells_new w1 ((octs n 1).map (Value.int .u8)) [.int .u8 0, .int .u8 0, .int .u8 0, .int .u8 0, .int .u8 0, .int .u8 0, .int .u8 0, .int .u8 0] 210 j u hj
  case c2 => exact one_u8 _
  case c3 => unfold maxLen; omega
  case c4 => omega
  case c5 => have := hb.size; simp; omega
  intro v' w3 hown hgrow _
  go_wp2
  go_ret
  refine ⟨_, rfl, hown, ?_⟩
  exact (hb.alloc hb.size _).grown hgrow (by have := hb.size; simp; omega) (by simp [Value.ownBlock])

set_option maxHeartbeats 400000 in
theorem put2 (n : Int) (w : World) (h0 : 0 ≤ n) (h1 : n ≤ 16383) (hs : sizeOf n = 2) :
    Calls Tryz.prog 76 #[.int .u64 n] w fun e w' => ∃ v, e = .returned v ∧ w'.ownsRow w.heap.size 5 1 v 2 ((octs n 2).map (Value.int .u8)) ∧ Below w.heap.size w w' := by
  have H : Hid (sizeOf n = 2) := hs
  clear hs
  obtain ⟨i0, hi, hz0, hz1, hz2⟩ := info_parts Tryz.info5
  go_enter Tryz.func76, Tryz.ntmps76
  go_wp2_with fail
  refine (size_any n _ h0 (by omega)).mono ?_
  rintro e w' ⟨rfl, rfl⟩
  rw [H.out]
  go_wp2_with fail
  refine (lay2 n _ h0 h1).mono ?_
  rintro e w1 ⟨rfl, hb⟩
  go_wp2_with (at_builtin; refine wpList_append_own _ rfl _ _ 88 rfl w'.heap.size 5 i0 (.int .u8 0) 1 1 Tryz.underlying88 hi hz0 hz1 hz2 rfl (by decide) _ _ _ rfl (World.ownsRow_nil _ _ _ _) ⟨w1.heap.size, 0, none⟩ 2 9 ((octs n 2).map (Value.int .u8)) rfl rfl ?c1 ?c2 ?c3 ?c4 ?c5 ?_)
  case c1 =>
    intro j u hj
    exact cells_new w1 ((octs n 2).map (Value.int .u8)) [.int .u8 0, .int .u8 0, .int .u8 0, .int .u8 0, .int .u8 0, .int .u8 0, .int .u8 0] 210 j u hj
  case c2 => exact one_u8 _
  case c3 => unfold maxLen; omega
  case c4 => omega
  case c5 => have := hb.size; simp; omega
  intro v' w3 hown hgrow _
  go_wp2
  go_ret
  refine ⟨_, rfl, hown, ?_⟩
  exact (hb.alloc hb.size _).grown hgrow (by have := hb.size; simp; omega) (by simp [Value.ownBlock])

set_option maxHeartbeats 400000 in
theorem put3 (n : Int) (w : World) (h0 : 0 ≤ n) (h1 : n ≤ 2097151) (hs : sizeOf n = 3) :
    Calls Tryz.prog 76 #[.int .u64 n] w fun e w' => ∃ v, e = .returned v ∧ w'.ownsRow w.heap.size 5 1 v 3 ((octs n 3).map (Value.int .u8)) ∧ Below w.heap.size w w' := by
  have H : Hid (sizeOf n = 3) := hs
  clear hs
  obtain ⟨i0, hi, hz0, hz1, hz2⟩ := info_parts Tryz.info5
  go_enter Tryz.func76, Tryz.ntmps76
  go_wp2_with fail
  refine (size_any n _ h0 (by omega)).mono ?_
  rintro e w' ⟨rfl, rfl⟩
  rw [H.out]
  go_wp2_with fail
  refine (lay3 n _ h0 h1).mono ?_
  rintro e w1 ⟨rfl, hb⟩
  go_wp2_with (at_builtin; refine wpList_append_own _ rfl _ _ 88 rfl w'.heap.size 5 i0 (.int .u8 0) 1 1 Tryz.underlying88 hi hz0 hz1 hz2 rfl (by decide) _ _ _ rfl (World.ownsRow_nil _ _ _ _) ⟨w1.heap.size, 0, none⟩ 3 9 ((octs n 3).map (Value.int .u8)) rfl rfl ?c1 ?c2 ?c3 ?c4 ?c5 ?_)
  case c1 =>
    intro j u hj
    exact cells_new w1 ((octs n 3).map (Value.int .u8)) [.int .u8 0, .int .u8 0, .int .u8 0, .int .u8 0, .int .u8 0, .int .u8 0] 210 j u hj
  case c2 => exact one_u8 _
  case c3 => unfold maxLen; omega
  case c4 => omega
  case c5 => have := hb.size; simp; omega
  intro v' w3 hown hgrow _
  go_wp2
  go_ret
  refine ⟨_, rfl, hown, ?_⟩
  exact (hb.alloc hb.size _).grown hgrow (by have := hb.size; simp; omega) (by simp [Value.ownBlock])

set_option maxHeartbeats 400000 in
theorem put4 (n : Int) (w : World) (h0 : 0 ≤ n) (h1 : n ≤ 268435455) (hs : sizeOf n = 4) :
    Calls Tryz.prog 76 #[.int .u64 n] w fun e w' => ∃ v, e = .returned v ∧ w'.ownsRow w.heap.size 5 1 v 4 ((octs n 4).map (Value.int .u8)) ∧ Below w.heap.size w w' := by
  have H : Hid (sizeOf n = 4) := hs
  clear hs
  obtain ⟨i0, hi, hz0, hz1, hz2⟩ := info_parts Tryz.info5
  go_enter Tryz.func76, Tryz.ntmps76
  go_wp2_with fail
  refine (size_any n _ h0 (by omega)).mono ?_
  rintro e w' ⟨rfl, rfl⟩
  rw [H.out]
  go_wp2_with fail
  refine (lay4 n _ h0 h1).mono ?_
  rintro e w1 ⟨rfl, hb⟩
  go_wp2_with (at_builtin; refine wpList_append_own _ rfl _ _ 88 rfl w'.heap.size 5 i0 (.int .u8 0) 1 1 Tryz.underlying88 hi hz0 hz1 hz2 rfl (by decide) _ _ _ rfl (World.ownsRow_nil _ _ _ _) ⟨w1.heap.size, 0, none⟩ 4 9 ((octs n 4).map (Value.int .u8)) rfl rfl ?c1 ?c2 ?c3 ?c4 ?c5 ?_)
  case c1 =>
    intro j u hj
    exact cells_new w1 ((octs n 4).map (Value.int .u8)) [.int .u8 0, .int .u8 0, .int .u8 0, .int .u8 0, .int .u8 0] 210 j u hj
  case c2 => exact one_u8 _
  case c3 => unfold maxLen; omega
  case c4 => omega
  case c5 => have := hb.size; simp; omega
  intro v' w3 hown hgrow _
  go_wp2
  go_ret
  refine ⟨_, rfl, hown, ?_⟩
  exact (hb.alloc hb.size _).grown hgrow (by have := hb.size; simp; omega) (by simp [Value.ownBlock])

set_option maxHeartbeats 400000 in
theorem put5 (n : Int) (w : World) (h0 : 0 ≤ n) (h1 : n ≤ 34359738367) (hs : sizeOf n = 5) :
    Calls Tryz.prog 76 #[.int .u64 n] w fun e w' => ∃ v, e = .returned v ∧ w'.ownsRow w.heap.size 5 1 v 5 ((octs n 5).map (Value.int .u8)) ∧ Below w.heap.size w w' := by
  have H : Hid (sizeOf n = 5) := hs
  clear hs
  obtain ⟨i0, hi, hz0, hz1, hz2⟩ := info_parts Tryz.info5
  go_enter Tryz.func76, Tryz.ntmps76
  go_wp2_with fail
  refine (size_any n _ h0 (by omega)).mono ?_
  rintro e w' ⟨rfl, rfl⟩
  rw [H.out]
  go_wp2_with fail
  refine (lay5 n _ h0 h1).mono ?_
  rintro e w1 ⟨rfl, hb⟩
  go_wp2_with (at_builtin; refine wpList_append_own _ rfl _ _ 88 rfl w'.heap.size 5 i0 (.int .u8 0) 1 1 Tryz.underlying88 hi hz0 hz1 hz2 rfl (by decide) _ _ _ rfl (World.ownsRow_nil _ _ _ _) ⟨w1.heap.size, 0, none⟩ 5 9 ((octs n 5).map (Value.int .u8)) rfl rfl ?c1 ?c2 ?c3 ?c4 ?c5 ?_)
  case c1 =>
    intro j u hj
    exact cells_new w1 ((octs n 5).map (Value.int .u8)) [.int .u8 0, .int .u8 0, .int .u8 0, .int .u8 0] 210 j u hj
  case c2 => exact one_u8 _
  case c3 => unfold maxLen; omega
  case c4 => omega
  case c5 => have := hb.size; simp; omega
  intro v' w3 hown hgrow _
  go_wp2
  go_ret
  refine ⟨_, rfl, hown, ?_⟩
  exact (hb.alloc hb.size _).grown hgrow (by have := hb.size; simp; omega) (by simp [Value.ownBlock])

set_option maxHeartbeats 400000 in
theorem put6 (n : Int) (w : World) (h0 : 0 ≤ n) (h1 : n ≤ 4398046511103) (hs : sizeOf n = 6) :
    Calls Tryz.prog 76 #[.int .u64 n] w fun e w' => ∃ v, e = .returned v ∧ w'.ownsRow w.heap.size 5 1 v 6 ((octs n 6).map (Value.int .u8)) ∧ Below w.heap.size w w' := by
  have H : Hid (sizeOf n = 6) := hs
  clear hs
  obtain ⟨i0, hi, hz0, hz1, hz2⟩ := info_parts Tryz.info5
  go_enter Tryz.func76, Tryz.ntmps76
  go_wp2_with fail
  refine (size_any n _ h0 (by omega)).mono ?_
  rintro e w' ⟨rfl, rfl⟩
  rw [H.out]
  go_wp2_with fail
  refine (lay6 n _ h0 h1).mono ?_
  rintro e w1 ⟨rfl, hb⟩
  go_wp2_with (at_builtin; refine wpList_append_own _ rfl _ _ 88 rfl w'.heap.size 5 i0 (.int .u8 0) 1 1 Tryz.underlying88 hi hz0 hz1 hz2 rfl (by decide) _ _ _ rfl (World.ownsRow_nil _ _ _ _) ⟨w1.heap.size, 0, none⟩ 6 9 ((octs n 6).map (Value.int .u8)) rfl rfl ?c1 ?c2 ?c3 ?c4 ?c5 ?_)
  case c1 =>
    intro j u hj
    exact cells_new w1 ((octs n 6).map (Value.int .u8)) [.int .u8 0, .int .u8 0, .int .u8 0] 210 j u hj
  case c2 => exact one_u8 _
  case c3 => unfold maxLen; omega
  case c4 => omega
  case c5 => have := hb.size; simp; omega
  intro v' w3 hown hgrow _
  go_wp2
  go_ret
  refine ⟨_, rfl, hown, ?_⟩
  exact (hb.alloc hb.size _).grown hgrow (by have := hb.size; simp; omega) (by simp [Value.ownBlock])

set_option maxHeartbeats 400000 in
theorem put7 (n : Int) (w : World) (h0 : 0 ≤ n) (h1 : n ≤ 562949953421311) (hs : sizeOf n = 7) :
    Calls Tryz.prog 76 #[.int .u64 n] w fun e w' => ∃ v, e = .returned v ∧ w'.ownsRow w.heap.size 5 1 v 7 ((octs n 7).map (Value.int .u8)) ∧ Below w.heap.size w w' := by
  have H : Hid (sizeOf n = 7) := hs
  clear hs
  obtain ⟨i0, hi, hz0, hz1, hz2⟩ := info_parts Tryz.info5
  go_enter Tryz.func76, Tryz.ntmps76
  go_wp2_with fail
  refine (size_any n _ h0 (by omega)).mono ?_
  rintro e w' ⟨rfl, rfl⟩
  rw [H.out]
  go_wp2_with fail
  refine (lay7 n _ h0 h1).mono ?_
  rintro e w1 ⟨rfl, hb⟩
  go_wp2_with (at_builtin; refine wpList_append_own _ rfl _ _ 88 rfl w'.heap.size 5 i0 (.int .u8 0) 1 1 Tryz.underlying88 hi hz0 hz1 hz2 rfl (by decide) _ _ _ rfl (World.ownsRow_nil _ _ _ _) ⟨w1.heap.size, 0, none⟩ 7 9 ((octs n 7).map (Value.int .u8)) rfl rfl ?c1 ?c2 ?c3 ?c4 ?c5 ?_)
  case c1 =>
    intro j u hj
    exact cells_new w1 ((octs n 7).map (Value.int .u8)) [.int .u8 0, .int .u8 0] 210 j u hj
  case c2 => exact one_u8 _
  case c3 => unfold maxLen; omega
  case c4 => omega
  case c5 => have := hb.size; simp; omega
  intro v' w3 hown hgrow _
  go_wp2
  go_ret
  refine ⟨_, rfl, hown, ?_⟩
  exact (hb.alloc hb.size _).grown hgrow (by have := hb.size; simp; omega) (by simp [Value.ownBlock])

set_option maxHeartbeats 400000 in
theorem put8 (n : Int) (w : World) (h0 : 0 ≤ n) (h1 : n ≤ 72057594037927935) (hs : sizeOf n = 8) :
    Calls Tryz.prog 76 #[.int .u64 n] w fun e w' => ∃ v, e = .returned v ∧ w'.ownsRow w.heap.size 5 1 v 8 ((octs n 8).map (Value.int .u8)) ∧ Below w.heap.size w w' := by
  have H : Hid (sizeOf n = 8) := hs
  clear hs
  obtain ⟨i0, hi, hz0, hz1, hz2⟩ := info_parts Tryz.info5
  go_enter Tryz.func76, Tryz.ntmps76
  go_wp2_with fail
  refine (size_any n _ h0 (by omega)).mono ?_
  rintro e w' ⟨rfl, rfl⟩
  rw [H.out]
  go_wp2_with fail
  refine (lay8 n _ h0 h1).mono ?_
  rintro e w1 ⟨rfl, hb⟩
  go_wp2_with (at_builtin; refine wpList_append_own _ rfl _ _ 88 rfl w'.heap.size 5 i0 (.int .u8 0) 1 1 Tryz.underlying88 hi hz0 hz1 hz2 rfl (by decide) _ _ _ rfl (World.ownsRow_nil _ _ _ _) ⟨w1.heap.size, 0, none⟩ 8 9 ((octs n 8).map (Value.int .u8)) rfl rfl ?c1 ?c2 ?c3 ?c4 ?c5 ?_)
  case c1 =>
    intro j u hj
    exact cells_new w1 ((octs n 8).map (Value.int .u8)) [.int .u8 0] 210 j u hj
  case c2 => exact one_u8 _
  case c3 => unfold maxLen; omega
  case c4 => omega
  case c5 => have := hb.size; simp; omega
  intro v' w3 hown hgrow _
  go_wp2
  go_ret
  refine ⟨_, rfl, hown, ?_⟩
  exact (hb.alloc hb.size _).grown hgrow (by have := hb.size; simp; omega) (by simp [Value.ownBlock])

set_option maxHeartbeats 400000 in
theorem put9 (n : Int) (w : World) (h0 : 0 ≤ n) (h1 : n ≤ 18446744073709551615) (hs : sizeOf n = 9) :
    Calls Tryz.prog 76 #[.int .u64 n] w fun e w' => ∃ v, e = .returned v ∧ w'.ownsRow w.heap.size 5 1 v 9 ((octs n 9).map (Value.int .u8)) ∧ Below w.heap.size w w' := by
  have H : Hid (sizeOf n = 9) := hs
  clear hs
  obtain ⟨i0, hi, hz0, hz1, hz2⟩ := info_parts Tryz.info5
  go_enter Tryz.func76, Tryz.ntmps76
  go_wp2_with fail
  refine (size_any n _ h0 (by omega)).mono ?_
  rintro e w' ⟨rfl, rfl⟩
  rw [H.out]
  go_wp2_with fail
  refine (lay9 n _ h0 h1).mono ?_
  rintro e w1 ⟨rfl, hb⟩
  go_wp2_with (at_builtin; refine wpList_append_own _ rfl _ _ 88 rfl w'.heap.size 5 i0 (.int .u8 0) 1 1 Tryz.underlying88 hi hz0 hz1 hz2 rfl (by decide) _ _ _ rfl (World.ownsRow_nil _ _ _ _) ⟨w1.heap.size, 0, none⟩ 9 9 ((octs n 9).map (Value.int .u8)) rfl rfl ?c1 ?c2 ?c3 ?c4 ?c5 ?_)
  case c1 =>
    intro j u hj
    exact cells_new w1 ((octs n 9).map (Value.int .u8)) [] 210 j u hj
  case c2 => exact one_u8 _
  case c3 => unfold maxLen; omega
  case c4 => omega
  case c5 => have := hb.size; simp; omega
  intro v' w3 hown hgrow _
  go_wp2
  go_ret
  refine ⟨_, rfl, hown, ?_⟩
  exact (hb.alloc hb.size _).grown hgrow (by have := hb.size; simp; omega) (by simp [Value.ownBlock])

theorem bl_up (n : Int) (b : Nat) (h0 : 0 ≤ n) (h : n < 2 ^ b) : bl n ≤ b := by
  unfold bl bitLen
  split
  · omega
  · rename_i hn
    have hx : n.toNat < 2 ^ b := by
      have : ((2 ^ b : Nat) : Int) = 2 ^ b := by simp
      omega
    have := (Nat.log2_lt hn).2 hx
    omega

theorem bl_down (n : Int) (b : Nat) (h : (2 : Int) ^ b ≤ n) : (b : Int) + 1 ≤ bl n := by
  have e : ((2 ^ b : Nat) : Int) = 2 ^ b := by simp
  have hp : 0 < 2 ^ b := Nat.two_pow_pos b
  have hn : n.toNat ≠ 0 := by omega
  have hx : 2 ^ b ≤ n.toNat := by omega
  have := (Nat.le_log2 hn).2 hx
  unfold bl bitLen
  rw [if_neg hn]
  omega


theorem size_cases (n : Int) (h0 : 0 ≤ n) (h1 : n ≤ 18446744073709551615) :
    (sizeOf n = 1 ∧ 0 ≤ n ∧ n ≤ 127) ∨ (sizeOf n = 2 ∧ 128 ≤ n ∧ n ≤ 16383) ∨ (sizeOf n = 3 ∧ 16384 ≤ n ∧ n ≤ 2097151) ∨ (sizeOf n = 4 ∧ 2097152 ≤ n ∧ n ≤ 268435455) ∨ (sizeOf n = 5 ∧ 268435456 ≤ n ∧ n ≤ 34359738367) ∨ (sizeOf n = 6 ∧ 34359738368 ≤ n ∧ n ≤ 4398046511103) ∨ (sizeOf n = 7 ∧ 4398046511104 ≤ n ∧ n ≤ 562949953421311) ∨ (sizeOf n = 8 ∧ 562949953421312 ≤ n ∧ n ≤ 72057594037927935) ∨ (sizeOf n = 9 ∧ 72057594037927936 ≤ n ∧ n ≤ 18446744073709551615) := by
  have b0 := bl_nonneg n
  have b64 := bl_le64 n h0 h1
  by_cases c1 : n < 128
  · have u := bl_up n 7 h0 (by show n < 128; exact c1); exact .inl ⟨by unfold sizeOf; omega, by omega, by omega⟩
  by_cases c2 : n < 16384
  · have u := bl_up n 14 h0 (by show n < 16384; exact c2); have d := bl_down n 7 (by show 128 ≤ n; omega); exact .inr (.inl ⟨by unfold sizeOf; omega, by omega, by omega⟩)
  by_cases c3 : n < 2097152
  · have u := bl_up n 21 h0 (by show n < 2097152; exact c3); have d := bl_down n 14 (by show 16384 ≤ n; omega); exact .inr (.inr (.inl ⟨by unfold sizeOf; omega, by omega, by omega⟩))
  by_cases c4 : n < 268435456
  · have u := bl_up n 28 h0 (by show n < 268435456; exact c4); have d := bl_down n 21 (by show 2097152 ≤ n; omega); exact .inr (.inr (.inr (.inl ⟨by unfold sizeOf; omega, by omega, by omega⟩)))
  by_cases c5 : n < 34359738368
  · have u := bl_up n 35 h0 (by show n < 34359738368; exact c5); have d := bl_down n 28 (by show 268435456 ≤ n; omega); exact .inr (.inr (.inr (.inr (.inl ⟨by unfold sizeOf; omega, by omega, by omega⟩))))
  by_cases c6 : n < 4398046511104
  · have u := bl_up n 42 h0 (by show n < 4398046511104; exact c6); have d := bl_down n 35 (by show 34359738368 ≤ n; omega); exact .inr (.inr (.inr (.inr (.inr (.inl ⟨by unfold sizeOf; omega, by omega, by omega⟩)))))
  by_cases c7 : n < 562949953421312
  · have u := bl_up n 49 h0 (by show n < 562949953421312; exact c7); have d := bl_down n 42 (by show 4398046511104 ≤ n; omega); exact .inr (.inr (.inr (.inr (.inr (.inr (.inl ⟨by unfold sizeOf; omega, by omega, by omega⟩))))))
  by_cases c8 : n < 72057594037927936
  · have u := bl_up n 56 h0 (by show n < 72057594037927936; exact c8); have d := bl_down n 49 (by show 562949953421312 ≤ n; omega); exact .inr (.inr (.inr (.inr (.inr (.inr (.inr (.inl ⟨by unfold sizeOf; omega, by omega, by omega⟩)))))))
  have d := bl_down n 56 (by show 72057594037927936 ≤ n; omega)
  exact .inr (.inr (.inr (.inr (.inr (.inr (.inr (.inr (⟨by unfold sizeOf; omega, by omega, by omega⟩))))))))

theorem size_bd (n : Int) : 1 ≤ sizeOf n ∧ sizeOf n ≤ 9 := by
  unfold sizeOf; omega

/-- The octets of n. -/
def octets (n : Int) : List Int := octs n (sizeOf n).toNat

theorem put_any (n : Int) (w : World) (h0 : 0 ≤ n) (h1 : n ≤ 18446744073709551615) :
    Calls Tryz.prog 76 #[.int .u64 n] w fun e w' => ∃ v, e = .returned v ∧ w'.ownsRow w.heap.size 5 1 v (octets n).length ((octets n).map (Value.int .u8)) ∧ Below w.heap.size w w' := by
  have hc := size_cases n h0 h1
  rcases hc with ⟨hs, ha, hb⟩ | ⟨hs, ha, hb⟩ | ⟨hs, ha, hb⟩ | ⟨hs, ha, hb⟩ | ⟨hs, ha, hb⟩ | ⟨hs, ha, hb⟩ | ⟨hs, ha, hb⟩ | ⟨hs, ha, hb⟩ | ⟨hs, ha, hb⟩
  · have e : octets n = octs n 1 := by unfold octets; rw [hs]; rfl
    rw [e]; exact put1 n w h0 hb hs
  · have e : octets n = octs n 2 := by unfold octets; rw [hs]; rfl
    rw [e]; exact put2 n w h0 hb hs
  · have e : octets n = octs n 3 := by unfold octets; rw [hs]; rfl
    rw [e]; exact put3 n w h0 hb hs
  · have e : octets n = octs n 4 := by unfold octets; rw [hs]; rfl
    rw [e]; exact put4 n w h0 hb hs
  · have e : octets n = octs n 5 := by unfold octets; rw [hs]; rfl
    rw [e]; exact put5 n w h0 hb hs
  · have e : octets n = octs n 6 := by unfold octets; rw [hs]; rfl
    rw [e]; exact put6 n w h0 hb hs
  · have e : octets n = octs n 7 := by unfold octets; rw [hs]; rfl
    rw [e]; exact put7 n w h0 hb hs
  · have e : octets n = octs n 8 := by unfold octets; rw [hs]; rfl
    rw [e]; exact put8 n w h0 hb hs
  · have e : octets n = octs n 9 := by unfold octets; rw [hs]; rfl
    rw [e]; exact put9 n w h0 hb hs
end Go.Proofs.YtnchjlimkgbfpaaGreatDoor
