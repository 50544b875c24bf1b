/- Numbers as octets, the program's. -/
import Derived.Test.YtpjmieiajhhbaaaDoorGA
import Derived.WalkKit
import Derived.WalkLawsBesides
import Derived.WalkSpells
import Derived.Lib.Tables
import Derived.KernelRfl
import Derived.Deep.RegionWith
import Derived.OwnWalk
import Derived.Deep.QuietTactic
import Derived.BigQuiet

/- The functions of package varint that only reckon (told, lead, Size, Zig, Zag) and the three of math/bits that they call return, for every number of their types, what the plain functions below say; no conditions but that each number fits its type. -/
namespace Go.Proofs.YtpjmieiajhhbaaaDoor
open Go.RowKit

/-- How many bits n has. -/
def bl (n : Int) : Int := (bitLen n.toNat : Int)

theorem bl_table : ∀ n : Fin 256, Lib.len8 (n.val : Int) = (bitLen n.val : Int) := by decide +kernel

theorem bl_len8 (n : Int) (h0 : 0 ≤ n) (h1 : n ≤ 255) : Lib.len8 n = bl n := by
  have := bl_table ⟨n.toNat, by omega⟩
  unfold bl
  rw [← this]
  congr 1
  show n = ((n.toNat : Nat) : Int)
  omega

theorem bl_shift (n : Int) (b : Nat) (h0 : 0 ≤ n) (h : (2 : Int) ^ b ≤ n) : bl n = b + bl (n / 2 ^ b) := by
  obtain ⟨x, rfl⟩ := Int.eq_ofNat_of_zero_le h0
  have e : ((x : Int) / 2 ^ b).toNat = x / 2 ^ b := by
    have : ((x : Int) / 2 ^ b) = ((x / 2 ^ b : Nat) : Int) := by simp
    rw [this]; rfl
  have hx : 2 ^ b ≤ x := by exact_mod_cast h
  have hd : x / 2 ^ b ≠ 0 := by
    have := Nat.div_pos hx (Nat.two_pow_pos b)
    omega
  unfold bl
  rw [e, Int.toNat_natCast, bitLen_shift x b hd]
  omega


theorem len8_bd (n : Int) (h0 : 0 ≤ n) (h1 : n ≤ 255) : 0 ≤ Lib.len8 n ∧ Lib.len8 n ≤ 8 := by
  rw [bl_len8 n h0 h1]
  have := bitLen_le8 n.toNat (by omega)
  unfold bl
  omega

theorem len8_any (n : Int) (w : World) (h0 : 0 ≤ n) (h1 : n ≤ 255) :
    Calls Tryd.prog 109 #[.int .u8 n] w fun e w' => e = .returned (.int .i64 (bl n)) ∧ w' = w := by
  have H : Hid (Lib.len8 n = bl n) := bl_len8 n h0 h1
  obtain ⟨b0, b1⟩ := len8_bd n h0 h1
  go_enter Tryd.func109, Tryd.ntmps109
  go_wp2
  go_ret
  exact ⟨ret_int (by rw [H.out]), rfl⟩

/-- What Len64 reckons, by the tests on its road. -/
theorem bl_road (n x : Int) (b : Nat) (h0 : 0 ≤ n) (hb : b = 0 ∨ (2 : Int) ^ b ≤ n) (hx : x = n / 2 ^ b) (h1 : x ≤ 255) : (b : Int) + Lib.len8 x = bl n := by
  have hx0 : 0 ≤ x := by
    rw [hx]; exact Int.ediv_nonneg h0 (Int.le_of_lt (Int.pow_pos (by decide)))
  rw [bl_len8 x hx0 h1, hx]
  rcases hb with rfl | hb
  · simp
  · exact (bl_shift n b h0 hb).symm

set_option maxHeartbeats 400000 in
theorem len64_any (n : Int) (w : World) (h0 : 0 ≤ n) (h1 : n ≤ 18446744073709551615) :
    Calls Tryd.prog 72 #[.int .u64 n] w fun e w' => e = .returned (.int .i64 (bl n)) ∧ w' = w := by
  by_cases c1 : 4294967296 ≤ n
  · by_cases c2 : 65536 ≤ n / 4294967296
    · by_cases c3 : 256 ≤ n / 4294967296 / 65536
      · have q0 : 0 ≤ n / 4294967296 / 65536 / 256 := by omega
        have q1 : n / 4294967296 / 65536 / 256 ≤ 255 := by omega
        obtain ⟨b0, b1⟩ := len8_bd _ q0 q1
        have H : Hid (((56 : Nat) : Int) + Lib.len8 (n / 4294967296 / 65536 / 256) = bl n) := bl_road n _ 56 h0 (.inr (by omega)) (by omega) q1
        go_enter Tryd.func72, Tryd.ntmps72
        go_wp2
        go_ret
        exact ⟨ret_int H.out, rfl⟩
      · have q0 : 0 ≤ n / 4294967296 / 65536 := by omega
        have q1 : n / 4294967296 / 65536 ≤ 255 := by omega
        obtain ⟨b0, b1⟩ := len8_bd _ q0 q1
        have H : Hid (((48 : Nat) : Int) + Lib.len8 (n / 4294967296 / 65536) = bl n) := bl_road n _ 48 h0 (.inr (by omega)) (by omega) q1
        go_enter Tryd.func72, Tryd.ntmps72
        go_wp2
        go_ret
        exact ⟨ret_int H.out, rfl⟩
    · by_cases c3 : 256 ≤ n / 4294967296
      · have q0 : 0 ≤ n / 4294967296 / 256 := by omega
        have q1 : n / 4294967296 / 256 ≤ 255 := by omega
        obtain ⟨b0, b1⟩ := len8_bd _ q0 q1
        have H : Hid (((40 : Nat) : Int) + Lib.len8 (n / 4294967296 / 256) = bl n) := bl_road n _ 40 h0 (.inr (by omega)) (by omega) q1
        go_enter Tryd.func72, Tryd.ntmps72
        go_wp2
        go_ret
        exact ⟨ret_int H.out, rfl⟩
      · have q0 : 0 ≤ n / 4294967296 := by omega
        have q1 : n / 4294967296 ≤ 255 := by omega
        obtain ⟨b0, b1⟩ := len8_bd _ q0 q1
        have H : Hid (((32 : Nat) : Int) + Lib.len8 (n / 4294967296) = bl n) := bl_road n _ 32 h0 (.inr (by omega)) (by omega) q1
        go_enter Tryd.func72, Tryd.ntmps72
        go_wp2
        go_ret
        exact ⟨ret_int H.out, rfl⟩
  · by_cases c2 : 65536 ≤ n
    · by_cases c3 : 256 ≤ n / 65536
      · have q0 : 0 ≤ n / 65536 / 256 := by omega
        have q1 : n / 65536 / 256 ≤ 255 := by omega
        obtain ⟨b0, b1⟩ := len8_bd _ q0 q1
        have H : Hid (((24 : Nat) : Int) + Lib.len8 (n / 65536 / 256) = bl n) := bl_road n _ 24 h0 (.inr (by omega)) (by omega) q1
        go_enter Tryd.func72, Tryd.ntmps72
        go_wp2
        go_ret
        exact ⟨ret_int H.out, rfl⟩
      · have q0 : 0 ≤ n / 65536 := by omega
        have q1 : n / 65536 ≤ 255 := by omega
        obtain ⟨b0, b1⟩ := len8_bd _ q0 q1
        have H : Hid (((16 : Nat) : Int) + Lib.len8 (n / 65536) = bl n) := bl_road n _ 16 h0 (.inr (by omega)) (by omega) q1
        go_enter Tryd.func72, Tryd.ntmps72
        go_wp2
        go_ret
        exact ⟨ret_int H.out, rfl⟩
    · by_cases c3 : 256 ≤ n
      · have q0 : 0 ≤ n / 256 := by omega
        have q1 : n / 256 ≤ 255 := by omega
        obtain ⟨b0, b1⟩ := len8_bd _ q0 q1
        have H : Hid (((8 : Nat) : Int) + Lib.len8 (n / 256) = bl n) := bl_road n _ 8 h0 (.inr (by omega)) (by omega) q1
        go_enter Tryd.func72, Tryd.ntmps72
        go_wp2
        go_ret
        exact ⟨ret_int H.out, rfl⟩
      · have q1 : n ≤ 255 := by omega
        obtain ⟨b0, b1⟩ := len8_bd _ h0 q1
        have H : Hid (((0 : Nat) : Int) + Lib.len8 n = bl n) := bl_road n _ 0 h0 (.inl rfl) (by simp) q1
        go_enter Tryd.func72, Tryd.ntmps72
        go_wp2
        go_ret
        exact ⟨ret_int (by simpa using H.out), rfl⟩

theorem bl_nonneg (n : Int) : 0 ≤ bl n := by unfold bl; omega
theorem bl_le8 (n : Int) (h0 : 0 ≤ n) (h1 : n ≤ 255) : bl n ≤ 8 := by
  have := bitLen_le8 n.toNat (by omega)
  unfold bl
  omega

theorem lz8_any (n : Int) (w : World) (h0 : 0 ≤ n) (h1 : n ≤ 255) :
    Calls Tryd.prog 99 #[.int .u8 n] w fun e w' => e = .returned (.int .i64 (8 - bl n)) ∧ w' = w := by
  have b0 := bl_nonneg n
  have b1 := bl_le8 n h0 h1
  go_enter Tryd.func99, Tryd.ntmps99
  go_wp2_with (go_at_call 109; refine (len8_any _ _ (by omega) (by omega)).mono ?_; rintro e w' ⟨rfl, rfl⟩)
  go_ret
  exact ⟨rfl, rfl⟩

/-- How many octets a number has that begins with f. -/
def toldOf (f : Int) : Int := 9 - bl (255 - f)
/-- The first octet's ones. -/
def leadOf (k : Int) : Int := 255 - 255 / 2 ^ (k - 1).toNat

theorem not_u8 (f : Int) (h0 : 0 ≤ f) (h1 : f ≤ 255) : bits .xor .u8 IntKind.u8.max f = 255 - f := by
  have : ∀ x : Fin 256, bits .xor .u8 IntKind.u8.max (x.val : Int) = 255 - (x.val : Int) := by decide +kernel
  have h := this ⟨f.toNat, by omega⟩
  have e : ((f.toNat : Nat) : Int) = f := by omega
  rw [show ((⟨f.toNat, by omega⟩ : Fin 256).val : Int) = f from e] at h
  exact h

theorem told_any (f : Int) (w : World) (h0 : 0 ≤ f) (h1 : f ≤ 255) :
    Calls Tryd.prog 86 #[.int .u8 f] w fun e w' => e = .returned (.int .i64 (toldOf f)) ∧ w' = w := by
  have b0 := bl_nonneg (255 - f)
  have b1 := bl_le8 (255 - f) (by omega) (by omega)
  have hx := not_u8 f h0 h1
  go_enter Tryd.func86, Tryd.ntmps86
  go_wp2_with fail
  refine (lz8_any (255 - f) _ (by omega) (by omega)).mono ?_
  rintro e w' ⟨rfl, rfl⟩
  go_wp2
  go_ret
  exact ⟨ret_int (by unfold toldOf; omega), rfl⟩

theorem lead_any (k : Int) (w : World) (h0 : 1 ≤ k) (h1 : k ≤ 9) :
    Calls Tryd.prog 73 #[.int .i64 k] w fun e w' => e = .returned (.int .u8 (leadOf k)) ∧ w' = w := by
  have hk : k = 1 ∨ k = 2 ∨ k = 3 ∨ k = 4 ∨ k = 5 ∨ k = 6 ∨ k = 7 ∨ k = 8 ∨ k = 9 := by omega
  rcases hk with rfl | rfl | rfl | rfl | rfl | rfl | rfl | rfl | rfl
  all_goals
    go_enter Tryd.func73, Tryd.ntmps73
    go_wp2
    go_ret
    exact ⟨ret_int (by decide +kernel), rfl⟩

/-- How many octets n is written in. -/
def sizeOf (n : Int) : Int := min (max ((bl n + 6) / 7) 1) 9

theorem bl_le64 (n : Int) (h0 : 0 ≤ n) (h1 : n ≤ 18446744073709551615) : bl n ≤ 64 := by
  unfold bl bitLen
  split
  · omega
  · rename_i h
    have := (Nat.log2_lt h).2 (show n.toNat < 2 ^ 64 by omega)
    omega

theorem size_any (n : Int) (w : World) (h0 : 0 ≤ n) (h1 : n ≤ 18446744073709551615) :
    Calls Tryd.prog 55 #[.int .u64 n] w fun e w' => e = .returned (.int .i64 (sizeOf n)) ∧ w' = w := by
  have b0 := bl_nonneg n
  have b1 := bl_le64 n h0 h1
  go_enter Tryd.func55, Tryd.ntmps55
  go_wp2_with (go_at_call 72; refine (len64_any n _ h0 h1).mono ?_; rintro e w' ⟨rfl, rfl⟩)
  all_goals
    go_ret
    exact ⟨ret_int (by unfold sizeOf; omega), rfl⟩

theorem wrap_u64_id (n : Int) (h0 : 0 ≤ n) (h1 : n ≤ 18446744073709551615) : IntKind.u64.wrap n = n := by
  rw [IntKind.wrap_u64]; omega

end Go.Proofs.YtpjmieiajhhbaaaDoor

/- The octets of a number: varint's lay and Put return, for every number, new memory that holds just the octets that the list 'octs' says, and change nothing that was there; conditions: the number fits uint64. -/
namespace Go.Proofs.YtpjmieiajhhbaaaDoor
open Go.RowKit

/-- The k octets of n (k = 1 .. 9). -/
def octs (n : Int) : Nat → List Int
  | 1 => [n]
  | 2 => [128 + n / 256, n % 256]
  | 3 => [192 + n / 65536, n / 256 % 256, n % 256]
  | 4 => [224 + n / 16777216, n / 65536 % 256, n / 256 % 256, n % 256]
  | 5 => [240 + n / 4294967296, n / 16777216 % 256, n / 65536 % 256, n / 256 % 256, n % 256]
  | 6 => [248 + n / 1099511627776, n / 4294967296 % 256, n / 16777216 % 256, n / 65536 % 256, n / 256 % 256, n % 256]
  | 7 => [252 + n / 281474976710656, n / 1099511627776 % 256, n / 4294967296 % 256, n / 16777216 % 256, n / 65536 % 256, n / 256 % 256, n % 256]
  | 8 => [254 + n / 72057594037927936, n / 281474976710656 % 256, n / 1099511627776 % 256, n / 4294967296 % 256, n / 16777216 % 256, n / 65536 % 256, n / 256 % 256, n % 256]
  | 9 => [255, n / 72057594037927936 % 256, n / 281474976710656 % 256, n / 1099511627776 % 256, n / 4294967296 % 256, n / 16777216 % 256, n / 65536 % 256, n / 256 % 256, n % 256]
  | _ => []

theorem or_table : ∀ k : Fin 9, ∀ x : Fin 256, x.val < 2 ^ (7 - k.val) → k.val < 8 → bits .or .u8 (x.val : Int) (leadOf ((k.val : Int) + 1)) = leadOf ((k.val : Int) + 1) + (x.val : Int) := by decide +kernel

theorem or_lead (k : Nat) (x : Int) (L : Int) (hk : k < 8) (hL : leadOf ((k : Int) + 1) = L) (h0 : 0 ≤ x) (h1 : x < 2 ^ (7 - k)) (h2 : x < 256) : bits .or .u8 x L = L + x := by
  have h := or_table ⟨k, by omega⟩ ⟨x.toNat, by omega⟩ (by
    show x.toNat < 2 ^ (7 - k)
    have : ((2 ^ (7 - k) : Nat) : Int) = 2 ^ (7 - k) := by simp
    omega) hk
  have e : ((x.toNat : Nat) : Int) = x := by omega
  have h' : bits .or .u8 ((x.toNat : Nat) : Int) (leadOf ((k : Int) + 1)) = leadOf ((k : Int) + 1) + ((x.toNat : Nat) : Int) := h
  rw [e, hL] at h'
  exact h'

theorem agg9 {a0 a1 a2 a3 a4 a5 a6 a7 a8 b0 b1 b2 b3 b4 b5 b6 b7 b8 : Int} (h0 : a0 = b0) (h1 : a1 = b1) (h2 : a2 = b2) (h3 : a3 = b3) (h4 : a4 = b4) (h5 : a5 = b5) (h6 : a6 = b6) (h7 : a7 = b7) (h8 : a8 = b8) :
    Ending.returned (.agg #[.int .u8 a0, .int .u8 a1, .int .u8 a2, .int .u8 a3, .int .u8 a4, .int .u8 a5, .int .u8 a6, .int .u8 a7, .int .u8 a8]) =
    .returned (.agg #[.int .u8 b0, .int .u8 b1, .int .u8 b2, .int .u8 b3, .int .u8 b4, .int .u8 b5, .int .u8 b6, .int .u8 b7, .int .u8 b8]) := by
  rw [h0, h1, h2, h3, h4, h5, h6, h7, h8]


set_option maxHeartbeats 1000000 in
theorem lay1 (n : Int) (w : World) (h0 : 0 ≤ n) (h1 : n ≤ 127) :
    Calls Tryd.prog 56 #[.int .u64 n, .int .i64 1] w fun e w' => e = .returned (.agg #[.int .u8 (n), .int .u8 (0), .int .u8 (0), .int .u8 (0), .int .u8 (0), .int .u8 (0), .int .u8 (0), .int .u8 (0), .int .u8 (0)]) ∧ Below w.heap.size w w' := by
  have hl : leadOf 1 = 0 := by decide +kernel
  have hx : bits .or .u8 (n) 0 = 0 + (n) := or_lead 0 (n) 0 (by decide) hl (by omega) (by show n < 128; omega) (by omega)
  go_enter Tryd.func56, Tryd.ntmps56
  go_wp2
  refine wp_loop_rounds 2 ?_
  rw [rounds_succ]
  go_wp2
  rw [rounds_succ]
  go_wp2
  go_region_with (go_at_call 73; refine (lead_any 1 _ (by omega) (by omega)).mono ?_; rintro e w' ⟨rfl, rfl⟩)
  all_goals go_wp2
  all_goals
    exact bodyPost_ret (v := .agg #[.int .u8 (n), .int .u8 (0), .int .u8 (0), .int .u8 (0), .int .u8 (0), .int .u8 (0), .int .u8 (0), .int .u8 (0), .int .u8 (0)]) (by simp [results, Tryd.results56, go_sem]) rfl ⟨agg9 (by omega) (by omega) (by omega) (by omega) (by omega) (by omega) (by omega) (by omega) (by omega), (((Below.refl _ _).alloc (Nat.le_refl _) _).alloc (by simp) _).drew⟩

set_option maxHeartbeats 1000000 in
theorem lay2 (n : Int) (w : World) (h0 : 0 ≤ n) (h1 : n ≤ 16383) :
    Calls Tryd.prog 56 #[.int .u64 n, .int .i64 2] w fun e w' => e = .returned (.agg #[.int .u8 (128 + n / 256), .int .u8 (n % 256), .int .u8 (0), .int .u8 (0), .int .u8 (0), .int .u8 (0), .int .u8 (0), .int .u8 (0), .int .u8 (0)]) ∧ Below w.heap.size w w' := by
  have hl : leadOf 2 = 128 := by decide +kernel
  have hx : bits .or .u8 (n / 256) 128 = 128 + (n / 256) := or_lead 1 (n / 256) 128 (by decide) hl (by omega) (by show n / 256 < 64; omega) (by omega)
  go_enter Tryd.func56, Tryd.ntmps56
  go_wp2
  refine wp_loop_rounds 3 ?_
  rw [rounds_succ]
  go_wp2
  rw [rounds_succ]
  go_wp2
  rw [rounds_succ]
  go_wp2
  go_region_with (go_at_call 73; refine (lead_any 2 _ (by omega) (by omega)).mono ?_; rintro e w' ⟨rfl, rfl⟩)
  all_goals go_wp2
  all_goals
    exact bodyPost_ret (v := .agg #[.int .u8 (128 + n / 256), .int .u8 (n % 256), .int .u8 (0), .int .u8 (0), .int .u8 (0), .int .u8 (0), .int .u8 (0), .int .u8 (0), .int .u8 (0)]) (by simp [results, Tryd.results56, go_sem]) rfl ⟨agg9 (by omega) (by omega) (by omega) (by omega) (by omega) (by omega) (by omega) (by omega) (by omega), (((Below.refl _ _).alloc (Nat.le_refl _) _).alloc (by simp) _).drew⟩

set_option maxHeartbeats 1000000 in
theorem lay3 (n : Int) (w : World) (h0 : 0 ≤ n) (h1 : n ≤ 2097151) :
    Calls Tryd.prog 56 #[.int .u64 n, .int .i64 3] w fun e w' => e = .returned (.agg #[.int .u8 (192 + n / 65536), .int .u8 (n / 256 % 256), .int .u8 (n % 256), .int .u8 (0), .int .u8 (0), .int .u8 (0), .int .u8 (0), .int .u8 (0), .int .u8 (0)]) ∧ Below w.heap.size w w' := by
  have hl : leadOf 3 = 192 := by decide +kernel
  have hx : bits .or .u8 (n / 256 / 256) 192 = 192 + (n / 256 / 256) := or_lead 2 (n / 256 / 256) 192 (by decide) hl (by omega) (by show n / 256 / 256 < 32; omega) (by omega)
  go_enter Tryd.func56, Tryd.ntmps56
  go_wp2
  refine wp_loop_rounds 4 ?_
  rw [rounds_succ]
  go_wp2
  rw [rounds_succ]
  go_wp2
  rw [rounds_succ]
  go_wp2
  rw [rounds_succ]
  go_wp2
  go_region_with (go_at_call 73; refine (lead_any 3 _ (by omega) (by omega)).mono ?_; rintro e w' ⟨rfl, rfl⟩)
  all_goals go_wp2
  all_goals
    exact bodyPost_ret (v := .agg #[.int .u8 (192 + n / 256 / 256), .int .u8 (n / 256 % 256), .int .u8 (n % 256), .int .u8 (0), .int .u8 (0), .int .u8 (0), .int .u8 (0), .int .u8 (0), .int .u8 (0)]) (by simp [results, Tryd.results56, go_sem]) rfl ⟨agg9 (by omega) (by omega) (by omega) (by omega) (by omega) (by omega) (by omega) (by omega) (by omega), (((Below.refl _ _).alloc (Nat.le_refl _) _).alloc (by simp) _).drew⟩

set_option maxHeartbeats 1000000 in
theorem lay4 (n : Int) (w : World) (h0 : 0 ≤ n) (h1 : n ≤ 268435455) :
    Calls Tryd.prog 56 #[.int .u64 n, .int .i64 4] w fun e w' => e = .returned (.agg #[.int .u8 (224 + n / 16777216), .int .u8 (n / 65536 % 256), .int .u8 (n / 256 % 256), .int .u8 (n % 256), .int .u8 (0), .int .u8 (0), .int .u8 (0), .int .u8 (0), .int .u8 (0)]) ∧ Below w.heap.size w w' := by
  have hl : leadOf 4 = 224 := by decide +kernel
  have hx : bits .or .u8 (n / 256 / 256 / 256) 224 = 224 + (n / 256 / 256 / 256) := or_lead 3 (n / 256 / 256 / 256) 224 (by decide) hl (by omega) (by show n / 256 / 256 / 256 < 16; omega) (by omega)
  go_enter Tryd.func56, Tryd.ntmps56
  go_wp2
  refine wp_loop_rounds 5 ?_
  rw [rounds_succ]
  go_wp2
  rw [rounds_succ]
  go_wp2
  rw [rounds_succ]
  go_wp2
  rw [rounds_succ]
  go_wp2
  rw [rounds_succ]
  go_wp2
  go_region_with (go_at_call 73; refine (lead_any 4 _ (by omega) (by omega)).mono ?_; rintro e w' ⟨rfl, rfl⟩)
  all_goals go_wp2
  all_goals
    exact bodyPost_ret (v := .agg #[.int .u8 (224 + n / 256 / 256 / 256), .int .u8 (n / 256 / 256 % 256), .int .u8 (n / 256 % 256), .int .u8 (n % 256), .int .u8 (0), .int .u8 (0), .int .u8 (0), .int .u8 (0), .int .u8 (0)]) (by simp [results, Tryd.results56, go_sem]) rfl ⟨agg9 (by omega) (by omega) (by omega) (by omega) (by omega) (by omega) (by omega) (by omega) (by omega), (((Below.refl _ _).alloc (Nat.le_refl _) _).alloc (by simp) _).drew⟩

set_option maxHeartbeats 1000000 in
theorem lay5 (n : Int) (w : World) (h0 : 0 ≤ n) (h1 : n ≤ 34359738367) :
    Calls Tryd.prog 56 #[.int .u64 n, .int .i64 5] w fun e w' => e = .returned (.agg #[.int .u8 (240 + n / 4294967296), .int .u8 (n / 16777216 % 256), .int .u8 (n / 65536 % 256), .int .u8 (n / 256 % 256), .int .u8 (n % 256), .int .u8 (0), .int .u8 (0), .int .u8 (0), .int .u8 (0)]) ∧ Below w.heap.size w w' := by
  have hl : leadOf 5 = 240 := by decide +kernel
  have hx : bits .or .u8 (n / 256 / 256 / 256 / 256) 240 = 240 + (n / 256 / 256 / 256 / 256) := or_lead 4 (n / 256 / 256 / 256 / 256) 240 (by decide) hl (by omega) (by show n / 256 / 256 / 256 / 256 < 8; omega) (by omega)
  go_enter Tryd.func56, Tryd.ntmps56
  go_wp2
  refine wp_loop_rounds 6 ?_
  rw [rounds_succ]
  go_wp2
  rw [rounds_succ]
  go_wp2
  rw [rounds_succ]
  go_wp2
  rw [rounds_succ]
  go_wp2
  rw [rounds_succ]
  go_wp2
  rw [rounds_succ]
  go_wp2
  go_region_with (go_at_call 73; refine (lead_any 5 _ (by omega) (by omega)).mono ?_; rintro e w' ⟨rfl, rfl⟩)
  all_goals go_wp2
  all_goals
    exact bodyPost_ret (v := .agg #[.int .u8 (240 + n / 256 / 256 / 256 / 256), .int .u8 (n / 256 / 256 / 256 % 256), .int .u8 (n / 256 / 256 % 256), .int .u8 (n / 256 % 256), .int .u8 (n % 256), .int .u8 (0), .int .u8 (0), .int .u8 (0), .int .u8 (0)]) (by simp [results, Tryd.results56, go_sem]) rfl ⟨agg9 (by omega) (by omega) (by omega) (by omega) (by omega) (by omega) (by omega) (by omega) (by omega), (((Below.refl _ _).alloc (Nat.le_refl _) _).alloc (by simp) _).drew⟩

set_option maxHeartbeats 1000000 in
theorem lay6 (n : Int) (w : World) (h0 : 0 ≤ n) (h1 : n ≤ 4398046511103) :
    Calls Tryd.prog 56 #[.int .u64 n, .int .i64 6] w fun e w' => e = .returned (.agg #[.int .u8 (248 + n / 1099511627776), .int .u8 (n / 4294967296 % 256), .int .u8 (n / 16777216 % 256), .int .u8 (n / 65536 % 256), .int .u8 (n / 256 % 256), .int .u8 (n % 256), .int .u8 (0), .int .u8 (0), .int .u8 (0)]) ∧ Below w.heap.size w w' := by
  have hl : leadOf 6 = 248 := by decide +kernel
  have hx : bits .or .u8 (n / 256 / 256 / 256 / 256 / 256) 248 = 248 + (n / 256 / 256 / 256 / 256 / 256) := or_lead 5 (n / 256 / 256 / 256 / 256 / 256) 248 (by decide) hl (by omega) (by show n / 256 / 256 / 256 / 256 / 256 < 4; omega) (by omega)
  go_enter Tryd.func56, Tryd.ntmps56
  go_wp2
  refine wp_loop_rounds 7 ?_
  rw [rounds_succ]
  go_wp2
  rw [rounds_succ]
  go_wp2
  rw [rounds_succ]
  go_wp2
  rw [rounds_succ]
  go_wp2
  rw [rounds_succ]
  go_wp2
  rw [rounds_succ]
  go_wp2
  rw [rounds_succ]
  go_wp2
  go_region_with (go_at_call 73; refine (lead_any 6 _ (by omega) (by omega)).mono ?_; rintro e w' ⟨rfl, rfl⟩)
  all_goals go_wp2
  all_goals
    exact bodyPost_ret (v := .agg #[.int .u8 (248 + n / 256 / 256 / 256 / 256 / 256), .int .u8 (n / 256 / 256 / 256 / 256 % 256), .int .u8 (n / 256 / 256 / 256 % 256), .int .u8 (n / 256 / 256 % 256), .int .u8 (n / 256 % 256), .int .u8 (n % 256), .int .u8 (0), .int .u8 (0), .int .u8 (0)]) (by simp [results, Tryd.results56, go_sem]) rfl ⟨agg9 (by omega) (by omega) (by omega) (by omega) (by omega) (by omega) (by omega) (by omega) (by omega), (((Below.refl _ _).alloc (Nat.le_refl _) _).alloc (by simp) _).drew⟩

set_option maxHeartbeats 1000000 in
theorem lay7 (n : Int) (w : World) (h0 : 0 ≤ n) (h1 : n ≤ 562949953421311) :
    Calls Tryd.prog 56 #[.int .u64 n, .int .i64 7] w fun e w' => e = .returned (.agg #[.int .u8 (252 + n / 281474976710656), .int .u8 (n / 1099511627776 % 256), .int .u8 (n / 4294967296 % 256), .int .u8 (n / 16777216 % 256), .int .u8 (n / 65536 % 256), .int .u8 (n / 256 % 256), .int .u8 (n % 256), .int .u8 (0), .int .u8 (0)]) ∧ Below w.heap.size w w' := by
  have hl : leadOf 7 = 252 := by decide +kernel
  have hx : bits .or .u8 (n / 256 / 256 / 256 / 256 / 256 / 256) 252 = 252 + (n / 256 / 256 / 256 / 256 / 256 / 256) := or_lead 6 (n / 256 / 256 / 256 / 256 / 256 / 256) 252 (by decide) hl (by omega) (by show n / 256 / 256 / 256 / 256 / 256 / 256 < 2; omega) (by omega)
  go_enter Tryd.func56, Tryd.ntmps56
  go_wp2
  refine wp_loop_rounds 8 ?_
  rw [rounds_succ]
  go_wp2
  rw [rounds_succ]
  go_wp2
  rw [rounds_succ]
  go_wp2
  rw [rounds_succ]
  go_wp2
  rw [rounds_succ]
  go_wp2
  rw [rounds_succ]
  go_wp2
  rw [rounds_succ]
  go_wp2
  rw [rounds_succ]
  go_wp2
  go_region_with (go_at_call 73; refine (lead_any 7 _ (by omega) (by omega)).mono ?_; rintro e w' ⟨rfl, rfl⟩)
  all_goals go_wp2
  all_goals
    exact bodyPost_ret (v := .agg #[.int .u8 (252 + n / 256 / 256 / 256 / 256 / 256 / 256), .int .u8 (n / 256 / 256 / 256 / 256 / 256 % 256), .int .u8 (n / 256 / 256 / 256 / 256 % 256), .int .u8 (n / 256 / 256 / 256 % 256), .int .u8 (n / 256 / 256 % 256), .int .u8 (n / 256 % 256), .int .u8 (n % 256), .int .u8 (0), .int .u8 (0)]) (by simp [results, Tryd.results56, go_sem]) rfl ⟨agg9 (by omega) (by omega) (by omega) (by omega) (by omega) (by omega) (by omega) (by omega) (by omega), (((Below.refl _ _).alloc (Nat.le_refl _) _).alloc (by simp) _).drew⟩

set_option maxHeartbeats 1000000 in
theorem lay8 (n : Int) (w : World) (h0 : 0 ≤ n) (h1 : n ≤ 72057594037927935) :
    Calls Tryd.prog 56 #[.int .u64 n, .int .i64 8] w fun e w' => e = .returned (.agg #[.int .u8 (254 + n / 72057594037927936), .int .u8 (n / 281474976710656 % 256), .int .u8 (n / 1099511627776 % 256), .int .u8 (n / 4294967296 % 256), .int .u8 (n / 16777216 % 256), .int .u8 (n / 65536 % 256), .int .u8 (n / 256 % 256), .int .u8 (n % 256), .int .u8 (0)]) ∧ Below w.heap.size w w' := by
  have hl : leadOf 8 = 254 := by decide +kernel
  have hx : bits .or .u8 (n / 256 / 256 / 256 / 256 / 256 / 256 / 256) 254 = 254 + (n / 256 / 256 / 256 / 256 / 256 / 256 / 256) := or_lead 7 (n / 256 / 256 / 256 / 256 / 256 / 256 / 256) 254 (by decide) hl (by omega) (by show n / 256 / 256 / 256 / 256 / 256 / 256 / 256 < 1; omega) (by omega)
  go_enter Tryd.func56, Tryd.ntmps56
  go_wp2
  refine wp_loop_rounds 9 ?_
  rw [rounds_succ]
  go_wp2
  rw [rounds_succ]
  go_wp2
  rw [rounds_succ]
  go_wp2
  rw [rounds_succ]
  go_wp2
  rw [rounds_succ]
  go_wp2
  rw [rounds_succ]
  go_wp2
  rw [rounds_succ]
  go_wp2
  rw [rounds_succ]
  go_wp2
  rw [rounds_succ]
  go_wp2
  go_region_with (go_at_call 73; refine (lead_any 8 _ (by omega) (by omega)).mono ?_; rintro e w' ⟨rfl, rfl⟩)
  all_goals go_wp2
  all_goals
    exact bodyPost_ret (v := .agg #[.int .u8 (254 + n / 256 / 256 / 256 / 256 / 256 / 256 / 256), .int .u8 (n / 256 / 256 / 256 / 256 / 256 / 256), .int .u8 (n / 256 / 256 / 256 / 256 / 256 % 256), .int .u8 (n / 256 / 256 / 256 / 256 % 256), .int .u8 (n / 256 / 256 / 256 % 256), .int .u8 (n / 256 / 256 % 256), .int .u8 (n / 256 % 256), .int .u8 (n % 256), .int .u8 (0)]) (by simp [results, Tryd.results56, go_sem]) rfl ⟨agg9 (by omega) (by omega) (by omega) (by omega) (by omega) (by omega) (by omega) (by omega) (by omega), (((Below.refl _ _).alloc (Nat.le_refl _) _).alloc (by simp) _).drew⟩

set_option maxHeartbeats 1000000 in
theorem lay9 (n : Int) (w : World) (h0 : 0 ≤ n) (h1 : n ≤ 18446744073709551615) :
    Calls Tryd.prog 56 #[.int .u64 n, .int .i64 9] w fun e w' => e = .returned (.agg #[.int .u8 (255), .int .u8 (n / 72057594037927936 % 256), .int .u8 (n / 281474976710656 % 256), .int .u8 (n / 1099511627776 % 256), .int .u8 (n / 4294967296 % 256), .int .u8 (n / 16777216 % 256), .int .u8 (n / 65536 % 256), .int .u8 (n / 256 % 256), .int .u8 (n % 256)]) ∧ Below w.heap.size w w' := by
  have hl : leadOf 9 = 255 := by decide +kernel
  have hz : n / 256 / 256 / 256 / 256 / 256 / 256 / 256 / 256 = 0 := by omega
  have hx : bits .or .u8 0 255 = 255 := by decide +kernel
  go_enter Tryd.func56, Tryd.ntmps56
  go_wp2
  refine wp_loop_rounds 10 ?_
  rw [rounds_succ]
  go_wp2
  rw [rounds_succ]
  go_wp2
  rw [rounds_succ]
  go_wp2
  rw [rounds_succ]
  go_wp2
  rw [rounds_succ]
  go_wp2
  rw [rounds_succ]
  go_wp2
  rw [rounds_succ]
  go_wp2
  rw [rounds_succ]
  go_wp2
  rw [rounds_succ]
  go_wp2
  rw [rounds_succ]
  go_wp2
  go_region_with (go_at_call 73; refine (lead_any 9 _ (by omega) (by omega)).mono ?_; rintro e w' ⟨rfl, rfl⟩)
  all_goals go_wp2
  all_goals
    exact bodyPost_ret (v := .agg #[.int .u8 (255), .int .u8 (n / 256 / 256 / 256 / 256 / 256 / 256 / 256), .int .u8 (n / 256 / 256 / 256 / 256 / 256 / 256 % 256), .int .u8 (n / 256 / 256 / 256 / 256 / 256 % 256), .int .u8 (n / 256 / 256 / 256 / 256 % 256), .int .u8 (n / 256 / 256 / 256 % 256), .int .u8 (n / 256 / 256 % 256), .int .u8 (n / 256 % 256), .int .u8 (n % 256)]) (by simp [results, Tryd.results56, go_sem]) rfl ⟨agg9 (by omega) (by omega) (by omega) (by omega) (by omega) (by omega) (by omega) (by omega) (by omega), (((Below.refl _ _).alloc (Nat.le_refl _) _).alloc (by simp) _).drew⟩
end Go.Proofs.YtpjmieiajhhbaaaDoor

/- varint.Put returns, for every number that fits uint64, a slice in memory of its own that holds just the number's octets ('octs n' at 'sizeOf n'), and changes nothing that was there. -/
namespace Go.Proofs.YtpjmieiajhhbaaaDoor
open Go.RowKit
set_option maxHeartbeats 400000 in
theorem put1 (n : Int) (w : World) (h0 : 0 ≤ n) (h1 : n ≤ 127) (hs : sizeOf n = 1) :
    Calls Tryd.prog 29 #[.int .u64 n] w fun e w' => ∃ v, e = .returned v ∧ w'.ownsRow w.heap.size 5 1 v 1 ((octs n 1).map (Value.int .u8)) ∧ Below w.heap.size w w' := by
  have H : Hid (sizeOf n = 1) := hs
  clear hs
  obtain ⟨i0, hi, hz0, hz1, hz2⟩ := info_parts Tryd.info5
  go_enter Tryd.func29, Tryd.ntmps29
  go_wp2_with fail
  refine (size_any n _ h0 (by omega)).mono ?_
  rintro e w' ⟨rfl, rfl⟩
  rw [H.out]
  go_wp2_with fail
  refine (lay1 n _ h0 h1).mono ?_
  rintro e w1 ⟨rfl, hb⟩
  go_wp2_with (at_builtin; refine wpList_append_own _ rfl _ _ 64 rfl w'.heap.size 5 i0 (.int .u8 0) 1 1 Tryd.underlying64 hi hz0 hz1 hz2 rfl (by decide) _ _ _ rfl (World.ownsRow_nil _ _ _ _) ⟨w1.heap.size, 0, none⟩ 1 9 ((octs n 1).map (Value.int .u8)) rfl rfl ?c1 ?c2 ?c3 ?c4 ?c5 ?_)
  case c1 =>
    intro j u hj
    exact cells_new w1 ((octs n 1).map (Value.int .u8)) [.int .u8 0, .int .u8 0, .int .u8 0, .int .u8 0, .int .u8 0, .int .u8 0, .int .u8 0, .int .u8 0] 107 j u hj
  case c2 => exact one_u8 _
  case c3 => unfold maxLen; omega
  case c4 => omega
  case c5 => have := hb.size; simp; omega
  intro v' w3 hown hgrow _
  go_wp2
  go_ret
  refine ⟨_, rfl, hown, ?_⟩
  exact (hb.alloc hb.size _).grown hgrow (by have := hb.size; simp; omega) (by simp [Value.ownBlock])

set_option maxHeartbeats 400000 in
theorem put2 (n : Int) (w : World) (h0 : 0 ≤ n) (h1 : n ≤ 16383) (hs : sizeOf n = 2) :
    Calls Tryd.prog 29 #[.int .u64 n] w fun e w' => ∃ v, e = .returned v ∧ w'.ownsRow w.heap.size 5 1 v 2 ((octs n 2).map (Value.int .u8)) ∧ Below w.heap.size w w' := by
  have H : Hid (sizeOf n = 2) := hs
  clear hs
  obtain ⟨i0, hi, hz0, hz1, hz2⟩ := info_parts Tryd.info5
  go_enter Tryd.func29, Tryd.ntmps29
  go_wp2_with fail
  refine (size_any n _ h0 (by omega)).mono ?_
  rintro e w' ⟨rfl, rfl⟩
  rw [H.out]
  go_wp2_with fail
  refine (lay2 n _ h0 h1).mono ?_
  rintro e w1 ⟨rfl, hb⟩
  go_wp2_with (at_builtin; refine wpList_append_own _ rfl _ _ 64 rfl w'.heap.size 5 i0 (.int .u8 0) 1 1 Tryd.underlying64 hi hz0 hz1 hz2 rfl (by decide) _ _ _ rfl (World.ownsRow_nil _ _ _ _) ⟨w1.heap.size, 0, none⟩ 2 9 ((octs n 2).map (Value.int .u8)) rfl rfl ?c1 ?c2 ?c3 ?c4 ?c5 ?_)
  case c1 =>
    intro j u hj
    exact cells_new w1 ((octs n 2).map (Value.int .u8)) [.int .u8 0, .int .u8 0, .int .u8 0, .int .u8 0, .int .u8 0, .int .u8 0, .int .u8 0] 107 j u hj
  case c2 => exact one_u8 _
  case c3 => unfold maxLen; omega
  case c4 => omega
  case c5 => have := hb.size; simp; omega
  intro v' w3 hown hgrow _
  go_wp2
  go_ret
  refine ⟨_, rfl, hown, ?_⟩
  exact (hb.alloc hb.size _).grown hgrow (by have := hb.size; simp; omega) (by simp [Value.ownBlock])

set_option maxHeartbeats 400000 in
theorem put3 (n : Int) (w : World) (h0 : 0 ≤ n) (h1 : n ≤ 2097151) (hs : sizeOf n = 3) :
    Calls Tryd.prog 29 #[.int .u64 n] w fun e w' => ∃ v, e = .returned v ∧ w'.ownsRow w.heap.size 5 1 v 3 ((octs n 3).map (Value.int .u8)) ∧ Below w.heap.size w w' := by
  have H : Hid (sizeOf n = 3) := hs
  clear hs
  obtain ⟨i0, hi, hz0, hz1, hz2⟩ := info_parts Tryd.info5
  go_enter Tryd.func29, Tryd.ntmps29
  go_wp2_with fail
  refine (size_any n _ h0 (by omega)).mono ?_
  rintro e w' ⟨rfl, rfl⟩
  rw [H.out]
  go_wp2_with fail
  refine (lay3 n _ h0 h1).mono ?_
  rintro e w1 ⟨rfl, hb⟩
  go_wp2_with (at_builtin; refine wpList_append_own _ rfl _ _ 64 rfl w'.heap.size 5 i0 (.int .u8 0) 1 1 Tryd.underlying64 hi hz0 hz1 hz2 rfl (by decide) _ _ _ rfl (World.ownsRow_nil _ _ _ _) ⟨w1.heap.size, 0, none⟩ 3 9 ((octs n 3).map (Value.int .u8)) rfl rfl ?c1 ?c2 ?c3 ?c4 ?c5 ?_)
  case c1 =>
    intro j u hj
    exact cells_new w1 ((octs n 3).map (Value.int .u8)) [.int .u8 0, .int .u8 0, .int .u8 0, .int .u8 0, .int .u8 0, .int .u8 0] 107 j u hj
  case c2 => exact one_u8 _
  case c3 => unfold maxLen; omega
  case c4 => omega
  case c5 => have := hb.size; simp; omega
  intro v' w3 hown hgrow _
  go_wp2
  go_ret
  refine ⟨_, rfl, hown, ?_⟩
  exact (hb.alloc hb.size _).grown hgrow (by have := hb.size; simp; omega) (by simp [Value.ownBlock])

set_option maxHeartbeats 400000 in
theorem put4 (n : Int) (w : World) (h0 : 0 ≤ n) (h1 : n ≤ 268435455) (hs : sizeOf n = 4) :
    Calls Tryd.prog 29 #[.int .u64 n] w fun e w' => ∃ v, e = .returned v ∧ w'.ownsRow w.heap.size 5 1 v 4 ((octs n 4).map (Value.int .u8)) ∧ Below w.heap.size w w' := by
  have H : Hid (sizeOf n = 4) := hs
  clear hs
  obtain ⟨i0, hi, hz0, hz1, hz2⟩ := info_parts Tryd.info5
  go_enter Tryd.func29, Tryd.ntmps29
  go_wp2_with fail
  refine (size_any n _ h0 (by omega)).mono ?_
  rintro e w' ⟨rfl, rfl⟩
  rw [H.out]
  go_wp2_with fail
  refine (lay4 n _ h0 h1).mono ?_
  rintro e w1 ⟨rfl, hb⟩
  go_wp2_with (at_builtin; refine wpList_append_own _ rfl _ _ 64 rfl w'.heap.size 5 i0 (.int .u8 0) 1 1 Tryd.underlying64 hi hz0 hz1 hz2 rfl (by decide) _ _ _ rfl (World.ownsRow_nil _ _ _ _) ⟨w1.heap.size, 0, none⟩ 4 9 ((octs n 4).map (Value.int .u8)) rfl rfl ?c1 ?c2 ?c3 ?c4 ?c5 ?_)
  case c1 =>
    intro j u hj
    exact cells_new w1 ((octs n 4).map (Value.int .u8)) [.int .u8 0, .int .u8 0, .int .u8 0, .int .u8 0, .int .u8 0] 107 j u hj
  case c2 => exact one_u8 _
  case c3 => unfold maxLen; omega
  case c4 => omega
  case c5 => have := hb.size; simp; omega
  intro v' w3 hown hgrow _
  go_wp2
  go_ret
  refine ⟨_, rfl, hown, ?_⟩
  exact (hb.alloc hb.size _).grown hgrow (by have := hb.size; simp; omega) (by simp [Value.ownBlock])

set_option maxHeartbeats 400000 in
theorem put5 (n : Int) (w : World) (h0 : 0 ≤ n) (h1 : n ≤ 34359738367) (hs : sizeOf n = 5) :
    Calls Tryd.prog 29 #[.int .u64 n] w fun e w' => ∃ v, e = .returned v ∧ w'.ownsRow w.heap.size 5 1 v 5 ((octs n 5).map (Value.int .u8)) ∧ Below w.heap.size w w' := by
  have H : Hid (sizeOf n = 5) := hs
  clear hs
  obtain ⟨i0, hi, hz0, hz1, hz2⟩ := info_parts Tryd.info5
  go_enter Tryd.func29, Tryd.ntmps29
  go_wp2_with fail
  refine (size_any n _ h0 (by omega)).mono ?_
  rintro e w' ⟨rfl, rfl⟩
  rw [H.out]
  go_wp2_with fail
  refine (lay5 n _ h0 h1).mono ?_
  rintro e w1 ⟨rfl, hb⟩
  go_wp2_with (at_builtin; refine wpList_append_own _ rfl _ _ 64 rfl w'.heap.size 5 i0 (.int .u8 0) 1 1 Tryd.underlying64 hi hz0 hz1 hz2 rfl (by decide) _ _ _ rfl (World.ownsRow_nil _ _ _ _) ⟨w1.heap.size, 0, none⟩ 5 9 ((octs n 5).map (Value.int .u8)) rfl rfl ?c1 ?c2 ?c3 ?c4 ?c5 ?_)
  case c1 =>
    intro j u hj
    exact cells_new w1 ((octs n 5).map (Value.int .u8)) [.int .u8 0, .int .u8 0, .int .u8 0, .int .u8 0] 107 j u hj
  case c2 => exact one_u8 _
  case c3 => unfold maxLen; omega
  case c4 => omega
  case c5 => have := hb.size; simp; omega
  intro v' w3 hown hgrow _
  go_wp2
  go_ret
  refine ⟨_, rfl, hown, ?_⟩
  exact (hb.alloc hb.size _).grown hgrow (by have := hb.size; simp; omega) (by simp [Value.ownBlock])

set_option maxHeartbeats 400000 in
theorem put6 (n : Int) (w : World) (h0 : 0 ≤ n) (h1 : n ≤ 4398046511103) (hs : sizeOf n = 6) :
    Calls Tryd.prog 29 #[.int .u64 n] w fun e w' => ∃ v, e = .returned v ∧ w'.ownsRow w.heap.size 5 1 v 6 ((octs n 6).map (Value.int .u8)) ∧ Below w.heap.size w w' := by
  have H : Hid (sizeOf n = 6) := hs
  clear hs
  obtain ⟨i0, hi, hz0, hz1, hz2⟩ := info_parts Tryd.info5
  go_enter Tryd.func29, Tryd.ntmps29
  go_wp2_with fail
  refine (size_any n _ h0 (by omega)).mono ?_
  rintro e w' ⟨rfl, rfl⟩
  rw [H.out]
  go_wp2_with fail
  refine (lay6 n _ h0 h1).mono ?_
  rintro e w1 ⟨rfl, hb⟩
  go_wp2_with (at_builtin; refine wpList_append_own _ rfl _ _ 64 rfl w'.heap.size 5 i0 (.int .u8 0) 1 1 Tryd.underlying64 hi hz0 hz1 hz2 rfl (by decide) _ _ _ rfl (World.ownsRow_nil _ _ _ _) ⟨w1.heap.size, 0, none⟩ 6 9 ((octs n 6).map (Value.int .u8)) rfl rfl ?c1 ?c2 ?c3 ?c4 ?c5 ?_)
  case c1 =>
    intro j u hj
    exact cells_new w1 ((octs n 6).map (Value.int .u8)) [.int .u8 0, .int .u8 0, .int .u8 0] 107 j u hj
  case c2 => exact one_u8 _
  case c3 => unfold maxLen; omega
  case c4 => omega
  case c5 => have := hb.size; simp; omega
  intro v' w3 hown hgrow _
  go_wp2
  go_ret
  refine ⟨_, rfl, hown, ?_⟩
  exact (hb.alloc hb.size _).grown hgrow (by have := hb.size; simp; omega) (by simp [Value.ownBlock])

set_option maxHeartbeats 400000 in
theorem put7 (n : Int) (w : World) (h0 : 0 ≤ n) (h1 : n ≤ 562949953421311) (hs : sizeOf n = 7) :
    Calls Tryd.prog 29 #[.int .u64 n] w fun e w' => ∃ v, e = .returned v ∧ w'.ownsRow w.heap.size 5 1 v 7 ((octs n 7).map (Value.int .u8)) ∧ Below w.heap.size w w' := by
  have H : Hid (sizeOf n = 7) := hs
  clear hs
  obtain ⟨i0, hi, hz0, hz1, hz2⟩ := info_parts Tryd.info5
  go_enter Tryd.func29, Tryd.ntmps29
  go_wp2_with fail
  refine (size_any n _ h0 (by omega)).mono ?_
  rintro e w' ⟨rfl, rfl⟩
  rw [H.out]
  go_wp2_with fail
  refine (lay7 n _ h0 h1).mono ?_
  rintro e w1 ⟨rfl, hb⟩
  go_wp2_with (at_builtin; refine wpList_append_own _ rfl _ _ 64 rfl w'.heap.size 5 i0 (.int .u8 0) 1 1 Tryd.underlying64 hi hz0 hz1 hz2 rfl (by decide) _ _ _ rfl (World.ownsRow_nil _ _ _ _) ⟨w1.heap.size, 0, none⟩ 7 9 ((octs n 7).map (Value.int .u8)) rfl rfl ?c1 ?c2 ?c3 ?c4 ?c5 ?_)
  case c1 =>
    intro j u hj
    exact cells_new w1 ((octs n 7).map (Value.int .u8)) [.int .u8 0, .int .u8 0] 107 j u hj
  case c2 => exact one_u8 _
  case c3 => unfold maxLen; omega
  case c4 => omega
  case c5 => have := hb.size; simp; omega
  intro v' w3 hown hgrow _
  go_wp2
  go_ret
  refine ⟨_, rfl, hown, ?_⟩
  exact (hb.alloc hb.size _).grown hgrow (by have := hb.size; simp; omega) (by simp [Value.ownBlock])

set_option maxHeartbeats 400000 in
theorem put8 (n : Int) (w : World) (h0 : 0 ≤ n) (h1 : n ≤ 72057594037927935) (hs : sizeOf n = 8) :
    Calls Tryd.prog 29 #[.int .u64 n] w fun e w' => ∃ v, e = .returned v ∧ w'.ownsRow w.heap.size 5 1 v 8 ((octs n 8).map (Value.int .u8)) ∧ Below w.heap.size w w' := by
  have H : Hid (sizeOf n = 8) := hs
  clear hs
  obtain ⟨i0, hi, hz0, hz1, hz2⟩ := info_parts Tryd.info5
  go_enter Tryd.func29, Tryd.ntmps29
  go_wp2_with fail
  refine (size_any n _ h0 (by omega)).mono ?_
  rintro e w' ⟨rfl, rfl⟩
  rw [H.out]
  go_wp2_with fail
  refine (lay8 n _ h0 h1).mono ?_
  rintro e w1 ⟨rfl, hb⟩
  go_wp2_with (at_builtin; refine wpList_append_own _ rfl _ _ 64 rfl w'.heap.size 5 i0 (.int .u8 0) 1 1 Tryd.underlying64 hi hz0 hz1 hz2 rfl (by decide) _ _ _ rfl (World.ownsRow_nil _ _ _ _) ⟨w1.heap.size, 0, none⟩ 8 9 ((octs n 8).map (Value.int .u8)) rfl rfl ?c1 ?c2 ?c3 ?c4 ?c5 ?_)
  case c1 =>
    intro j u hj
    exact cells_new w1 ((octs n 8).map (Value.int .u8)) [.int .u8 0] 107 j u hj
  case c2 => exact one_u8 _
  case c3 => unfold maxLen; omega
  case c4 => omega
  case c5 => have := hb.size; simp; omega
  intro v' w3 hown hgrow _
  go_wp2
  go_ret
  refine ⟨_, rfl, hown, ?_⟩
  exact (hb.alloc hb.size _).grown hgrow (by have := hb.size; simp; omega) (by simp [Value.ownBlock])

set_option maxHeartbeats 400000 in
theorem put9 (n : Int) (w : World) (h0 : 0 ≤ n) (h1 : n ≤ 18446744073709551615) (hs : sizeOf n = 9) :
    Calls Tryd.prog 29 #[.int .u64 n] w fun e w' => ∃ v, e = .returned v ∧ w'.ownsRow w.heap.size 5 1 v 9 ((octs n 9).map (Value.int .u8)) ∧ Below w.heap.size w w' := by
  have H : Hid (sizeOf n = 9) := hs
  clear hs
  obtain ⟨i0, hi, hz0, hz1, hz2⟩ := info_parts Tryd.info5
  go_enter Tryd.func29, Tryd.ntmps29
  go_wp2_with fail
  refine (size_any n _ h0 (by omega)).mono ?_
  rintro e w' ⟨rfl, rfl⟩
  rw [H.out]
  go_wp2_with fail
  refine (lay9 n _ h0 h1).mono ?_
  rintro e w1 ⟨rfl, hb⟩
  go_wp2_with (at_builtin; refine wpList_append_own _ rfl _ _ 64 rfl w'.heap.size 5 i0 (.int .u8 0) 1 1 Tryd.underlying64 hi hz0 hz1 hz2 rfl (by decide) _ _ _ rfl (World.ownsRow_nil _ _ _ _) ⟨w1.heap.size, 0, none⟩ 9 9 ((octs n 9).map (Value.int .u8)) rfl rfl ?c1 ?c2 ?c3 ?c4 ?c5 ?_)
  case c1 =>
    intro j u hj
    exact cells_new w1 ((octs n 9).map (Value.int .u8)) [] 107 j u hj
  case c2 => exact one_u8 _
  case c3 => unfold maxLen; omega
  case c4 => omega
  case c5 => have := hb.size; simp; omega
  intro v' w3 hown hgrow _
  go_wp2
  go_ret
  refine ⟨_, rfl, hown, ?_⟩
  exact (hb.alloc hb.size _).grown hgrow (by have := hb.size; simp; omega) (by simp [Value.ownBlock])

theorem bl_up (n : Int) (b : Nat) (h0 : 0 ≤ n) (h : n < 2 ^ b) : bl n ≤ b := by
  unfold bl bitLen
  split
  · omega
  · rename_i hn
    have hx : n.toNat < 2 ^ b := by
      have : ((2 ^ b : Nat) : Int) = 2 ^ b := by simp
      omega
    have := (Nat.log2_lt hn).2 hx
    omega

theorem bl_down (n : Int) (b : Nat) (h : (2 : Int) ^ b ≤ n) : (b : Int) + 1 ≤ bl n := by
  have e : ((2 ^ b : Nat) : Int) = 2 ^ b := by simp
  have hp : 0 < 2 ^ b := Nat.two_pow_pos b
  have hn : n.toNat ≠ 0 := by omega
  have hx : 2 ^ b ≤ n.toNat := by omega
  have := (Nat.le_log2 hn).2 hx
  unfold bl bitLen
  rw [if_neg hn]
  omega


theorem size_cases (n : Int) (h0 : 0 ≤ n) (h1 : n ≤ 18446744073709551615) :
    (sizeOf n = 1 ∧ 0 ≤ n ∧ n ≤ 127) ∨ (sizeOf n = 2 ∧ 128 ≤ n ∧ n ≤ 16383) ∨ (sizeOf n = 3 ∧ 16384 ≤ n ∧ n ≤ 2097151) ∨ (sizeOf n = 4 ∧ 2097152 ≤ n ∧ n ≤ 268435455) ∨ (sizeOf n = 5 ∧ 268435456 ≤ n ∧ n ≤ 34359738367) ∨ (sizeOf n = 6 ∧ 34359738368 ≤ n ∧ n ≤ 4398046511103) ∨ (sizeOf n = 7 ∧ 4398046511104 ≤ n ∧ n ≤ 562949953421311) ∨ (sizeOf n = 8 ∧ 562949953421312 ≤ n ∧ n ≤ 72057594037927935) ∨ (sizeOf n = 9 ∧ 72057594037927936 ≤ n ∧ n ≤ 18446744073709551615) := by
  have b0 := bl_nonneg n
  have b64 := bl_le64 n h0 h1
  by_cases c1 : n < 128
  · have u := bl_up n 7 h0 (by show n < 128; exact c1); exact .inl ⟨by unfold sizeOf; omega, by omega, by omega⟩
  by_cases c2 : n < 16384
  · have u := bl_up n 14 h0 (by show n < 16384; exact c2); have d := bl_down n 7 (by show 128 ≤ n; omega); exact .inr (.inl ⟨by unfold sizeOf; omega, by omega, by omega⟩)
  by_cases c3 : n < 2097152
  · have u := bl_up n 21 h0 (by show n < 2097152; exact c3); have d := bl_down n 14 (by show 16384 ≤ n; omega); exact .inr (.inr (.inl ⟨by unfold sizeOf; omega, by omega, by omega⟩))
  by_cases c4 : n < 268435456
  · have u := bl_up n 28 h0 (by show n < 268435456; exact c4); have d := bl_down n 21 (by show 2097152 ≤ n; omega); exact .inr (.inr (.inr (.inl ⟨by unfold sizeOf; omega, by omega, by omega⟩)))
  by_cases c5 : n < 34359738368
  · have u := bl_up n 35 h0 (by show n < 34359738368; exact c5); have d := bl_down n 28 (by show 268435456 ≤ n; omega); exact .inr (.inr (.inr (.inr (.inl ⟨by unfold sizeOf; omega, by omega, by omega⟩))))
  by_cases c6 : n < 4398046511104
  · have u := bl_up n 42 h0 (by show n < 4398046511104; exact c6); have d := bl_down n 35 (by show 34359738368 ≤ n; omega); exact .inr (.inr (.inr (.inr (.inr (.inl ⟨by unfold sizeOf; omega, by omega, by omega⟩)))))
  by_cases c7 : n < 562949953421312
  · have u := bl_up n 49 h0 (by show n < 562949953421312; exact c7); have d := bl_down n 42 (by show 4398046511104 ≤ n; omega); exact .inr (.inr (.inr (.inr (.inr (.inr (.inl ⟨by unfold sizeOf; omega, by omega, by omega⟩))))))
  by_cases c8 : n < 72057594037927936
  · have u := bl_up n 56 h0 (by show n < 72057594037927936; exact c8); have d := bl_down n 49 (by show 562949953421312 ≤ n; omega); exact .inr (.inr (.inr (.inr (.inr (.inr (.inr (.inl ⟨by unfold sizeOf; omega, by omega, by omega⟩)))))))
  have d := bl_down n 56 (by show 72057594037927936 ≤ n; omega)
  exact .inr (.inr (.inr (.inr (.inr (.inr (.inr (.inr (⟨by unfold sizeOf; omega, by omega, by omega⟩))))))))

theorem size_bd (n : Int) : 1 ≤ sizeOf n ∧ sizeOf n ≤ 9 := by
  unfold sizeOf; omega

/-- The octets of n. -/
def octets (n : Int) : List Int := octs n (sizeOf n).toNat

theorem put_any (n : Int) (w : World) (h0 : 0 ≤ n) (h1 : n ≤ 18446744073709551615) :
    Calls Tryd.prog 29 #[.int .u64 n] w fun e w' => ∃ v, e = .returned v ∧ w'.ownsRow w.heap.size 5 1 v (octets n).length ((octets n).map (Value.int .u8)) ∧ Below w.heap.size w w' := by
  have hc := size_cases n h0 h1
  rcases hc with ⟨hs, ha, hb⟩ | ⟨hs, ha, hb⟩ | ⟨hs, ha, hb⟩ | ⟨hs, ha, hb⟩ | ⟨hs, ha, hb⟩ | ⟨hs, ha, hb⟩ | ⟨hs, ha, hb⟩ | ⟨hs, ha, hb⟩ | ⟨hs, ha, hb⟩
  · have e : octets n = octs n 1 := by unfold octets; rw [hs]; rfl
    rw [e]; exact put1 n w h0 hb hs
  · have e : octets n = octs n 2 := by unfold octets; rw [hs]; rfl
    rw [e]; exact put2 n w h0 hb hs
  · have e : octets n = octs n 3 := by unfold octets; rw [hs]; rfl
    rw [e]; exact put3 n w h0 hb hs
  · have e : octets n = octs n 4 := by unfold octets; rw [hs]; rfl
    rw [e]; exact put4 n w h0 hb hs
  · have e : octets n = octs n 5 := by unfold octets; rw [hs]; rfl
    rw [e]; exact put5 n w h0 hb hs
  · have e : octets n = octs n 6 := by unfold octets; rw [hs]; rfl
    rw [e]; exact put6 n w h0 hb hs
  · have e : octets n = octs n 7 := by unfold octets; rw [hs]; rfl
    rw [e]; exact put7 n w h0 hb hs
  · have e : octets n = octs n 8 := by unfold octets; rw [hs]; rfl
    rw [e]; exact put8 n w h0 hb hs
  · have e : octets n = octs n 9 := by unfold octets; rw [hs]; rfl
    rw [e]; exact put9 n w h0 hb hs
end Go.Proofs.YtpjmieiajhhbaaaDoor

/- varint.Get returns, for any octets in a slice (nil, empty or not), the number at their beginning, its length and its error just as the plain function 'getOf' says, and writes nothing. -/
namespace Go.Proofs.YtpjmieiajhhbaaaDoor
open Go.RowKit
set_option linter.unusedVariables false

/-- A number, octet by octet. -/
def acc (a : Int) (xs : List Int) : Int := xs.foldl (fun a x => a * 256 + x) a

/-- What Get tells of octets: the number, how many octets it has, the error. -/
def getOf : List Int → Int × Int × Int
  | [] => (0, 0, 8)
  | f :: r => if ((r.length : Int) + 1) < toldOf f then (0, 0, 8) else
      if sizeOf (acc (f - leadOf (toldOf f)) (r.take (toldOf f - 1).toNat)) < toldOf f then (0, 0, 4) else
        (acc (f - leadOf (toldOf f)) (r.take (toldOf f - 1).toNat), toldOf f, 0)

/-- How Get ends, once there are enough octets. -/
def GetEnd (N k : Int) (e : Ending) : Prop :=
  (sizeOf N < k ∧ e = .returned (.tuple #[.int .u64 0, .int .i64 0, .int .i64 4])) ∨
  (¬ sizeOf N < k ∧ e = .returned (.tuple #[.int .u64 N, .int .i64 k, .int .i64 0]))
theorem GetEnd.bad {N k : Int} (h : sizeOf N < k) : GetEnd N k (.returned (.tuple #[.int .u64 0, .int .i64 0, .int .i64 4])) := .inl ⟨h, rfl⟩
theorem GetEnd.good {N k : Int} (h : ¬ sizeOf N < k) : GetEnd N k (.returned (.tuple #[.int .u64 N, .int .i64 k, .int .i64 0])) := .inr ⟨h, rfl⟩

theorem andNot_table : ∀ f : Fin 256, bits .andNot .u8 (f.val : Int) (leadOf (toldOf (f.val : Int))) = (f.val : Int) - leadOf (toldOf (f.val : Int)) := by decide +kernel
theorem andNot_lead (f k L : Int) (h0 : 0 ≤ f) (h1 : f ≤ 255) (ht : toldOf f = k) (hl : leadOf k = L) : bits .andNot .u8 f L = f - L := by
  have h := andNot_table ⟨f.toNat, by omega⟩
  have e : ((f.toNat : Nat) : Int) = f := by omega
  have h' : bits .andNot .u8 ((f.toNat : Nat) : Int) (leadOf (toldOf ((f.toNat : Nat) : Int))) = ((f.toNat : Nat) : Int) - leadOf (toldOf ((f.toNat : Nat) : Int)) := h
  rw [e, ht, hl] at h'
  exact h'

theorem or_join (a x : Int) (h0 : 0 ≤ a) (h1 : a * 256 ≤ 18446744073709551360) (h2 : 0 ≤ x) (h3 : x ≤ 255) : bits .or .u64 (a * 256) x = a * 256 + x := by
  obtain ⟨A, rfl⟩ := Int.eq_ofNat_of_zero_le h0
  obtain ⟨X, rfl⟩ := Int.eq_ofNat_of_zero_le h2
  have e : ((A : Int) * 256) = ((A * 256 : Nat) : Int) := by omega
  rw [e, bits_or_u64_nat _ _ (by omega) (by omega)]
  have h := Nat.shiftLeft_add_eq_or_of_lt (b := X) (i := 8) (by omega) A
  rw [Nat.shiftLeft_eq] at h
  have h' : A * 256 + X = A * 256 ||| X := h
  omega

theorem told_table : ∀ f : Fin 256, toldOf (f.val : Int) = if f.val ≤ 127 then 1 else if f.val ≤ 191 then 2 else if f.val ≤ 223 then 3 else if f.val ≤ 239 then 4 else if f.val ≤ 247 then 5 else if f.val ≤ 251 then 6 else if f.val ≤ 253 then 7 else if f.val ≤ 254 then 8 else 9 := by decide +kernel
theorem told_cases (f : Int) (h0 : 0 ≤ f) (h1 : f ≤ 255) :
    (toldOf f = 1 ∧ 0 ≤ f ∧ f ≤ 127) ∨ (toldOf f = 2 ∧ 128 ≤ f ∧ f ≤ 191) ∨ (toldOf f = 3 ∧ 192 ≤ f ∧ f ≤ 223) ∨ (toldOf f = 4 ∧ 224 ≤ f ∧ f ≤ 239) ∨ (toldOf f = 5 ∧ 240 ≤ f ∧ f ≤ 247) ∨ (toldOf f = 6 ∧ 248 ≤ f ∧ f ≤ 251) ∨ (toldOf f = 7 ∧ 252 ≤ f ∧ f ≤ 253) ∨ (toldOf f = 8 ∧ 254 ≤ f ∧ f ≤ 254) ∨ (toldOf f = 9 ∧ 255 ≤ f ∧ f ≤ 255) := by
  have h := told_table ⟨f.toNat, by omega⟩
  have e : ((f.toNat : Nat) : Int) = f := by omega
  have h' : toldOf ((f.toNat : Nat) : Int) = if f.toNat ≤ 127 then 1 else if f.toNat ≤ 191 then 2 else if f.toNat ≤ 223 then 3 else if f.toNat ≤ 239 then 4 else if f.toNat ≤ 247 then 5 else if f.toNat ≤ 251 then 6 else if f.toNat ≤ 253 then 7 else if f.toNat ≤ 254 then 8 else 9 := h
  rw [e] at h'
  by_cases c1 : f.toNat ≤ 127
  · rw [if_pos c1] at h'; exact .inl ⟨h', by omega, by omega⟩
  rw [if_neg c1] at h'
  by_cases c2 : f.toNat ≤ 191
  · rw [if_pos c2] at h'; exact .inr (.inl ⟨h', by omega, by omega⟩)
  rw [if_neg c2] at h'
  by_cases c3 : f.toNat ≤ 223
  · rw [if_pos c3] at h'; exact .inr (.inr (.inl ⟨h', by omega, by omega⟩))
  rw [if_neg c3] at h'
  by_cases c4 : f.toNat ≤ 239
  · rw [if_pos c4] at h'; exact .inr (.inr (.inr (.inl ⟨h', by omega, by omega⟩)))
  rw [if_neg c4] at h'
  by_cases c5 : f.toNat ≤ 247
  · rw [if_pos c5] at h'; exact .inr (.inr (.inr (.inr (.inl ⟨h', by omega, by omega⟩))))
  rw [if_neg c5] at h'
  by_cases c6 : f.toNat ≤ 251
  · rw [if_pos c6] at h'; exact .inr (.inr (.inr (.inr (.inr (.inl ⟨h', by omega, by omega⟩)))))
  rw [if_neg c6] at h'
  by_cases c7 : f.toNat ≤ 253
  · rw [if_pos c7] at h'; exact .inr (.inr (.inr (.inr (.inr (.inr (.inl ⟨h', by omega, by omega⟩))))))
  rw [if_neg c7] at h'
  by_cases c8 : f.toNat ≤ 254
  · rw [if_pos c8] at h'; exact .inr (.inr (.inr (.inr (.inr (.inr (.inr (.inl ⟨h', by omega, by omega⟩)))))))
  rw [if_neg c8] at h'
  exact .inr (.inr (.inr (.inr (.inr (.inr (.inr (.inr (⟨h', by omega, by omega⟩))))))))


set_option maxHeartbeats 1000000 in
theorem get1 (f : Int)  (b off len cap : Nat) (w : World) (hlen : 1 ≤ len) (hcap : len ≤ cap) (hm : cap ≤ maxLen) (hf0 : 0 ≤ f) (hf1 : f ≤ 255) (ht : toldOf f = 1) (hlo : 0 ≤ f) (hhi : f ≤ 127)
     (c0 : w.cell? ⟨b, off, none⟩ = some (.int .u8 f))  :
    Calls Tryd.prog 74 #[.slice (some ⟨b, off, none⟩) len cap] w fun e w' => GetEnd (f) 1 e ∧ ∃ d, w' = w.drewN d := by
  have H : Hid (toldOf f = 1) := ht
  have hl : leadOf 1 = 0 := by decide +kernel
  have ha : bits .andNot .u8 f 0 = f := by rw [andNot_lead f 1 0 hf0 hf1 ht hl]; omega
  clear ht
  unfold maxLen at hm
  have hne : ((len : Int) == 0) = false := by simp; omega
  have hge : ¬ (len : Int) < 1 := by omega

  by_cases hs : sizeOf (f) < 1
  all_goals
    have hcc : (cap = 1 ∧ len = 1) ∨ ¬ cap = 1 := by omega
    rcases hcc with ⟨rfl, rfl⟩ | hcc
  all_goals
    go_enter Tryd.func74, Tryd.ntmps74
    go_wp2_with fail
    refine (told_any f _ hf0 hf1).mono ?_
    rintro e w' ⟨rfl, rfl⟩
    rw [H.out]
    go_wp2_with fail
    go_quiet ((go_at_call 73; exact Calls.quiet_of_same (lead_any _ _ (by omega) (by omega))))
    go_wp2_with fail
    refine wp_loop_rounds 1 ?_
    rw [rounds_succ]
    go_wp2_with fail
    refine (size_any (f) _ (by omega) (by omega)).mono ?_
    rintro e w2 ⟨rfl, rfl⟩
    go_wp2
    go_ret3
  · exact ⟨GetEnd.bad hs, _, rfl⟩
  · exact ⟨GetEnd.bad hs, _, rfl⟩
  · exact ⟨GetEnd.good (by omega), _, rfl⟩
  · exact ⟨GetEnd.good (by omega), _, rfl⟩

set_option maxHeartbeats 1000000 in
theorem get2 (f : Int) (x1 : Int) (b off len cap : Nat) (w : World) (hlen : 2 ≤ len) (hcap : len ≤ cap) (hm : cap ≤ maxLen) (hf0 : 0 ≤ f) (hf1 : f ≤ 255) (ht : toldOf f = 2) (hlo : 128 ≤ f) (hhi : f ≤ 191)
    (p1 : 0 ≤ x1) (q1 : x1 ≤ 255) (c0 : w.cell? ⟨b, off, none⟩ = some (.int .u8 f)) (c1 : w.cell? ⟨b, off + 1, none⟩ = some (.int .u8 x1)) :
    Calls Tryd.prog 74 #[.slice (some ⟨b, off, none⟩) len cap] w fun e w' => GetEnd ((f - 128) * 256 + x1) 2 e ∧ ∃ d, w' = w.drewN d := by
  have H : Hid (toldOf f = 2) := ht
  have hl : leadOf 2 = 128 := by decide +kernel
  have ha : bits .andNot .u8 f 128 = f - 128 := by rw [andNot_lead f 2 128 hf0 hf1 ht hl]
  clear ht
  unfold maxLen at hm
  have hne : ((len : Int) == 0) = false := by simp; omega
  have hge : ¬ (len : Int) < 2 := by omega
  have o1 : bits .or .u64 ((f - 128) * 256) x1 = (f - 128) * 256 + x1 := or_join _ _ (by omega) (by omega) p1 q1
  by_cases hs : sizeOf ((f - 128) * 256 + x1) < 2
  all_goals
    go_enter Tryd.func74, Tryd.ntmps74
    go_wp2_with fail
    refine (told_any f _ hf0 hf1).mono ?_
    rintro e w' ⟨rfl, rfl⟩
    rw [H.out]
    go_wp2_with fail
    go_quiet ((go_at_call 73; exact Calls.quiet_of_same (lead_any _ _ (by omega) (by omega))))
    go_wp2_with fail
    refine wp_loop_rounds 2 ?_
    rw [rounds_succ]
    go_wp2
    rw [rounds_succ]
    go_wp2_with fail
    refine (size_any ((f - 128) * 256 + x1) _ (by omega) (by omega)).mono ?_
    rintro e w2 ⟨rfl, rfl⟩
    go_wp2
    go_ret3
  · exact ⟨GetEnd.bad hs, _, rfl⟩
  · exact ⟨GetEnd.good (by omega), _, rfl⟩

set_option maxHeartbeats 1000000 in
theorem get3 (f : Int) (x1 x2 : Int) (b off len cap : Nat) (w : World) (hlen : 3 ≤ len) (hcap : len ≤ cap) (hm : cap ≤ maxLen) (hf0 : 0 ≤ f) (hf1 : f ≤ 255) (ht : toldOf f = 3) (hlo : 192 ≤ f) (hhi : f ≤ 223)
    (p1 : 0 ≤ x1) (q1 : x1 ≤ 255) (p2 : 0 ≤ x2) (q2 : x2 ≤ 255) (c0 : w.cell? ⟨b, off, none⟩ = some (.int .u8 f)) (c1 : w.cell? ⟨b, off + 1, none⟩ = some (.int .u8 x1)) (c2 : w.cell? ⟨b, off + 2, none⟩ = some (.int .u8 x2)) :
    Calls Tryd.prog 74 #[.slice (some ⟨b, off, none⟩) len cap] w fun e w' => GetEnd (((f - 192) * 256 + x1) * 256 + x2) 3 e ∧ ∃ d, w' = w.drewN d := by
  have H : Hid (toldOf f = 3) := ht
  have hl : leadOf 3 = 192 := by decide +kernel
  have ha : bits .andNot .u8 f 192 = f - 192 := by rw [andNot_lead f 3 192 hf0 hf1 ht hl]
  clear ht
  unfold maxLen at hm
  have hne : ((len : Int) == 0) = false := by simp; omega
  have hge : ¬ (len : Int) < 3 := by omega
  have o1 : bits .or .u64 ((f - 192) * 256) x1 = (f - 192) * 256 + x1 := or_join _ _ (by omega) (by omega) p1 q1
  have o2 : bits .or .u64 (((f - 192) * 256 + x1) * 256) x2 = ((f - 192) * 256 + x1) * 256 + x2 := or_join _ _ (by omega) (by omega) p2 q2
  by_cases hs : sizeOf (((f - 192) * 256 + x1) * 256 + x2) < 3
  all_goals
    go_enter Tryd.func74, Tryd.ntmps74
    go_wp2_with fail
    refine (told_any f _ hf0 hf1).mono ?_
    rintro e w' ⟨rfl, rfl⟩
    rw [H.out]
    go_wp2_with fail
    go_quiet ((go_at_call 73; exact Calls.quiet_of_same (lead_any _ _ (by omega) (by omega))))
    go_wp2_with fail
    refine wp_loop_rounds 3 ?_
    rw [rounds_succ]
    go_wp2
    rw [rounds_succ]
    go_wp2
    rw [rounds_succ]
    go_wp2_with fail
    refine (size_any (((f - 192) * 256 + x1) * 256 + x2) _ (by omega) (by omega)).mono ?_
    rintro e w2 ⟨rfl, rfl⟩
    go_wp2
    go_ret3
  · exact ⟨GetEnd.bad hs, _, rfl⟩
  · exact ⟨GetEnd.good (by omega), _, rfl⟩

set_option maxHeartbeats 1000000 in
theorem get4 (f : Int) (x1 x2 x3 : Int) (b off len cap : Nat) (w : World) (hlen : 4 ≤ len) (hcap : len ≤ cap) (hm : cap ≤ maxLen) (hf0 : 0 ≤ f) (hf1 : f ≤ 255) (ht : toldOf f = 4) (hlo : 224 ≤ f) (hhi : f ≤ 239)
    (p1 : 0 ≤ x1) (q1 : x1 ≤ 255) (p2 : 0 ≤ x2) (q2 : x2 ≤ 255) (p3 : 0 ≤ x3) (q3 : x3 ≤ 255) (c0 : w.cell? ⟨b, off, none⟩ = some (.int .u8 f)) (c1 : w.cell? ⟨b, off + 1, none⟩ = some (.int .u8 x1)) (c2 : w.cell? ⟨b, off + 2, none⟩ = some (.int .u8 x2)) (c3 : w.cell? ⟨b, off + 3, none⟩ = some (.int .u8 x3)) :
    Calls Tryd.prog 74 #[.slice (some ⟨b, off, none⟩) len cap] w fun e w' => GetEnd ((((f - 224) * 256 + x1) * 256 + x2) * 256 + x3) 4 e ∧ ∃ d, w' = w.drewN d := by
  have H : Hid (toldOf f = 4) := ht
  have hl : leadOf 4 = 224 := by decide +kernel
  have ha : bits .andNot .u8 f 224 = f - 224 := by rw [andNot_lead f 4 224 hf0 hf1 ht hl]
  clear ht
  unfold maxLen at hm
  have hne : ((len : Int) == 0) = false := by simp; omega
  have hge : ¬ (len : Int) < 4 := by omega
  have o1 : bits .or .u64 ((f - 224) * 256) x1 = (f - 224) * 256 + x1 := or_join _ _ (by omega) (by omega) p1 q1
  have o2 : bits .or .u64 (((f - 224) * 256 + x1) * 256) x2 = ((f - 224) * 256 + x1) * 256 + x2 := or_join _ _ (by omega) (by omega) p2 q2
  have o3 : bits .or .u64 ((((f - 224) * 256 + x1) * 256 + x2) * 256) x3 = (((f - 224) * 256 + x1) * 256 + x2) * 256 + x3 := or_join _ _ (by omega) (by omega) p3 q3
  by_cases hs : sizeOf ((((f - 224) * 256 + x1) * 256 + x2) * 256 + x3) < 4
  all_goals
    go_enter Tryd.func74, Tryd.ntmps74
    go_wp2_with fail
    refine (told_any f _ hf0 hf1).mono ?_
    rintro e w' ⟨rfl, rfl⟩
    rw [H.out]
    go_wp2_with fail
    go_quiet ((go_at_call 73; exact Calls.quiet_of_same (lead_any _ _ (by omega) (by omega))))
    go_wp2_with fail
    refine wp_loop_rounds 4 ?_
    rw [rounds_succ]
    go_wp2
    rw [rounds_succ]
    go_wp2
    rw [rounds_succ]
    go_wp2
    rw [rounds_succ]
    go_wp2_with fail
    refine (size_any ((((f - 224) * 256 + x1) * 256 + x2) * 256 + x3) _ (by omega) (by omega)).mono ?_
    rintro e w2 ⟨rfl, rfl⟩
    go_wp2
    go_ret3
  · exact ⟨GetEnd.bad hs, _, rfl⟩
  · exact ⟨GetEnd.good (by omega), _, rfl⟩

set_option maxHeartbeats 1000000 in
theorem get5 (f : Int) (x1 x2 x3 x4 : Int) (b off len cap : Nat) (w : World) (hlen : 5 ≤ len) (hcap : len ≤ cap) (hm : cap ≤ maxLen) (hf0 : 0 ≤ f) (hf1 : f ≤ 255) (ht : toldOf f = 5) (hlo : 240 ≤ f) (hhi : f ≤ 247)
    (p1 : 0 ≤ x1) (q1 : x1 ≤ 255) (p2 : 0 ≤ x2) (q2 : x2 ≤ 255) (p3 : 0 ≤ x3) (q3 : x3 ≤ 255) (p4 : 0 ≤ x4) (q4 : x4 ≤ 255) (c0 : w.cell? ⟨b, off, none⟩ = some (.int .u8 f)) (c1 : w.cell? ⟨b, off + 1, none⟩ = some (.int .u8 x1)) (c2 : w.cell? ⟨b, off + 2, none⟩ = some (.int .u8 x2)) (c3 : w.cell? ⟨b, off + 3, none⟩ = some (.int .u8 x3)) (c4 : w.cell? ⟨b, off + 4, none⟩ = some (.int .u8 x4)) :
    Calls Tryd.prog 74 #[.slice (some ⟨b, off, none⟩) len cap] w fun e w' => GetEnd (((((f - 240) * 256 + x1) * 256 + x2) * 256 + x3) * 256 + x4) 5 e ∧ ∃ d, w' = w.drewN d := by
  have H : Hid (toldOf f = 5) := ht
  have hl : leadOf 5 = 240 := by decide +kernel
  have ha : bits .andNot .u8 f 240 = f - 240 := by rw [andNot_lead f 5 240 hf0 hf1 ht hl]
  clear ht
  unfold maxLen at hm
  have hne : ((len : Int) == 0) = false := by simp; omega
  have hge : ¬ (len : Int) < 5 := by omega
  have o1 : bits .or .u64 ((f - 240) * 256) x1 = (f - 240) * 256 + x1 := or_join _ _ (by omega) (by omega) p1 q1
  have o2 : bits .or .u64 (((f - 240) * 256 + x1) * 256) x2 = ((f - 240) * 256 + x1) * 256 + x2 := or_join _ _ (by omega) (by omega) p2 q2
  have o3 : bits .or .u64 ((((f - 240) * 256 + x1) * 256 + x2) * 256) x3 = (((f - 240) * 256 + x1) * 256 + x2) * 256 + x3 := or_join _ _ (by omega) (by omega) p3 q3
  have o4 : bits .or .u64 (((((f - 240) * 256 + x1) * 256 + x2) * 256 + x3) * 256) x4 = ((((f - 240) * 256 + x1) * 256 + x2) * 256 + x3) * 256 + x4 := or_join _ _ (by omega) (by omega) p4 q4
  by_cases hs : sizeOf (((((f - 240) * 256 + x1) * 256 + x2) * 256 + x3) * 256 + x4) < 5
  all_goals
    go_enter Tryd.func74, Tryd.ntmps74
    go_wp2_with fail
    refine (told_any f _ hf0 hf1).mono ?_
    rintro e w' ⟨rfl, rfl⟩
    rw [H.out]
    go_wp2_with fail
    go_quiet ((go_at_call 73; exact Calls.quiet_of_same (lead_any _ _ (by omega) (by omega))))
    go_wp2_with fail
    refine wp_loop_rounds 5 ?_
    rw [rounds_succ]
    go_wp2
    rw [rounds_succ]
    go_wp2
    rw [rounds_succ]
    go_wp2
    rw [rounds_succ]
    go_wp2
    rw [rounds_succ]
    go_wp2_with fail
    refine (size_any (((((f - 240) * 256 + x1) * 256 + x2) * 256 + x3) * 256 + x4) _ (by omega) (by omega)).mono ?_
    rintro e w2 ⟨rfl, rfl⟩
    go_wp2
    go_ret3
  · exact ⟨GetEnd.bad hs, _, rfl⟩
  · exact ⟨GetEnd.good (by omega), _, rfl⟩

set_option maxHeartbeats 1000000 in
theorem get6 (f : Int) (x1 x2 x3 x4 x5 : Int) (b off len cap : Nat) (w : World) (hlen : 6 ≤ len) (hcap : len ≤ cap) (hm : cap ≤ maxLen) (hf0 : 0 ≤ f) (hf1 : f ≤ 255) (ht : toldOf f = 6) (hlo : 248 ≤ f) (hhi : f ≤ 251)
    (p1 : 0 ≤ x1) (q1 : x1 ≤ 255) (p2 : 0 ≤ x2) (q2 : x2 ≤ 255) (p3 : 0 ≤ x3) (q3 : x3 ≤ 255) (p4 : 0 ≤ x4) (q4 : x4 ≤ 255) (p5 : 0 ≤ x5) (q5 : x5 ≤ 255) (c0 : w.cell? ⟨b, off, none⟩ = some (.int .u8 f)) (c1 : w.cell? ⟨b, off + 1, none⟩ = some (.int .u8 x1)) (c2 : w.cell? ⟨b, off + 2, none⟩ = some (.int .u8 x2)) (c3 : w.cell? ⟨b, off + 3, none⟩ = some (.int .u8 x3)) (c4 : w.cell? ⟨b, off + 4, none⟩ = some (.int .u8 x4)) (c5 : w.cell? ⟨b, off + 5, none⟩ = some (.int .u8 x5)) :
    Calls Tryd.prog 74 #[.slice (some ⟨b, off, none⟩) len cap] w fun e w' => GetEnd ((((((f - 248) * 256 + x1) * 256 + x2) * 256 + x3) * 256 + x4) * 256 + x5) 6 e ∧ ∃ d, w' = w.drewN d := by
  have H : Hid (toldOf f = 6) := ht
  have hl : leadOf 6 = 248 := by decide +kernel
  have ha : bits .andNot .u8 f 248 = f - 248 := by rw [andNot_lead f 6 248 hf0 hf1 ht hl]
  clear ht
  unfold maxLen at hm
  have hne : ((len : Int) == 0) = false := by simp; omega
  have hge : ¬ (len : Int) < 6 := by omega
  have o1 : bits .or .u64 ((f - 248) * 256) x1 = (f - 248) * 256 + x1 := or_join _ _ (by omega) (by omega) p1 q1
  have o2 : bits .or .u64 (((f - 248) * 256 + x1) * 256) x2 = ((f - 248) * 256 + x1) * 256 + x2 := or_join _ _ (by omega) (by omega) p2 q2
  have o3 : bits .or .u64 ((((f - 248) * 256 + x1) * 256 + x2) * 256) x3 = (((f - 248) * 256 + x1) * 256 + x2) * 256 + x3 := or_join _ _ (by omega) (by omega) p3 q3
  have o4 : bits .or .u64 (((((f - 248) * 256 + x1) * 256 + x2) * 256 + x3) * 256) x4 = ((((f - 248) * 256 + x1) * 256 + x2) * 256 + x3) * 256 + x4 := or_join _ _ (by omega) (by omega) p4 q4
  have o5 : bits .or .u64 ((((((f - 248) * 256 + x1) * 256 + x2) * 256 + x3) * 256 + x4) * 256) x5 = (((((f - 248) * 256 + x1) * 256 + x2) * 256 + x3) * 256 + x4) * 256 + x5 := or_join _ _ (by omega) (by omega) p5 q5
  by_cases hs : sizeOf ((((((f - 248) * 256 + x1) * 256 + x2) * 256 + x3) * 256 + x4) * 256 + x5) < 6
  all_goals
    go_enter Tryd.func74, Tryd.ntmps74
    go_wp2_with fail
    refine (told_any f _ hf0 hf1).mono ?_
    rintro e w' ⟨rfl, rfl⟩
    rw [H.out]
    go_wp2_with fail
    go_quiet ((go_at_call 73; exact Calls.quiet_of_same (lead_any _ _ (by omega) (by omega))))
    go_wp2_with fail
    refine wp_loop_rounds 6 ?_
    rw [rounds_succ]
    go_wp2
    rw [rounds_succ]
    go_wp2
    rw [rounds_succ]
    go_wp2
    rw [rounds_succ]
    go_wp2
    rw [rounds_succ]
    go_wp2
    rw [rounds_succ]
    go_wp2_with fail
    refine (size_any ((((((f - 248) * 256 + x1) * 256 + x2) * 256 + x3) * 256 + x4) * 256 + x5) _ (by omega) (by omega)).mono ?_
    rintro e w2 ⟨rfl, rfl⟩
    go_wp2
    go_ret3
  · exact ⟨GetEnd.bad hs, _, rfl⟩
  · exact ⟨GetEnd.good (by omega), _, rfl⟩

set_option maxHeartbeats 1000000 in
theorem get7 (f : Int) (x1 x2 x3 x4 x5 x6 : Int) (b off len cap : Nat) (w : World) (hlen : 7 ≤ len) (hcap : len ≤ cap) (hm : cap ≤ maxLen) (hf0 : 0 ≤ f) (hf1 : f ≤ 255) (ht : toldOf f = 7) (hlo : 252 ≤ f) (hhi : f ≤ 253)
    (p1 : 0 ≤ x1) (q1 : x1 ≤ 255) (p2 : 0 ≤ x2) (q2 : x2 ≤ 255) (p3 : 0 ≤ x3) (q3 : x3 ≤ 255) (p4 : 0 ≤ x4) (q4 : x4 ≤ 255) (p5 : 0 ≤ x5) (q5 : x5 ≤ 255) (p6 : 0 ≤ x6) (q6 : x6 ≤ 255) (c0 : w.cell? ⟨b, off, none⟩ = some (.int .u8 f)) (c1 : w.cell? ⟨b, off + 1, none⟩ = some (.int .u8 x1)) (c2 : w.cell? ⟨b, off + 2, none⟩ = some (.int .u8 x2)) (c3 : w.cell? ⟨b, off + 3, none⟩ = some (.int .u8 x3)) (c4 : w.cell? ⟨b, off + 4, none⟩ = some (.int .u8 x4)) (c5 : w.cell? ⟨b, off + 5, none⟩ = some (.int .u8 x5)) (c6 : w.cell? ⟨b, off + 6, none⟩ = some (.int .u8 x6)) :
    Calls Tryd.prog 74 #[.slice (some ⟨b, off, none⟩) len cap] w fun e w' => GetEnd (((((((f - 252) * 256 + x1) * 256 + x2) * 256 + x3) * 256 + x4) * 256 + x5) * 256 + x6) 7 e ∧ ∃ d, w' = w.drewN d := by
  have H : Hid (toldOf f = 7) := ht
  have hl : leadOf 7 = 252 := by decide +kernel
  have ha : bits .andNot .u8 f 252 = f - 252 := by rw [andNot_lead f 7 252 hf0 hf1 ht hl]
  clear ht
  unfold maxLen at hm
  have hne : ((len : Int) == 0) = false := by simp; omega
  have hge : ¬ (len : Int) < 7 := by omega
  have o1 : bits .or .u64 ((f - 252) * 256) x1 = (f - 252) * 256 + x1 := or_join _ _ (by omega) (by omega) p1 q1
  have o2 : bits .or .u64 (((f - 252) * 256 + x1) * 256) x2 = ((f - 252) * 256 + x1) * 256 + x2 := or_join _ _ (by omega) (by omega) p2 q2
  have o3 : bits .or .u64 ((((f - 252) * 256 + x1) * 256 + x2) * 256) x3 = (((f - 252) * 256 + x1) * 256 + x2) * 256 + x3 := or_join _ _ (by omega) (by omega) p3 q3
  have o4 : bits .or .u64 (((((f - 252) * 256 + x1) * 256 + x2) * 256 + x3) * 256) x4 = ((((f - 252) * 256 + x1) * 256 + x2) * 256 + x3) * 256 + x4 := or_join _ _ (by omega) (by omega) p4 q4
  have o5 : bits .or .u64 ((((((f - 252) * 256 + x1) * 256 + x2) * 256 + x3) * 256 + x4) * 256) x5 = (((((f - 252) * 256 + x1) * 256 + x2) * 256 + x3) * 256 + x4) * 256 + x5 := or_join _ _ (by omega) (by omega) p5 q5
  have o6 : bits .or .u64 (((((((f - 252) * 256 + x1) * 256 + x2) * 256 + x3) * 256 + x4) * 256 + x5) * 256) x6 = ((((((f - 252) * 256 + x1) * 256 + x2) * 256 + x3) * 256 + x4) * 256 + x5) * 256 + x6 := or_join _ _ (by omega) (by omega) p6 q6
  by_cases hs : sizeOf (((((((f - 252) * 256 + x1) * 256 + x2) * 256 + x3) * 256 + x4) * 256 + x5) * 256 + x6) < 7
  all_goals
    go_enter Tryd.func74, Tryd.ntmps74
    go_wp2_with fail
    refine (told_any f _ hf0 hf1).mono ?_
    rintro e w' ⟨rfl, rfl⟩
    rw [H.out]
    go_wp2_with fail
    go_quiet ((go_at_call 73; exact Calls.quiet_of_same (lead_any _ _ (by omega) (by omega))))
    go_wp2_with fail
    refine wp_loop_rounds 7 ?_
    rw [rounds_succ]
    go_wp2
    rw [rounds_succ]
    go_wp2
    rw [rounds_succ]
    go_wp2
    rw [rounds_succ]
    go_wp2
    rw [rounds_succ]
    go_wp2
    rw [rounds_succ]
    go_wp2
    rw [rounds_succ]
    go_wp2_with fail
    refine (size_any (((((((f - 252) * 256 + x1) * 256 + x2) * 256 + x3) * 256 + x4) * 256 + x5) * 256 + x6) _ (by omega) (by omega)).mono ?_
    rintro e w2 ⟨rfl, rfl⟩
    go_wp2
    go_ret3
  · exact ⟨GetEnd.bad hs, _, rfl⟩
  · exact ⟨GetEnd.good (by omega), _, rfl⟩

set_option maxHeartbeats 1000000 in
theorem get8 (f : Int) (x1 x2 x3 x4 x5 x6 x7 : Int) (b off len cap : Nat) (w : World) (hlen : 8 ≤ len) (hcap : len ≤ cap) (hm : cap ≤ maxLen) (hf0 : 0 ≤ f) (hf1 : f ≤ 255) (ht : toldOf f = 8) (hlo : 254 ≤ f) (hhi : f ≤ 254)
    (p1 : 0 ≤ x1) (q1 : x1 ≤ 255) (p2 : 0 ≤ x2) (q2 : x2 ≤ 255) (p3 : 0 ≤ x3) (q3 : x3 ≤ 255) (p4 : 0 ≤ x4) (q4 : x4 ≤ 255) (p5 : 0 ≤ x5) (q5 : x5 ≤ 255) (p6 : 0 ≤ x6) (q6 : x6 ≤ 255) (p7 : 0 ≤ x7) (q7 : x7 ≤ 255) (c0 : w.cell? ⟨b, off, none⟩ = some (.int .u8 f)) (c1 : w.cell? ⟨b, off + 1, none⟩ = some (.int .u8 x1)) (c2 : w.cell? ⟨b, off + 2, none⟩ = some (.int .u8 x2)) (c3 : w.cell? ⟨b, off + 3, none⟩ = some (.int .u8 x3)) (c4 : w.cell? ⟨b, off + 4, none⟩ = some (.int .u8 x4)) (c5 : w.cell? ⟨b, off + 5, none⟩ = some (.int .u8 x5)) (c6 : w.cell? ⟨b, off + 6, none⟩ = some (.int .u8 x6)) (c7 : w.cell? ⟨b, off + 7, none⟩ = some (.int .u8 x7)) :
    Calls Tryd.prog 74 #[.slice (some ⟨b, off, none⟩) len cap] w fun e w' => GetEnd ((((((((f - 254) * 256 + x1) * 256 + x2) * 256 + x3) * 256 + x4) * 256 + x5) * 256 + x6) * 256 + x7) 8 e ∧ ∃ d, w' = w.drewN d := by
  have H : Hid (toldOf f = 8) := ht
  have hl : leadOf 8 = 254 := by decide +kernel
  have ha : bits .andNot .u8 f 254 = f - 254 := by rw [andNot_lead f 8 254 hf0 hf1 ht hl]
  clear ht
  unfold maxLen at hm
  have hne : ((len : Int) == 0) = false := by simp; omega
  have hge : ¬ (len : Int) < 8 := by omega
  have o1 : bits .or .u64 ((f - 254) * 256) x1 = (f - 254) * 256 + x1 := or_join _ _ (by omega) (by omega) p1 q1
  have o2 : bits .or .u64 (((f - 254) * 256 + x1) * 256) x2 = ((f - 254) * 256 + x1) * 256 + x2 := or_join _ _ (by omega) (by omega) p2 q2
  have o3 : bits .or .u64 ((((f - 254) * 256 + x1) * 256 + x2) * 256) x3 = (((f - 254) * 256 + x1) * 256 + x2) * 256 + x3 := or_join _ _ (by omega) (by omega) p3 q3
  have o4 : bits .or .u64 (((((f - 254) * 256 + x1) * 256 + x2) * 256 + x3) * 256) x4 = ((((f - 254) * 256 + x1) * 256 + x2) * 256 + x3) * 256 + x4 := or_join _ _ (by omega) (by omega) p4 q4
  have o5 : bits .or .u64 ((((((f - 254) * 256 + x1) * 256 + x2) * 256 + x3) * 256 + x4) * 256) x5 = (((((f - 254) * 256 + x1) * 256 + x2) * 256 + x3) * 256 + x4) * 256 + x5 := or_join _ _ (by omega) (by omega) p5 q5
  have o6 : bits .or .u64 (((((((f - 254) * 256 + x1) * 256 + x2) * 256 + x3) * 256 + x4) * 256 + x5) * 256) x6 = ((((((f - 254) * 256 + x1) * 256 + x2) * 256 + x3) * 256 + x4) * 256 + x5) * 256 + x6 := or_join _ _ (by omega) (by omega) p6 q6
  have o7 : bits .or .u64 ((((((((f - 254) * 256 + x1) * 256 + x2) * 256 + x3) * 256 + x4) * 256 + x5) * 256 + x6) * 256) x7 = (((((((f - 254) * 256 + x1) * 256 + x2) * 256 + x3) * 256 + x4) * 256 + x5) * 256 + x6) * 256 + x7 := or_join _ _ (by omega) (by omega) p7 q7
  by_cases hs : sizeOf ((((((((f - 254) * 256 + x1) * 256 + x2) * 256 + x3) * 256 + x4) * 256 + x5) * 256 + x6) * 256 + x7) < 8
  all_goals
    go_enter Tryd.func74, Tryd.ntmps74
    go_wp2_with fail
    refine (told_any f _ hf0 hf1).mono ?_
    rintro e w' ⟨rfl, rfl⟩
    rw [H.out]
    go_wp2_with fail
    go_quiet ((go_at_call 73; exact Calls.quiet_of_same (lead_any _ _ (by omega) (by omega))))
    go_wp2_with fail
    refine wp_loop_rounds 8 ?_
    rw [rounds_succ]
    go_wp2
    rw [rounds_succ]
    go_wp2
    rw [rounds_succ]
    go_wp2
    rw [rounds_succ]
    go_wp2
    rw [rounds_succ]
    go_wp2
    rw [rounds_succ]
    go_wp2
    rw [rounds_succ]
    go_wp2
    rw [rounds_succ]
    go_wp2_with fail
    refine (size_any ((((((((f - 254) * 256 + x1) * 256 + x2) * 256 + x3) * 256 + x4) * 256 + x5) * 256 + x6) * 256 + x7) _ (by omega) (by omega)).mono ?_
    rintro e w2 ⟨rfl, rfl⟩
    go_wp2
    go_ret3
  · exact ⟨GetEnd.bad hs, _, rfl⟩
  · exact ⟨GetEnd.good (by omega), _, rfl⟩

set_option maxHeartbeats 1000000 in
theorem get9 (f : Int) (x1 x2 x3 x4 x5 x6 x7 x8 : Int) (b off len cap : Nat) (w : World) (hlen : 9 ≤ len) (hcap : len ≤ cap) (hm : cap ≤ maxLen) (hf0 : 0 ≤ f) (hf1 : f ≤ 255) (ht : toldOf f = 9) (hlo : 255 ≤ f) (hhi : f ≤ 255)
    (p1 : 0 ≤ x1) (q1 : x1 ≤ 255) (p2 : 0 ≤ x2) (q2 : x2 ≤ 255) (p3 : 0 ≤ x3) (q3 : x3 ≤ 255) (p4 : 0 ≤ x4) (q4 : x4 ≤ 255) (p5 : 0 ≤ x5) (q5 : x5 ≤ 255) (p6 : 0 ≤ x6) (q6 : x6 ≤ 255) (p7 : 0 ≤ x7) (q7 : x7 ≤ 255) (p8 : 0 ≤ x8) (q8 : x8 ≤ 255) (c0 : w.cell? ⟨b, off, none⟩ = some (.int .u8 f)) (c1 : w.cell? ⟨b, off + 1, none⟩ = some (.int .u8 x1)) (c2 : w.cell? ⟨b, off + 2, none⟩ = some (.int .u8 x2)) (c3 : w.cell? ⟨b, off + 3, none⟩ = some (.int .u8 x3)) (c4 : w.cell? ⟨b, off + 4, none⟩ = some (.int .u8 x4)) (c5 : w.cell? ⟨b, off + 5, none⟩ = some (.int .u8 x5)) (c6 : w.cell? ⟨b, off + 6, none⟩ = some (.int .u8 x6)) (c7 : w.cell? ⟨b, off + 7, none⟩ = some (.int .u8 x7)) (c8 : w.cell? ⟨b, off + 8, none⟩ = some (.int .u8 x8)) :
    Calls Tryd.prog 74 #[.slice (some ⟨b, off, none⟩) len cap] w fun e w' => GetEnd (((((((((f - 255) * 256 + x1) * 256 + x2) * 256 + x3) * 256 + x4) * 256 + x5) * 256 + x6) * 256 + x7) * 256 + x8) 9 e ∧ ∃ d, w' = w.drewN d := by
  have H : Hid (toldOf f = 9) := ht
  have hl : leadOf 9 = 255 := by decide +kernel
  have ha : bits .andNot .u8 f 255 = f - 255 := by rw [andNot_lead f 9 255 hf0 hf1 ht hl]
  clear ht
  unfold maxLen at hm
  have hne : ((len : Int) == 0) = false := by simp; omega
  have hge : ¬ (len : Int) < 9 := by omega
  have o1 : bits .or .u64 ((f - 255) * 256) x1 = (f - 255) * 256 + x1 := or_join _ _ (by omega) (by omega) p1 q1
  have o2 : bits .or .u64 (((f - 255) * 256 + x1) * 256) x2 = ((f - 255) * 256 + x1) * 256 + x2 := or_join _ _ (by omega) (by omega) p2 q2
  have o3 : bits .or .u64 ((((f - 255) * 256 + x1) * 256 + x2) * 256) x3 = (((f - 255) * 256 + x1) * 256 + x2) * 256 + x3 := or_join _ _ (by omega) (by omega) p3 q3
  have o4 : bits .or .u64 (((((f - 255) * 256 + x1) * 256 + x2) * 256 + x3) * 256) x4 = ((((f - 255) * 256 + x1) * 256 + x2) * 256 + x3) * 256 + x4 := or_join _ _ (by omega) (by omega) p4 q4
  have o5 : bits .or .u64 ((((((f - 255) * 256 + x1) * 256 + x2) * 256 + x3) * 256 + x4) * 256) x5 = (((((f - 255) * 256 + x1) * 256 + x2) * 256 + x3) * 256 + x4) * 256 + x5 := or_join _ _ (by omega) (by omega) p5 q5
  have o6 : bits .or .u64 (((((((f - 255) * 256 + x1) * 256 + x2) * 256 + x3) * 256 + x4) * 256 + x5) * 256) x6 = ((((((f - 255) * 256 + x1) * 256 + x2) * 256 + x3) * 256 + x4) * 256 + x5) * 256 + x6 := or_join _ _ (by omega) (by omega) p6 q6
  have o7 : bits .or .u64 ((((((((f - 255) * 256 + x1) * 256 + x2) * 256 + x3) * 256 + x4) * 256 + x5) * 256 + x6) * 256) x7 = (((((((f - 255) * 256 + x1) * 256 + x2) * 256 + x3) * 256 + x4) * 256 + x5) * 256 + x6) * 256 + x7 := or_join _ _ (by omega) (by omega) p7 q7
  have o8 : bits .or .u64 (((((((((f - 255) * 256 + x1) * 256 + x2) * 256 + x3) * 256 + x4) * 256 + x5) * 256 + x6) * 256 + x7) * 256) x8 = ((((((((f - 255) * 256 + x1) * 256 + x2) * 256 + x3) * 256 + x4) * 256 + x5) * 256 + x6) * 256 + x7) * 256 + x8 := or_join _ _ (by omega) (by omega) p8 q8
  by_cases hs : sizeOf (((((((((f - 255) * 256 + x1) * 256 + x2) * 256 + x3) * 256 + x4) * 256 + x5) * 256 + x6) * 256 + x7) * 256 + x8) < 9
  all_goals
    go_enter Tryd.func74, Tryd.ntmps74
    go_wp2_with fail
    refine (told_any f _ hf0 hf1).mono ?_
    rintro e w' ⟨rfl, rfl⟩
    rw [H.out]
    go_wp2_with fail
    go_quiet ((go_at_call 73; exact Calls.quiet_of_same (lead_any _ _ (by omega) (by omega))))
    go_wp2_with fail
    refine wp_loop_rounds 9 ?_
    rw [rounds_succ]
    go_wp2
    rw [rounds_succ]
    go_wp2
    rw [rounds_succ]
    go_wp2
    rw [rounds_succ]
    go_wp2
    rw [rounds_succ]
    go_wp2
    rw [rounds_succ]
    go_wp2
    rw [rounds_succ]
    go_wp2
    rw [rounds_succ]
    go_wp2
    rw [rounds_succ]
    go_wp2_with fail
    refine (size_any (((((((((f - 255) * 256 + x1) * 256 + x2) * 256 + x3) * 256 + x4) * 256 + x5) * 256 + x6) * 256 + x7) * 256 + x8) _ (by omega) (by omega)).mono ?_
    rintro e w2 ⟨rfl, rfl⟩
    go_wp2
    go_ret3
  · exact ⟨GetEnd.bad hs, _, rfl⟩
  · exact ⟨GetEnd.good (by omega), _, rfl⟩

end Go.Proofs.YtpjmieiajhhbaaaDoor

/- varint.Get, whole: for any octets in a slice it returns what 'getOf' says. -/
namespace Go.Proofs.YtpjmieiajhhbaaaDoor
open Go.RowKit
set_option linter.unusedVariables false

/-- Get's three answers. -/
def getRet (l : List Int) : Value := .tuple #[.int .u64 (getOf l).1, .int .i64 (getOf l).2.1, .int .i64 (getOf l).2.2]

theorem getRet_short (f : Int) (r : List Int) (h : ((r.length : Int) + 1) < toldOf f) : getRet (f :: r) = .tuple #[.int .u64 0, .int .i64 0, .int .i64 8] := by
  simp only [getRet, getOf, if_pos h]
theorem getRet_bad (f : Int) (r : List Int) (k N : Int) (ht : toldOf f = k) (hl : ¬ ((r.length : Int) + 1) < k) (hN : acc (f - leadOf k) (r.take (k - 1).toNat) = N) (h : sizeOf N < k) : getRet (f :: r) = .tuple #[.int .u64 0, .int .i64 0, .int .i64 4] := by
  subst ht; subst hN
  simp only [getRet, getOf, if_neg hl, if_pos h]
theorem getRet_good (f : Int) (r : List Int) (k N : Int) (ht : toldOf f = k) (hl : ¬ ((r.length : Int) + 1) < k) (hN : acc (f - leadOf k) (r.take (k - 1).toNat) = N) (h : ¬ sizeOf N < k) : getRet (f :: r) = .tuple #[.int .u64 N, .int .i64 k, .int .i64 0] := by
  subst ht; subst hN
  simp only [getRet, getOf, if_neg hl, if_neg h]
theorem cons_of {r : List Int} (h : 0 < r.length) : ∃ x t, r = x :: t := by
  cases r with
  | nil => simp at h
  | cons x t => exact ⟨x, t, rfl⟩

theorem get_empty (a : Option Addr) (cap : Nat) (w : World) :
    Calls Tryd.prog 74 #[.slice a 0 cap] w fun e w' => e = .returned (.tuple #[.int .u64 0, .int .i64 0, .int .i64 8]) ∧ ∃ d, w' = w.drewN d := by
  go_enter Tryd.func74, Tryd.ntmps74
  go_wp2
  go_ret3
  exact ⟨rfl, 0, rfl⟩

theorem get_short (f k : Int) (b off len cap : Nat) (w : World) (hlen : 0 < len) (hcap : len ≤ cap) (hm : cap ≤ maxLen) (hf0 : 0 ≤ f) (hf1 : f ≤ 255) (ht : toldOf f = k) (hk : (len : Int) < k) (hk9 : k ≤ 9)
    (c0 : w.cell? ⟨b, off, none⟩ = some (.int .u8 f)) :
    Calls Tryd.prog 74 #[.slice (some ⟨b, off, none⟩) len cap] w fun e w' => e = .returned (.tuple #[.int .u64 0, .int .i64 0, .int .i64 8]) ∧ ∃ d, w' = w.drewN d := by
  have H : Hid (toldOf f = k) := ht
  clear ht
  unfold maxLen at hm
  have hne : ((len : Int) == 0) = false := by simp; omega
  go_enter Tryd.func74, Tryd.ntmps74
  go_wp2_with fail
  refine (told_any f _ hf0 hf1).mono ?_
  rintro e w' ⟨rfl, rfl⟩
  rw [H.out]
  go_wp2
  go_ret3
  exact ⟨rfl, 0, rfl⟩

theorem get_any (l : List Int) (v : Value) (w : World) (hv : Octs w v l) :
    Calls Tryd.prog 74 #[v] w fun e w' => e = .returned (getRet l) ∧ ∃ d, w' = w.drewN d := by
  obtain ⟨hx, hv⟩ := hv
  rcases hv with ⟨rfl, a, cap, rfl, _⟩ | ⟨hne, b, off, cap, rfl, hcap, hm, hc⟩
  · exact get_empty a cap w
  obtain ⟨f, r, rfl⟩ : ∃ f r, l = f :: r := cons_of (List.length_pos_iff.2 hne)
  have hf := hx f (by simp)
  have c0 : w.cell? ⟨b, off, none⟩ = some (.int .u8 f) := hc 0 f rfl
  simp only [List.length_cons] at hcap
  by_cases hsh : ((r.length : Int) + 1) < toldOf f
  · have hk9 : toldOf f ≤ 9 := by unfold toldOf; have := bl_nonneg (255 - f); omega
    rw [getRet_short f r hsh]
    exact get_short f (toldOf f) b off (r.length + 1) cap w (by omega) hcap hm hf.1 hf.2 rfl (by omega) hk9 c0
  rcases told_cases f hf.1 hf.2 with ⟨ht, hlo, hhi⟩ | ⟨ht, hlo, hhi⟩ | ⟨ht, hlo, hhi⟩ | ⟨ht, hlo, hhi⟩ | ⟨ht, hlo, hhi⟩ | ⟨ht, hlo, hhi⟩ | ⟨ht, hlo, hhi⟩ | ⟨ht, hlo, hhi⟩ | ⟨ht, hlo, hhi⟩
  · rw [ht] at hsh
    have hN : acc (f - leadOf 1) ((r).take ((1 : Int) - 1).toNat) = f := by rw [show leadOf 1 = 0 by decide +kernel]; simp [acc]
    have hl2 : 1 ≤ (r).length + 1 := by omega
    refine (get1 f  b off ((r).length + 1) cap w hl2 hcap hm hf.1 hf.2 ht hlo hhi  c0 ).mono ?_
    rintro e w' ⟨hE, hd⟩
    refine ⟨?_, hd⟩
    rcases hE with ⟨h, rfl⟩ | ⟨h, rfl⟩
    · rw [getRet_bad f (r) 1 _ ht hsh hN h]
    · rw [getRet_good f (r) 1 _ ht hsh hN h]
  · rw [ht] at hsh
    obtain ⟨x1, r1, rfl⟩ : ∃ x t, r = x :: t := cons_of (by omega)
    have hx1 := hx x1 (by simp)
    have c1 : w.cell? ⟨b, off + 1, none⟩ = some (.int .u8 x1) := hc 1 x1 rfl
    have hN : acc (f - leadOf 2) ((x1 :: r1).take ((2 : Int) - 1).toNat) = (f - 128) * 256 + x1 := by rw [show leadOf 2 = 128 by decide +kernel]; rfl
    have hl2 : 2 ≤ (x1 :: r1).length + 1 := by omega
    refine (get2 f x1 b off ((x1 :: r1).length + 1) cap w hl2 hcap hm hf.1 hf.2 ht hlo hhi hx1.1 hx1.2 c0 c1).mono ?_
    rintro e w' ⟨hE, hd⟩
    refine ⟨?_, hd⟩
    rcases hE with ⟨h, rfl⟩ | ⟨h, rfl⟩
    · rw [getRet_bad f (x1 :: r1) 2 _ ht hsh hN h]
    · rw [getRet_good f (x1 :: r1) 2 _ ht hsh hN h]
  · rw [ht] at hsh
    obtain ⟨x1, r1, rfl⟩ : ∃ x t, r = x :: t := cons_of (by omega)
    obtain ⟨x2, r2, rfl⟩ : ∃ x t, r1 = x :: t := cons_of (by simp only [List.length_cons] at hsh; omega)
    have hx1 := hx x1 (by simp)
    have c1 : w.cell? ⟨b, off + 1, none⟩ = some (.int .u8 x1) := hc 1 x1 rfl
    have hx2 := hx x2 (by simp)
    have c2 : w.cell? ⟨b, off + 2, none⟩ = some (.int .u8 x2) := hc 2 x2 rfl
    have hN : acc (f - leadOf 3) ((x1 :: x2 :: r2).take ((3 : Int) - 1).toNat) = ((f - 192) * 256 + x1) * 256 + x2 := by rw [show leadOf 3 = 192 by decide +kernel]; rfl
    have hl2 : 3 ≤ (x1 :: x2 :: r2).length + 1 := by omega
    refine (get3 f x1 x2 b off ((x1 :: x2 :: r2).length + 1) cap w hl2 hcap hm hf.1 hf.2 ht hlo hhi hx1.1 hx1.2 hx2.1 hx2.2 c0 c1 c2).mono ?_
    rintro e w' ⟨hE, hd⟩
    refine ⟨?_, hd⟩
    rcases hE with ⟨h, rfl⟩ | ⟨h, rfl⟩
    · rw [getRet_bad f (x1 :: x2 :: r2) 3 _ ht hsh hN h]
    · rw [getRet_good f (x1 :: x2 :: r2) 3 _ ht hsh hN h]
  · rw [ht] at hsh
    obtain ⟨x1, r1, rfl⟩ : ∃ x t, r = x :: t := cons_of (by omega)
    obtain ⟨x2, r2, rfl⟩ : ∃ x t, r1 = x :: t := cons_of (by simp only [List.length_cons] at hsh; omega)
    obtain ⟨x3, r3, rfl⟩ : ∃ x t, r2 = x :: t := cons_of (by simp only [List.length_cons] at hsh; omega)
    have hx1 := hx x1 (by simp)
    have c1 : w.cell? ⟨b, off + 1, none⟩ = some (.int .u8 x1) := hc 1 x1 rfl
    have hx2 := hx x2 (by simp)
    have c2 : w.cell? ⟨b, off + 2, none⟩ = some (.int .u8 x2) := hc 2 x2 rfl
    have hx3 := hx x3 (by simp)
    have c3 : w.cell? ⟨b, off + 3, none⟩ = some (.int .u8 x3) := hc 3 x3 rfl
    have hN : acc (f - leadOf 4) ((x1 :: x2 :: x3 :: r3).take ((4 : Int) - 1).toNat) = (((f - 224) * 256 + x1) * 256 + x2) * 256 + x3 := by rw [show leadOf 4 = 224 by decide +kernel]; rfl
    have hl2 : 4 ≤ (x1 :: x2 :: x3 :: r3).length + 1 := by omega
    refine (get4 f x1 x2 x3 b off ((x1 :: x2 :: x3 :: r3).length + 1) cap w hl2 hcap hm hf.1 hf.2 ht hlo hhi hx1.1 hx1.2 hx2.1 hx2.2 hx3.1 hx3.2 c0 c1 c2 c3).mono ?_
    rintro e w' ⟨hE, hd⟩
    refine ⟨?_, hd⟩
    rcases hE with ⟨h, rfl⟩ | ⟨h, rfl⟩
    · rw [getRet_bad f (x1 :: x2 :: x3 :: r3) 4 _ ht hsh hN h]
    · rw [getRet_good f (x1 :: x2 :: x3 :: r3) 4 _ ht hsh hN h]
  · rw [ht] at hsh
    obtain ⟨x1, r1, rfl⟩ : ∃ x t, r = x :: t := cons_of (by omega)
    obtain ⟨x2, r2, rfl⟩ : ∃ x t, r1 = x :: t := cons_of (by simp only [List.length_cons] at hsh; omega)
    obtain ⟨x3, r3, rfl⟩ : ∃ x t, r2 = x :: t := cons_of (by simp only [List.length_cons] at hsh; omega)
    obtain ⟨x4, r4, rfl⟩ : ∃ x t, r3 = x :: t := cons_of (by simp only [List.length_cons] at hsh; omega)
    have hx1 := hx x1 (by simp)
    have c1 : w.cell? ⟨b, off + 1, none⟩ = some (.int .u8 x1) := hc 1 x1 rfl
    have hx2 := hx x2 (by simp)
    have c2 : w.cell? ⟨b, off + 2, none⟩ = some (.int .u8 x2) := hc 2 x2 rfl
    have hx3 := hx x3 (by simp)
    have c3 : w.cell? ⟨b, off + 3, none⟩ = some (.int .u8 x3) := hc 3 x3 rfl
    have hx4 := hx x4 (by simp)
    have c4 : w.cell? ⟨b, off + 4, none⟩ = some (.int .u8 x4) := hc 4 x4 rfl
    have hN : acc (f - leadOf 5) ((x1 :: x2 :: x3 :: x4 :: r4).take ((5 : Int) - 1).toNat) = ((((f - 240) * 256 + x1) * 256 + x2) * 256 + x3) * 256 + x4 := by rw [show leadOf 5 = 240 by decide +kernel]; rfl
    have hl2 : 5 ≤ (x1 :: x2 :: x3 :: x4 :: r4).length + 1 := by omega
    refine (get5 f x1 x2 x3 x4 b off ((x1 :: x2 :: x3 :: x4 :: r4).length + 1) cap w hl2 hcap hm hf.1 hf.2 ht hlo hhi hx1.1 hx1.2 hx2.1 hx2.2 hx3.1 hx3.2 hx4.1 hx4.2 c0 c1 c2 c3 c4).mono ?_
    rintro e w' ⟨hE, hd⟩
    refine ⟨?_, hd⟩
    rcases hE with ⟨h, rfl⟩ | ⟨h, rfl⟩
    · rw [getRet_bad f (x1 :: x2 :: x3 :: x4 :: r4) 5 _ ht hsh hN h]
    · rw [getRet_good f (x1 :: x2 :: x3 :: x4 :: r4) 5 _ ht hsh hN h]
  · rw [ht] at hsh
    obtain ⟨x1, r1, rfl⟩ : ∃ x t, r = x :: t := cons_of (by omega)
    obtain ⟨x2, r2, rfl⟩ : ∃ x t, r1 = x :: t := cons_of (by simp only [List.length_cons] at hsh; omega)
    obtain ⟨x3, r3, rfl⟩ : ∃ x t, r2 = x :: t := cons_of (by simp only [List.length_cons] at hsh; omega)
    obtain ⟨x4, r4, rfl⟩ : ∃ x t, r3 = x :: t := cons_of (by simp only [List.length_cons] at hsh; omega)
    obtain ⟨x5, r5, rfl⟩ : ∃ x t, r4 = x :: t := cons_of (by simp only [List.length_cons] at hsh; omega)
    have hx1 := hx x1 (by simp)
    have c1 : w.cell? ⟨b, off + 1, none⟩ = some (.int .u8 x1) := hc 1 x1 rfl
    have hx2 := hx x2 (by simp)
    have c2 : w.cell? ⟨b, off + 2, none⟩ = some (.int .u8 x2) := hc 2 x2 rfl
    have hx3 := hx x3 (by simp)
    have c3 : w.cell? ⟨b, off + 3, none⟩ = some (.int .u8 x3) := hc 3 x3 rfl
    have hx4 := hx x4 (by simp)
    have c4 : w.cell? ⟨b, off + 4, none⟩ = some (.int .u8 x4) := hc 4 x4 rfl
    have hx5 := hx x5 (by simp)
    have c5 : w.cell? ⟨b, off + 5, none⟩ = some (.int .u8 x5) := hc 5 x5 rfl
    have hN : acc (f - leadOf 6) ((x1 :: x2 :: x3 :: x4 :: x5 :: r5).take ((6 : Int) - 1).toNat) = (((((f - 248) * 256 + x1) * 256 + x2) * 256 + x3) * 256 + x4) * 256 + x5 := by rw [show leadOf 6 = 248 by decide +kernel]; rfl
    have hl2 : 6 ≤ (x1 :: x2 :: x3 :: x4 :: x5 :: r5).length + 1 := by omega
    refine (get6 f x1 x2 x3 x4 x5 b off ((x1 :: x2 :: x3 :: x4 :: x5 :: r5).length + 1) cap w hl2 hcap hm hf.1 hf.2 ht hlo hhi hx1.1 hx1.2 hx2.1 hx2.2 hx3.1 hx3.2 hx4.1 hx4.2 hx5.1 hx5.2 c0 c1 c2 c3 c4 c5).mono ?_
    rintro e w' ⟨hE, hd⟩
    refine ⟨?_, hd⟩
    rcases hE with ⟨h, rfl⟩ | ⟨h, rfl⟩
    · rw [getRet_bad f (x1 :: x2 :: x3 :: x4 :: x5 :: r5) 6 _ ht hsh hN h]
    · rw [getRet_good f (x1 :: x2 :: x3 :: x4 :: x5 :: r5) 6 _ ht hsh hN h]
  · rw [ht] at hsh
    obtain ⟨x1, r1, rfl⟩ : ∃ x t, r = x :: t := cons_of (by omega)
    obtain ⟨x2, r2, rfl⟩ : ∃ x t, r1 = x :: t := cons_of (by simp only [List.length_cons] at hsh; omega)
    obtain ⟨x3, r3, rfl⟩ : ∃ x t, r2 = x :: t := cons_of (by simp only [List.length_cons] at hsh; omega)
    obtain ⟨x4, r4, rfl⟩ : ∃ x t, r3 = x :: t := cons_of (by simp only [List.length_cons] at hsh; omega)
    obtain ⟨x5, r5, rfl⟩ : ∃ x t, r4 = x :: t := cons_of (by simp only [List.length_cons] at hsh; omega)
    obtain ⟨x6, r6, rfl⟩ : ∃ x t, r5 = x :: t := cons_of (by simp only [List.length_cons] at hsh; omega)
    have hx1 := hx x1 (by simp)
    have c1 : w.cell? ⟨b, off + 1, none⟩ = some (.int .u8 x1) := hc 1 x1 rfl
    have hx2 := hx x2 (by simp)
    have c2 : w.cell? ⟨b, off + 2, none⟩ = some (.int .u8 x2) := hc 2 x2 rfl
    have hx3 := hx x3 (by simp)
    have c3 : w.cell? ⟨b, off + 3, none⟩ = some (.int .u8 x3) := hc 3 x3 rfl
    have hx4 := hx x4 (by simp)
    have c4 : w.cell? ⟨b, off + 4, none⟩ = some (.int .u8 x4) := hc 4 x4 rfl
    have hx5 := hx x5 (by simp)
    have c5 : w.cell? ⟨b, off + 5, none⟩ = some (.int .u8 x5) := hc 5 x5 rfl
    have hx6 := hx x6 (by simp)
    have c6 : w.cell? ⟨b, off + 6, none⟩ = some (.int .u8 x6) := hc 6 x6 rfl
    have hN : acc (f - leadOf 7) ((x1 :: x2 :: x3 :: x4 :: x5 :: x6 :: r6).take ((7 : Int) - 1).toNat) = ((((((f - 252) * 256 + x1) * 256 + x2) * 256 + x3) * 256 + x4) * 256 + x5) * 256 + x6 := by rw [show leadOf 7 = 252 by decide +kernel]; rfl
    have hl2 : 7 ≤ (x1 :: x2 :: x3 :: x4 :: x5 :: x6 :: r6).length + 1 := by omega
    refine (get7 f x1 x2 x3 x4 x5 x6 b off ((x1 :: x2 :: x3 :: x4 :: x5 :: x6 :: r6).length + 1) cap w hl2 hcap hm hf.1 hf.2 ht hlo hhi hx1.1 hx1.2 hx2.1 hx2.2 hx3.1 hx3.2 hx4.1 hx4.2 hx5.1 hx5.2 hx6.1 hx6.2 c0 c1 c2 c3 c4 c5 c6).mono ?_
    rintro e w' ⟨hE, hd⟩
    refine ⟨?_, hd⟩
    rcases hE with ⟨h, rfl⟩ | ⟨h, rfl⟩
    · rw [getRet_bad f (x1 :: x2 :: x3 :: x4 :: x5 :: x6 :: r6) 7 _ ht hsh hN h]
    · rw [getRet_good f (x1 :: x2 :: x3 :: x4 :: x5 :: x6 :: r6) 7 _ ht hsh hN h]
  · rw [ht] at hsh
    obtain ⟨x1, r1, rfl⟩ : ∃ x t, r = x :: t := cons_of (by omega)
    obtain ⟨x2, r2, rfl⟩ : ∃ x t, r1 = x :: t := cons_of (by simp only [List.length_cons] at hsh; omega)
    obtain ⟨x3, r3, rfl⟩ : ∃ x t, r2 = x :: t := cons_of (by simp only [List.length_cons] at hsh; omega)
    obtain ⟨x4, r4, rfl⟩ : ∃ x t, r3 = x :: t := cons_of (by simp only [List.length_cons] at hsh; omega)
    obtain ⟨x5, r5, rfl⟩ : ∃ x t, r4 = x :: t := cons_of (by simp only [List.length_cons] at hsh; omega)
    obtain ⟨x6, r6, rfl⟩ : ∃ x t, r5 = x :: t := cons_of (by simp only [List.length_cons] at hsh; omega)
    obtain ⟨x7, r7, rfl⟩ : ∃ x t, r6 = x :: t := cons_of (by simp only [List.length_cons] at hsh; omega)
    have hx1 := hx x1 (by simp)
    have c1 : w.cell? ⟨b, off + 1, none⟩ = some (.int .u8 x1) := hc 1 x1 rfl
    have hx2 := hx x2 (by simp)
    have c2 : w.cell? ⟨b, off + 2, none⟩ = some (.int .u8 x2) := hc 2 x2 rfl
    have hx3 := hx x3 (by simp)
    have c3 : w.cell? ⟨b, off + 3, none⟩ = some (.int .u8 x3) := hc 3 x3 rfl
    have hx4 := hx x4 (by simp)
    have c4 : w.cell? ⟨b, off + 4, none⟩ = some (.int .u8 x4) := hc 4 x4 rfl
    have hx5 := hx x5 (by simp)
    have c5 : w.cell? ⟨b, off + 5, none⟩ = some (.int .u8 x5) := hc 5 x5 rfl
    have hx6 := hx x6 (by simp)
    have c6 : w.cell? ⟨b, off + 6, none⟩ = some (.int .u8 x6) := hc 6 x6 rfl
    have hx7 := hx x7 (by simp)
    have c7 : w.cell? ⟨b, off + 7, none⟩ = some (.int .u8 x7) := hc 7 x7 rfl
    have hN : acc (f - leadOf 8) ((x1 :: x2 :: x3 :: x4 :: x5 :: x6 :: x7 :: r7).take ((8 : Int) - 1).toNat) = (((((((f - 254) * 256 + x1) * 256 + x2) * 256 + x3) * 256 + x4) * 256 + x5) * 256 + x6) * 256 + x7 := by rw [show leadOf 8 = 254 by decide +kernel]; rfl
    have hl2 : 8 ≤ (x1 :: x2 :: x3 :: x4 :: x5 :: x6 :: x7 :: r7).length + 1 := by omega
    refine (get8 f x1 x2 x3 x4 x5 x6 x7 b off ((x1 :: x2 :: x3 :: x4 :: x5 :: x6 :: x7 :: r7).length + 1) cap w hl2 hcap hm hf.1 hf.2 ht hlo hhi hx1.1 hx1.2 hx2.1 hx2.2 hx3.1 hx3.2 hx4.1 hx4.2 hx5.1 hx5.2 hx6.1 hx6.2 hx7.1 hx7.2 c0 c1 c2 c3 c4 c5 c6 c7).mono ?_
    rintro e w' ⟨hE, hd⟩
    refine ⟨?_, hd⟩
    rcases hE with ⟨h, rfl⟩ | ⟨h, rfl⟩
    · rw [getRet_bad f (x1 :: x2 :: x3 :: x4 :: x5 :: x6 :: x7 :: r7) 8 _ ht hsh hN h]
    · rw [getRet_good f (x1 :: x2 :: x3 :: x4 :: x5 :: x6 :: x7 :: r7) 8 _ ht hsh hN h]
  · rw [ht] at hsh
    obtain ⟨x1, r1, rfl⟩ : ∃ x t, r = x :: t := cons_of (by omega)
    obtain ⟨x2, r2, rfl⟩ : ∃ x t, r1 = x :: t := cons_of (by simp only [List.length_cons] at hsh; omega)
    obtain ⟨x3, r3, rfl⟩ : ∃ x t, r2 = x :: t := cons_of (by simp only [List.length_cons] at hsh; omega)
    obtain ⟨x4, r4, rfl⟩ : ∃ x t, r3 = x :: t := cons_of (by simp only [List.length_cons] at hsh; omega)
    obtain ⟨x5, r5, rfl⟩ : ∃ x t, r4 = x :: t := cons_of (by simp only [List.length_cons] at hsh; omega)
    obtain ⟨x6, r6, rfl⟩ : ∃ x t, r5 = x :: t := cons_of (by simp only [List.length_cons] at hsh; omega)
    obtain ⟨x7, r7, rfl⟩ : ∃ x t, r6 = x :: t := cons_of (by simp only [List.length_cons] at hsh; omega)
    obtain ⟨x8, r8, rfl⟩ : ∃ x t, r7 = x :: t := cons_of (by simp only [List.length_cons] at hsh; omega)
    have hx1 := hx x1 (by simp)
    have c1 : w.cell? ⟨b, off + 1, none⟩ = some (.int .u8 x1) := hc 1 x1 rfl
    have hx2 := hx x2 (by simp)
    have c2 : w.cell? ⟨b, off + 2, none⟩ = some (.int .u8 x2) := hc 2 x2 rfl
    have hx3 := hx x3 (by simp)
    have c3 : w.cell? ⟨b, off + 3, none⟩ = some (.int .u8 x3) := hc 3 x3 rfl
    have hx4 := hx x4 (by simp)
    have c4 : w.cell? ⟨b, off + 4, none⟩ = some (.int .u8 x4) := hc 4 x4 rfl
    have hx5 := hx x5 (by simp)
    have c5 : w.cell? ⟨b, off + 5, none⟩ = some (.int .u8 x5) := hc 5 x5 rfl
    have hx6 := hx x6 (by simp)
    have c6 : w.cell? ⟨b, off + 6, none⟩ = some (.int .u8 x6) := hc 6 x6 rfl
    have hx7 := hx x7 (by simp)
    have c7 : w.cell? ⟨b, off + 7, none⟩ = some (.int .u8 x7) := hc 7 x7 rfl
    have hx8 := hx x8 (by simp)
    have c8 : w.cell? ⟨b, off + 8, none⟩ = some (.int .u8 x8) := hc 8 x8 rfl
    have hN : acc (f - leadOf 9) ((x1 :: x2 :: x3 :: x4 :: x5 :: x6 :: x7 :: x8 :: r8).take ((9 : Int) - 1).toNat) = ((((((((f - 255) * 256 + x1) * 256 + x2) * 256 + x3) * 256 + x4) * 256 + x5) * 256 + x6) * 256 + x7) * 256 + x8 := by rw [show leadOf 9 = 255 by decide +kernel]; rfl
    have hl2 : 9 ≤ (x1 :: x2 :: x3 :: x4 :: x5 :: x6 :: x7 :: x8 :: r8).length + 1 := by omega
    refine (get9 f x1 x2 x3 x4 x5 x6 x7 x8 b off ((x1 :: x2 :: x3 :: x4 :: x5 :: x6 :: x7 :: x8 :: r8).length + 1) cap w hl2 hcap hm hf.1 hf.2 ht hlo hhi hx1.1 hx1.2 hx2.1 hx2.2 hx3.1 hx3.2 hx4.1 hx4.2 hx5.1 hx5.2 hx6.1 hx6.2 hx7.1 hx7.2 hx8.1 hx8.2 c0 c1 c2 c3 c4 c5 c6 c7 c8).mono ?_
    rintro e w' ⟨hE, hd⟩
    refine ⟨?_, hd⟩
    rcases hE with ⟨h, rfl⟩ | ⟨h, rfl⟩
    · rw [getRet_bad f (x1 :: x2 :: x3 :: x4 :: x5 :: x6 :: x7 :: x8 :: r8) 9 _ ht hsh hN h]
    · rw [getRet_good f (x1 :: x2 :: x3 :: x4 :: x5 :: x6 :: x7 :: x8 :: r8) 9 _ ht hsh hN h]
end Go.Proofs.YtpjmieiajhhbaaaDoor

/- Of a number's octets: the first one tells how many there are; read octet by octet they are the number again; what is cut off ahead of its end is told to be short. Plain lists and numbers, no Go; the number fits uint64. -/
namespace Go.Proofs.YtpjmieiajhhbaaaDoor
open Go.RowKit
set_option linter.unusedVariables false

theorem all_cons {p : Int → Prop} {a : Int} {l : List Int} (h : p a) (hl : ∀ x ∈ l, p x) : ∀ x ∈ a :: l, p x := by
  intro x hx
  rcases List.mem_cons.1 hx with rfl | hx
  · exact h
  · exact hl x hx
theorem all_nil {p : Int → Prop} : ∀ x ∈ ([] : List Int), p x := by
  intro x hx
  cases hx

theorem told_of (f k lo hi : Int) (h0 : 0 ≤ f) (h1 : f ≤ 255) (hk : (lo = 0 ∧ hi = 127 ∧ k = 1) ∨ (lo = 128 ∧ hi = 191 ∧ k = 2) ∨ (lo = 192 ∧ hi = 223 ∧ k = 3) ∨ (lo = 224 ∧ hi = 239 ∧ k = 4) ∨ (lo = 240 ∧ hi = 247 ∧ k = 5) ∨ (lo = 248 ∧ hi = 251 ∧ k = 6) ∨ (lo = 252 ∧ hi = 253 ∧ k = 7) ∨ (lo = 254 ∧ hi = 254 ∧ k = 8) ∨ (lo = 255 ∧ hi = 255 ∧ k = 9)) (hl : lo ≤ f) (hh : f ≤ hi) : toldOf f = k := by
  rcases told_cases f h0 h1 with ⟨h, a, b⟩ | ⟨h, a, b⟩ | ⟨h, a, b⟩ | ⟨h, a, b⟩ | ⟨h, a, b⟩ | ⟨h, a, b⟩ | ⟨h, a, b⟩ | ⟨h, a, b⟩ | ⟨h, a, b⟩ <;> rw [h] <;> clear h <;> omega

/-- What is to be known of n's octets. -/
structure Form (n : Int) (l : List Int) : Prop where
  size : (l.length : Int) = sizeOf n
  octet : ∀ x ∈ l, 0 ≤ x ∧ x ≤ 255
  first : ∃ f r, l = f :: r ∧ toldOf f = sizeOf n ∧ acc (f - leadOf (sizeOf n)) r = n


theorem form1 (n : Int) (h0 : 0 ≤ n) (h1 : n ≤ 127) (hs : sizeOf n = 1) : Form n (octs n 1) := by
  refine ⟨by rw [hs]; rfl, ?_, n, [], rfl, ?_, ?_⟩
  · exact all_cons (by omega) (all_nil)
  · rw [hs]; exact told_of (n) 1 0 127 (by omega) (by omega) (by decide) (by omega) (by omega)
  · rw [hs, show leadOf 1 = 0 by decide +kernel]
    show (n - 0) = n
    rw [show n - 0 = n by omega]

theorem form2 (n : Int) (h0 : 128 ≤ n) (h1 : n ≤ 16383) (hs : sizeOf n = 2) : Form n (octs n 2) := by
  refine ⟨by rw [hs]; rfl, ?_, 128 + n / 256, [n % 256], rfl, ?_, ?_⟩
  · exact all_cons (by omega) (all_cons (by omega) (all_nil))
  · rw [hs]; exact told_of (128 + n / 256) 2 128 191 (by omega) (by omega) (by decide) (by omega) (by omega)
  · rw [hs, show leadOf 2 = 128 by decide +kernel]
    show ((128 + n / 256 - 128)) * 256 + n % 256 = n
    rw [show 128 + n / 256 - 128 = n / 256 by omega, show (n / 256) * 256 + n % 256 = n by omega]

theorem form3 (n : Int) (h0 : 16384 ≤ n) (h1 : n ≤ 2097151) (hs : sizeOf n = 3) : Form n (octs n 3) := by
  refine ⟨by rw [hs]; rfl, ?_, 192 + n / 65536, [n / 256 % 256, n % 256], rfl, ?_, ?_⟩
  · exact all_cons (by omega) (all_cons (by omega) (all_cons (by omega) (all_nil)))
  · rw [hs]; exact told_of (192 + n / 65536) 3 192 223 (by omega) (by omega) (by decide) (by omega) (by omega)
  · rw [hs, show leadOf 3 = 192 by decide +kernel]
    show (((192 + n / 65536 - 192)) * 256 + n / 256 % 256) * 256 + n % 256 = n
    rw [show 192 + n / 65536 - 192 = n / 65536 by omega, show (n / 65536) * 256 + n / 256 % 256 = n / 256 by omega, show (n / 256) * 256 + n % 256 = n by omega]

theorem form4 (n : Int) (h0 : 2097152 ≤ n) (h1 : n ≤ 268435455) (hs : sizeOf n = 4) : Form n (octs n 4) := by
  refine ⟨by rw [hs]; rfl, ?_, 224 + n / 16777216, [n / 65536 % 256, n / 256 % 256, n % 256], rfl, ?_, ?_⟩
  · exact all_cons (by omega) (all_cons (by omega) (all_cons (by omega) (all_cons (by omega) (all_nil))))
  · rw [hs]; exact told_of (224 + n / 16777216) 4 224 239 (by omega) (by omega) (by decide) (by omega) (by omega)
  · rw [hs, show leadOf 4 = 224 by decide +kernel]
    show ((((224 + n / 16777216 - 224)) * 256 + n / 65536 % 256) * 256 + n / 256 % 256) * 256 + n % 256 = n
    rw [show 224 + n / 16777216 - 224 = n / 16777216 by omega, show (n / 16777216) * 256 + n / 65536 % 256 = n / 65536 by omega, show (n / 65536) * 256 + n / 256 % 256 = n / 256 by omega, show (n / 256) * 256 + n % 256 = n by omega]

theorem form5 (n : Int) (h0 : 268435456 ≤ n) (h1 : n ≤ 34359738367) (hs : sizeOf n = 5) : Form n (octs n 5) := by
  refine ⟨by rw [hs]; rfl, ?_, 240 + n / 4294967296, [n / 16777216 % 256, n / 65536 % 256, n / 256 % 256, n % 256], rfl, ?_, ?_⟩
  · exact all_cons (by omega) (all_cons (by omega) (all_cons (by omega) (all_cons (by omega) (all_cons (by omega) (all_nil)))))
  · rw [hs]; exact told_of (240 + n / 4294967296) 5 240 247 (by omega) (by omega) (by decide) (by omega) (by omega)
  · rw [hs, show leadOf 5 = 240 by decide +kernel]
    show (((((240 + n / 4294967296 - 240)) * 256 + n / 16777216 % 256) * 256 + n / 65536 % 256) * 256 + n / 256 % 256) * 256 + n % 256 = n
    rw [show 240 + n / 4294967296 - 240 = n / 4294967296 by omega, show (n / 4294967296) * 256 + n / 16777216 % 256 = n / 16777216 by omega, show (n / 16777216) * 256 + n / 65536 % 256 = n / 65536 by omega, show (n / 65536) * 256 + n / 256 % 256 = n / 256 by omega, show (n / 256) * 256 + n % 256 = n by omega]

theorem form6 (n : Int) (h0 : 34359738368 ≤ n) (h1 : n ≤ 4398046511103) (hs : sizeOf n = 6) : Form n (octs n 6) := by
  refine ⟨by rw [hs]; rfl, ?_, 248 + n / 1099511627776, [n / 4294967296 % 256, n / 16777216 % 256, n / 65536 % 256, n / 256 % 256, n % 256], rfl, ?_, ?_⟩
  · exact all_cons (by omega) (all_cons (by omega) (all_cons (by omega) (all_cons (by omega) (all_cons (by omega) (all_cons (by omega) (all_nil))))))
  · rw [hs]; exact told_of (248 + n / 1099511627776) 6 248 251 (by omega) (by omega) (by decide) (by omega) (by omega)
  · rw [hs, show leadOf 6 = 248 by decide +kernel]
    show ((((((248 + n / 1099511627776 - 248)) * 256 + n / 4294967296 % 256) * 256 + n / 16777216 % 256) * 256 + n / 65536 % 256) * 256 + n / 256 % 256) * 256 + n % 256 = n
    rw [show 248 + n / 1099511627776 - 248 = n / 1099511627776 by omega, show (n / 1099511627776) * 256 + n / 4294967296 % 256 = n / 4294967296 by omega, show (n / 4294967296) * 256 + n / 16777216 % 256 = n / 16777216 by omega, show (n / 16777216) * 256 + n / 65536 % 256 = n / 65536 by omega, show (n / 65536) * 256 + n / 256 % 256 = n / 256 by omega, show (n / 256) * 256 + n % 256 = n by omega]

theorem form7 (n : Int) (h0 : 4398046511104 ≤ n) (h1 : n ≤ 562949953421311) (hs : sizeOf n = 7) : Form n (octs n 7) := by
  refine ⟨by rw [hs]; rfl, ?_, 252 + n / 281474976710656, [n / 1099511627776 % 256, n / 4294967296 % 256, n / 16777216 % 256, n / 65536 % 256, n / 256 % 256, n % 256], rfl, ?_, ?_⟩
  · exact all_cons (by omega) (all_cons (by omega) (all_cons (by omega) (all_cons (by omega) (all_cons (by omega) (all_cons (by omega) (all_cons (by omega) (all_nil)))))))
  · rw [hs]; exact told_of (252 + n / 281474976710656) 7 252 253 (by omega) (by omega) (by decide) (by omega) (by omega)
  · rw [hs, show leadOf 7 = 252 by decide +kernel]
    show (((((((252 + n / 281474976710656 - 252)) * 256 + n / 1099511627776 % 256) * 256 + n / 4294967296 % 256) * 256 + n / 16777216 % 256) * 256 + n / 65536 % 256) * 256 + n / 256 % 256) * 256 + n % 256 = n
    rw [show 252 + n / 281474976710656 - 252 = n / 281474976710656 by omega, show (n / 281474976710656) * 256 + n / 1099511627776 % 256 = n / 1099511627776 by omega, show (n / 1099511627776) * 256 + n / 4294967296 % 256 = n / 4294967296 by omega, show (n / 4294967296) * 256 + n / 16777216 % 256 = n / 16777216 by omega, show (n / 16777216) * 256 + n / 65536 % 256 = n / 65536 by omega, show (n / 65536) * 256 + n / 256 % 256 = n / 256 by omega, show (n / 256) * 256 + n % 256 = n by omega]

theorem form8 (n : Int) (h0 : 562949953421312 ≤ n) (h1 : n ≤ 72057594037927935) (hs : sizeOf n = 8) : Form n (octs n 8) := by
  refine ⟨by rw [hs]; rfl, ?_, 254 + n / 72057594037927936, [n / 281474976710656 % 256, n / 1099511627776 % 256, n / 4294967296 % 256, n / 16777216 % 256, n / 65536 % 256, n / 256 % 256, n % 256], rfl, ?_, ?_⟩
  · exact all_cons (by omega) (all_cons (by omega) (all_cons (by omega) (all_cons (by omega) (all_cons (by omega) (all_cons (by omega) (all_cons (by omega) (all_cons (by omega) (all_nil))))))))
  · rw [hs]; exact told_of (254 + n / 72057594037927936) 8 254 254 (by omega) (by omega) (by decide) (by omega) (by omega)
  · rw [hs, show leadOf 8 = 254 by decide +kernel]
    show ((((((((254 + n / 72057594037927936 - 254)) * 256 + n / 281474976710656 % 256) * 256 + n / 1099511627776 % 256) * 256 + n / 4294967296 % 256) * 256 + n / 16777216 % 256) * 256 + n / 65536 % 256) * 256 + n / 256 % 256) * 256 + n % 256 = n
    rw [show 254 + n / 72057594037927936 - 254 = n / 72057594037927936 by omega, show (n / 72057594037927936) * 256 + n / 281474976710656 % 256 = n / 281474976710656 by omega, show (n / 281474976710656) * 256 + n / 1099511627776 % 256 = n / 1099511627776 by omega, show (n / 1099511627776) * 256 + n / 4294967296 % 256 = n / 4294967296 by omega, show (n / 4294967296) * 256 + n / 16777216 % 256 = n / 16777216 by omega, show (n / 16777216) * 256 + n / 65536 % 256 = n / 65536 by omega, show (n / 65536) * 256 + n / 256 % 256 = n / 256 by omega, show (n / 256) * 256 + n % 256 = n by omega]

theorem form9 (n : Int) (h0 : 72057594037927936 ≤ n) (h1 : n ≤ 18446744073709551615) (hs : sizeOf n = 9) : Form n (octs n 9) := by
  refine ⟨by rw [hs]; rfl, ?_, 255, [n / 72057594037927936 % 256, n / 281474976710656 % 256, n / 1099511627776 % 256, n / 4294967296 % 256, n / 16777216 % 256, n / 65536 % 256, n / 256 % 256, n % 256], rfl, ?_, ?_⟩
  · exact all_cons (by omega) (all_cons (by omega) (all_cons (by omega) (all_cons (by omega) (all_cons (by omega) (all_cons (by omega) (all_cons (by omega) (all_cons (by omega) (all_cons (by omega) (all_nil)))))))))
  · rw [hs]; exact told_of (255) 9 255 255 (by omega) (by omega) (by decide) (by omega) (by omega)
  · rw [hs, show leadOf 9 = 255 by decide +kernel]
    show ((((((((((255 : Int) - 255)) * 256 + n / 72057594037927936 % 256) * 256 + n / 281474976710656 % 256) * 256 + n / 1099511627776 % 256) * 256 + n / 4294967296 % 256) * 256 + n / 16777216 % 256) * 256 + n / 65536 % 256) * 256 + n / 256 % 256) * 256 + n % 256 = n
    rw [show (255 : Int) - 255 = 0 by omega, show (0) * 256 + n / 72057594037927936 % 256 = n / 72057594037927936 by omega, show (n / 72057594037927936) * 256 + n / 281474976710656 % 256 = n / 281474976710656 by omega, show (n / 281474976710656) * 256 + n / 1099511627776 % 256 = n / 1099511627776 by omega, show (n / 1099511627776) * 256 + n / 4294967296 % 256 = n / 4294967296 by omega, show (n / 4294967296) * 256 + n / 16777216 % 256 = n / 16777216 by omega, show (n / 16777216) * 256 + n / 65536 % 256 = n / 65536 by omega, show (n / 65536) * 256 + n / 256 % 256 = n / 256 by omega, show (n / 256) * 256 + n % 256 = n by omega]

theorem octets_form (n : Int) (h0 : 0 ≤ n) (h1 : n ≤ 18446744073709551615) : Form n (octets n) := by
  rcases size_cases n h0 h1 with ⟨hs, ha, hb⟩ | ⟨hs, ha, hb⟩ | ⟨hs, ha, hb⟩ | ⟨hs, ha, hb⟩ | ⟨hs, ha, hb⟩ | ⟨hs, ha, hb⟩ | ⟨hs, ha, hb⟩ | ⟨hs, ha, hb⟩ | ⟨hs, ha, hb⟩
  · have e : octets n = octs n 1 := by unfold octets; rw [hs]; rfl
    rw [e]; exact form1 n ha hb hs
  · have e : octets n = octs n 2 := by unfold octets; rw [hs]; rfl
    rw [e]; exact form2 n ha hb hs
  · have e : octets n = octs n 3 := by unfold octets; rw [hs]; rfl
    rw [e]; exact form3 n ha hb hs
  · have e : octets n = octs n 4 := by unfold octets; rw [hs]; rfl
    rw [e]; exact form4 n ha hb hs
  · have e : octets n = octs n 5 := by unfold octets; rw [hs]; rfl
    rw [e]; exact form5 n ha hb hs
  · have e : octets n = octs n 6 := by unfold octets; rw [hs]; rfl
    rw [e]; exact form6 n ha hb hs
  · have e : octets n = octs n 7 := by unfold octets; rw [hs]; rfl
    rw [e]; exact form7 n ha hb hs
  · have e : octets n = octs n 8 := by unfold octets; rw [hs]; rfl
    rw [e]; exact form8 n ha hb hs
  · have e : octets n = octs n 9 := by unfold octets; rw [hs]; rfl
    rw [e]; exact form9 n ha hb hs

theorem getOf_back (n : Int) (h0 : 0 ≤ n) (h1 : n ≤ 18446744073709551615) (more : List Int) : getRet (octets n ++ more) = .tuple #[.int .u64 n, .int .i64 (sizeOf n), .int .i64 0] := by
  have F := octets_form n h0 h1
  obtain ⟨f, r, hl, ht, ha⟩ := F.first
  have hs := F.size
  rw [hl] at hs ⊢
  simp only [List.length_cons] at hs
  rw [List.cons_append]
  refine getRet_good f (r ++ more) (sizeOf n) n ht ?_ ?_ ?_
  · simp only [List.length_append]; omega
  · have e : (sizeOf n - 1).toNat = r.length := by omega
    rw [e, List.take_left]
    exact ha
  · omega
end Go.Proofs.YtpjmieiajhhbaaaDoor

/- What Get takes of any octets is put again as it was: plain lists and numbers, each octet from 0 to 255. -/
namespace Go.Proofs.YtpjmieiajhhbaaaDoor
open Go.RowKit
set_option linter.unusedVariables false

/-- How Get ends, over any octets. -/
def GetSays (l : List Int) : Prop :=
  getRet l = .tuple #[.int .u64 0, .int .i64 0, .int .i64 8] ∨ getRet l = .tuple #[.int .u64 0, .int .i64 0, .int .i64 4] ∨
  ∃ (n : Int) (j : Nat), getRet l = .tuple #[.int .u64 n, .int .i64 j, .int .i64 0] ∧ 0 ≤ n ∧ n ≤ 18446744073709551615 ∧ 1 ≤ j ∧ j ≤ l.length ∧ octets n = l.take j ∧ j ≤ 9


theorem again1 (f : Int)  (r : List Int) (hlo : 0 ≤ f) (hhi : f ≤ 127) (ht : toldOf f = 1)  : GetSays (f :: r) := by
  have hl : ¬ (((r).length : Int) + 1) < 1 := by omega
  have hN : acc (f - leadOf 1) ((r).take ((1 : Int) - 1).toNat) = f := by rw [show leadOf 1 = 0 by decide +kernel]; simp [acc]
  by_cases hs : sizeOf (f) < 1
  · exact .inr (.inl (getRet_bad f (r) 1 _ ht hl hN hs))
  have hk : sizeOf (f) = 1 := by
    rcases size_cases (f) (by omega) (by omega) with ⟨s, u, v⟩ | ⟨s, u, v⟩ | ⟨s, u, v⟩ | ⟨s, u, v⟩ | ⟨s, u, v⟩ | ⟨s, u, v⟩ | ⟨s, u, v⟩ | ⟨s, u, v⟩ | ⟨s, u, v⟩ <;> omega
  refine .inr (.inr ⟨f, 1, getRet_good f (r) 1 _ ht hl hN hs, by omega, by omega, by omega, by simp only [List.length_cons]; omega, ?_, by omega⟩)
  have e : octets (f) = octs (f) 1 := by unfold octets; rw [hk]; rfl
  rw [e]
  rfl

theorem again2 (f : Int) (x1 : Int) (r : List Int) (hlo : 128 ≤ f) (hhi : f ≤ 191) (ht : toldOf f = 2) (p1 : 0 ≤ x1 ∧ x1 ≤ 255) : GetSays (f :: x1 :: r) := by
  have hl : ¬ (((x1 :: r).length : Int) + 1) < 2 := by simp only [List.length_cons]; omega
  have hN : acc (f - leadOf 2) ((x1 :: r).take ((2 : Int) - 1).toNat) = (f - 128) * 256 + x1 := by rw [show leadOf 2 = 128 by decide +kernel]; rfl
  by_cases hs : sizeOf ((f - 128) * 256 + x1) < 2
  · exact .inr (.inl (getRet_bad f (x1 :: r) 2 _ ht hl hN hs))
  have hk : sizeOf ((f - 128) * 256 + x1) = 2 := by
    rcases size_cases ((f - 128) * 256 + x1) (by omega) (by omega) with ⟨s, u, v⟩ | ⟨s, u, v⟩ | ⟨s, u, v⟩ | ⟨s, u, v⟩ | ⟨s, u, v⟩ | ⟨s, u, v⟩ | ⟨s, u, v⟩ | ⟨s, u, v⟩ | ⟨s, u, v⟩ <;> omega
  refine .inr (.inr ⟨(f - 128) * 256 + x1, 2, getRet_good f (x1 :: r) 2 _ ht hl hN hs, by omega, by omega, by omega, by simp only [List.length_cons]; omega, ?_, by omega⟩)
  have e : octets ((f - 128) * 256 + x1) = octs ((f - 128) * 256 + x1) 2 := by unfold octets; rw [hk]; rfl
  rw [e]
  show [128 + ((f - 128) * 256 + x1) / 256, ((f - 128) * 256 + x1) % 256] = [f, x1]
  rw [show 128 + ((f - 128) * 256 + x1) / 256 = f by omega, show ((f - 128) * 256 + x1) % 256 = x1 by omega]

theorem again3 (f : Int) (x1 x2 : Int) (r : List Int) (hlo : 192 ≤ f) (hhi : f ≤ 223) (ht : toldOf f = 3) (p1 : 0 ≤ x1 ∧ x1 ≤ 255) (p2 : 0 ≤ x2 ∧ x2 ≤ 255) : GetSays (f :: x1 :: x2 :: r) := by
  have hl : ¬ (((x1 :: x2 :: r).length : Int) + 1) < 3 := by simp only [List.length_cons]; omega
  have hN : acc (f - leadOf 3) ((x1 :: x2 :: r).take ((3 : Int) - 1).toNat) = ((f - 192) * 256 + x1) * 256 + x2 := by rw [show leadOf 3 = 192 by decide +kernel]; rfl
  by_cases hs : sizeOf (((f - 192) * 256 + x1) * 256 + x2) < 3
  · exact .inr (.inl (getRet_bad f (x1 :: x2 :: r) 3 _ ht hl hN hs))
  have hk : sizeOf (((f - 192) * 256 + x1) * 256 + x2) = 3 := by
    rcases size_cases (((f - 192) * 256 + x1) * 256 + x2) (by omega) (by omega) with ⟨s, u, v⟩ | ⟨s, u, v⟩ | ⟨s, u, v⟩ | ⟨s, u, v⟩ | ⟨s, u, v⟩ | ⟨s, u, v⟩ | ⟨s, u, v⟩ | ⟨s, u, v⟩ | ⟨s, u, v⟩ <;> omega
  refine .inr (.inr ⟨((f - 192) * 256 + x1) * 256 + x2, 3, getRet_good f (x1 :: x2 :: r) 3 _ ht hl hN hs, by omega, by omega, by omega, by simp only [List.length_cons]; omega, ?_, by omega⟩)
  have e : octets (((f - 192) * 256 + x1) * 256 + x2) = octs (((f - 192) * 256 + x1) * 256 + x2) 3 := by unfold octets; rw [hk]; rfl
  rw [e]
  show [192 + (((f - 192) * 256 + x1) * 256 + x2) / 65536, (((f - 192) * 256 + x1) * 256 + x2) / 256 % 256, (((f - 192) * 256 + x1) * 256 + x2) % 256] = [f, x1, x2]
  rw [show 192 + (((f - 192) * 256 + x1) * 256 + x2) / 65536 = f by omega, show (((f - 192) * 256 + x1) * 256 + x2) / 256 % 256 = x1 by omega, show (((f - 192) * 256 + x1) * 256 + x2) % 256 = x2 by omega]

theorem again4 (f : Int) (x1 x2 x3 : Int) (r : List Int) (hlo : 224 ≤ f) (hhi : f ≤ 239) (ht : toldOf f = 4) (p1 : 0 ≤ x1 ∧ x1 ≤ 255) (p2 : 0 ≤ x2 ∧ x2 ≤ 255) (p3 : 0 ≤ x3 ∧ x3 ≤ 255) : GetSays (f :: x1 :: x2 :: x3 :: r) := by
  have hl : ¬ (((x1 :: x2 :: x3 :: r).length : Int) + 1) < 4 := by simp only [List.length_cons]; omega
  have hN : acc (f - leadOf 4) ((x1 :: x2 :: x3 :: r).take ((4 : Int) - 1).toNat) = (((f - 224) * 256 + x1) * 256 + x2) * 256 + x3 := by rw [show leadOf 4 = 224 by decide +kernel]; rfl
  by_cases hs : sizeOf ((((f - 224) * 256 + x1) * 256 + x2) * 256 + x3) < 4
  · exact .inr (.inl (getRet_bad f (x1 :: x2 :: x3 :: r) 4 _ ht hl hN hs))
  have hk : sizeOf ((((f - 224) * 256 + x1) * 256 + x2) * 256 + x3) = 4 := by
    rcases size_cases ((((f - 224) * 256 + x1) * 256 + x2) * 256 + x3) (by omega) (by omega) with ⟨s, u, v⟩ | ⟨s, u, v⟩ | ⟨s, u, v⟩ | ⟨s, u, v⟩ | ⟨s, u, v⟩ | ⟨s, u, v⟩ | ⟨s, u, v⟩ | ⟨s, u, v⟩ | ⟨s, u, v⟩ <;> omega
  refine .inr (.inr ⟨(((f - 224) * 256 + x1) * 256 + x2) * 256 + x3, 4, getRet_good f (x1 :: x2 :: x3 :: r) 4 _ ht hl hN hs, by omega, by omega, by omega, by simp only [List.length_cons]; omega, ?_, by omega⟩)
  have e : octets ((((f - 224) * 256 + x1) * 256 + x2) * 256 + x3) = octs ((((f - 224) * 256 + x1) * 256 + x2) * 256 + x3) 4 := by unfold octets; rw [hk]; rfl
  rw [e]
  show [224 + ((((f - 224) * 256 + x1) * 256 + x2) * 256 + x3) / 16777216, ((((f - 224) * 256 + x1) * 256 + x2) * 256 + x3) / 65536 % 256, ((((f - 224) * 256 + x1) * 256 + x2) * 256 + x3) / 256 % 256, ((((f - 224) * 256 + x1) * 256 + x2) * 256 + x3) % 256] = [f, x1, x2, x3]
  rw [show 224 + ((((f - 224) * 256 + x1) * 256 + x2) * 256 + x3) / 16777216 = f by omega, show ((((f - 224) * 256 + x1) * 256 + x2) * 256 + x3) / 65536 % 256 = x1 by omega, show ((((f - 224) * 256 + x1) * 256 + x2) * 256 + x3) / 256 % 256 = x2 by omega, show ((((f - 224) * 256 + x1) * 256 + x2) * 256 + x3) % 256 = x3 by omega]

theorem again5 (f : Int) (x1 x2 x3 x4 : Int) (r : List Int) (hlo : 240 ≤ f) (hhi : f ≤ 247) (ht : toldOf f = 5) (p1 : 0 ≤ x1 ∧ x1 ≤ 255) (p2 : 0 ≤ x2 ∧ x2 ≤ 255) (p3 : 0 ≤ x3 ∧ x3 ≤ 255) (p4 : 0 ≤ x4 ∧ x4 ≤ 255) : GetSays (f :: x1 :: x2 :: x3 :: x4 :: r) := by
  have hl : ¬ (((x1 :: x2 :: x3 :: x4 :: r).length : Int) + 1) < 5 := by simp only [List.length_cons]; omega
  have hN : acc (f - leadOf 5) ((x1 :: x2 :: x3 :: x4 :: r).take ((5 : Int) - 1).toNat) = ((((f - 240) * 256 + x1) * 256 + x2) * 256 + x3) * 256 + x4 := by rw [show leadOf 5 = 240 by decide +kernel]; rfl
  by_cases hs : sizeOf (((((f - 240) * 256 + x1) * 256 + x2) * 256 + x3) * 256 + x4) < 5
  · exact .inr (.inl (getRet_bad f (x1 :: x2 :: x3 :: x4 :: r) 5 _ ht hl hN hs))
  have hk : sizeOf (((((f - 240) * 256 + x1) * 256 + x2) * 256 + x3) * 256 + x4) = 5 := by
    rcases size_cases (((((f - 240) * 256 + x1) * 256 + x2) * 256 + x3) * 256 + x4) (by omega) (by omega) with ⟨s, u, v⟩ | ⟨s, u, v⟩ | ⟨s, u, v⟩ | ⟨s, u, v⟩ | ⟨s, u, v⟩ | ⟨s, u, v⟩ | ⟨s, u, v⟩ | ⟨s, u, v⟩ | ⟨s, u, v⟩ <;> omega
  refine .inr (.inr ⟨((((f - 240) * 256 + x1) * 256 + x2) * 256 + x3) * 256 + x4, 5, getRet_good f (x1 :: x2 :: x3 :: x4 :: r) 5 _ ht hl hN hs, by omega, by omega, by omega, by simp only [List.length_cons]; omega, ?_, by omega⟩)
  have e : octets (((((f - 240) * 256 + x1) * 256 + x2) * 256 + x3) * 256 + x4) = octs (((((f - 240) * 256 + x1) * 256 + x2) * 256 + x3) * 256 + x4) 5 := by unfold octets; rw [hk]; rfl
  rw [e]
  show [240 + (((((f - 240) * 256 + x1) * 256 + x2) * 256 + x3) * 256 + x4) / 4294967296, (((((f - 240) * 256 + x1) * 256 + x2) * 256 + x3) * 256 + x4) / 16777216 % 256, (((((f - 240) * 256 + x1) * 256 + x2) * 256 + x3) * 256 + x4) / 65536 % 256, (((((f - 240) * 256 + x1) * 256 + x2) * 256 + x3) * 256 + x4) / 256 % 256, (((((f - 240) * 256 + x1) * 256 + x2) * 256 + x3) * 256 + x4) % 256] = [f, x1, x2, x3, x4]
  rw [show 240 + (((((f - 240) * 256 + x1) * 256 + x2) * 256 + x3) * 256 + x4) / 4294967296 = f by omega, show (((((f - 240) * 256 + x1) * 256 + x2) * 256 + x3) * 256 + x4) / 16777216 % 256 = x1 by omega, show (((((f - 240) * 256 + x1) * 256 + x2) * 256 + x3) * 256 + x4) / 65536 % 256 = x2 by omega, show (((((f - 240) * 256 + x1) * 256 + x2) * 256 + x3) * 256 + x4) / 256 % 256 = x3 by omega, show (((((f - 240) * 256 + x1) * 256 + x2) * 256 + x3) * 256 + x4) % 256 = x4 by omega]

theorem again6 (f : Int) (x1 x2 x3 x4 x5 : Int) (r : List Int) (hlo : 248 ≤ f) (hhi : f ≤ 251) (ht : toldOf f = 6) (p1 : 0 ≤ x1 ∧ x1 ≤ 255) (p2 : 0 ≤ x2 ∧ x2 ≤ 255) (p3 : 0 ≤ x3 ∧ x3 ≤ 255) (p4 : 0 ≤ x4 ∧ x4 ≤ 255) (p5 : 0 ≤ x5 ∧ x5 ≤ 255) : GetSays (f :: x1 :: x2 :: x3 :: x4 :: x5 :: r) := by
  have hl : ¬ (((x1 :: x2 :: x3 :: x4 :: x5 :: r).length : Int) + 1) < 6 := by simp only [List.length_cons]; omega
  have hN : acc (f - leadOf 6) ((x1 :: x2 :: x3 :: x4 :: x5 :: r).take ((6 : Int) - 1).toNat) = (((((f - 248) * 256 + x1) * 256 + x2) * 256 + x3) * 256 + x4) * 256 + x5 := by rw [show leadOf 6 = 248 by decide +kernel]; rfl
  by_cases hs : sizeOf ((((((f - 248) * 256 + x1) * 256 + x2) * 256 + x3) * 256 + x4) * 256 + x5) < 6
  · exact .inr (.inl (getRet_bad f (x1 :: x2 :: x3 :: x4 :: x5 :: r) 6 _ ht hl hN hs))
  have hk : sizeOf ((((((f - 248) * 256 + x1) * 256 + x2) * 256 + x3) * 256 + x4) * 256 + x5) = 6 := by
    rcases size_cases ((((((f - 248) * 256 + x1) * 256 + x2) * 256 + x3) * 256 + x4) * 256 + x5) (by omega) (by omega) with ⟨s, u, v⟩ | ⟨s, u, v⟩ | ⟨s, u, v⟩ | ⟨s, u, v⟩ | ⟨s, u, v⟩ | ⟨s, u, v⟩ | ⟨s, u, v⟩ | ⟨s, u, v⟩ | ⟨s, u, v⟩ <;> omega
  refine .inr (.inr ⟨(((((f - 248) * 256 + x1) * 256 + x2) * 256 + x3) * 256 + x4) * 256 + x5, 6, getRet_good f (x1 :: x2 :: x3 :: x4 :: x5 :: r) 6 _ ht hl hN hs, by omega, by omega, by omega, by simp only [List.length_cons]; omega, ?_, by omega⟩)
  have e : octets ((((((f - 248) * 256 + x1) * 256 + x2) * 256 + x3) * 256 + x4) * 256 + x5) = octs ((((((f - 248) * 256 + x1) * 256 + x2) * 256 + x3) * 256 + x4) * 256 + x5) 6 := by unfold octets; rw [hk]; rfl
  rw [e]
  show [248 + ((((((f - 248) * 256 + x1) * 256 + x2) * 256 + x3) * 256 + x4) * 256 + x5) / 1099511627776, ((((((f - 248) * 256 + x1) * 256 + x2) * 256 + x3) * 256 + x4) * 256 + x5) / 4294967296 % 256, ((((((f - 248) * 256 + x1) * 256 + x2) * 256 + x3) * 256 + x4) * 256 + x5) / 16777216 % 256, ((((((f - 248) * 256 + x1) * 256 + x2) * 256 + x3) * 256 + x4) * 256 + x5) / 65536 % 256, ((((((f - 248) * 256 + x1) * 256 + x2) * 256 + x3) * 256 + x4) * 256 + x5) / 256 % 256, ((((((f - 248) * 256 + x1) * 256 + x2) * 256 + x3) * 256 + x4) * 256 + x5) % 256] = [f, x1, x2, x3, x4, x5]
  rw [show 248 + ((((((f - 248) * 256 + x1) * 256 + x2) * 256 + x3) * 256 + x4) * 256 + x5) / 1099511627776 = f by omega, show ((((((f - 248) * 256 + x1) * 256 + x2) * 256 + x3) * 256 + x4) * 256 + x5) / 4294967296 % 256 = x1 by omega, show ((((((f - 248) * 256 + x1) * 256 + x2) * 256 + x3) * 256 + x4) * 256 + x5) / 16777216 % 256 = x2 by omega, show ((((((f - 248) * 256 + x1) * 256 + x2) * 256 + x3) * 256 + x4) * 256 + x5) / 65536 % 256 = x3 by omega, show ((((((f - 248) * 256 + x1) * 256 + x2) * 256 + x3) * 256 + x4) * 256 + x5) / 256 % 256 = x4 by omega, show ((((((f - 248) * 256 + x1) * 256 + x2) * 256 + x3) * 256 + x4) * 256 + x5) % 256 = x5 by omega]

theorem again7 (f : Int) (x1 x2 x3 x4 x5 x6 : Int) (r : List Int) (hlo : 252 ≤ f) (hhi : f ≤ 253) (ht : toldOf f = 7) (p1 : 0 ≤ x1 ∧ x1 ≤ 255) (p2 : 0 ≤ x2 ∧ x2 ≤ 255) (p3 : 0 ≤ x3 ∧ x3 ≤ 255) (p4 : 0 ≤ x4 ∧ x4 ≤ 255) (p5 : 0 ≤ x5 ∧ x5 ≤ 255) (p6 : 0 ≤ x6 ∧ x6 ≤ 255) : GetSays (f :: x1 :: x2 :: x3 :: x4 :: x5 :: x6 :: r) := by
  have hl : ¬ (((x1 :: x2 :: x3 :: x4 :: x5 :: x6 :: r).length : Int) + 1) < 7 := by simp only [List.length_cons]; omega
  have hN : acc (f - leadOf 7) ((x1 :: x2 :: x3 :: x4 :: x5 :: x6 :: r).take ((7 : Int) - 1).toNat) = ((((((f - 252) * 256 + x1) * 256 + x2) * 256 + x3) * 256 + x4) * 256 + x5) * 256 + x6 := by rw [show leadOf 7 = 252 by decide +kernel]; rfl
  by_cases hs : sizeOf (((((((f - 252) * 256 + x1) * 256 + x2) * 256 + x3) * 256 + x4) * 256 + x5) * 256 + x6) < 7
  · exact .inr (.inl (getRet_bad f (x1 :: x2 :: x3 :: x4 :: x5 :: x6 :: r) 7 _ ht hl hN hs))
  have hk : sizeOf (((((((f - 252) * 256 + x1) * 256 + x2) * 256 + x3) * 256 + x4) * 256 + x5) * 256 + x6) = 7 := by
    rcases size_cases (((((((f - 252) * 256 + x1) * 256 + x2) * 256 + x3) * 256 + x4) * 256 + x5) * 256 + x6) (by omega) (by omega) with ⟨s, u, v⟩ | ⟨s, u, v⟩ | ⟨s, u, v⟩ | ⟨s, u, v⟩ | ⟨s, u, v⟩ | ⟨s, u, v⟩ | ⟨s, u, v⟩ | ⟨s, u, v⟩ | ⟨s, u, v⟩ <;> omega
  refine .inr (.inr ⟨((((((f - 252) * 256 + x1) * 256 + x2) * 256 + x3) * 256 + x4) * 256 + x5) * 256 + x6, 7, getRet_good f (x1 :: x2 :: x3 :: x4 :: x5 :: x6 :: r) 7 _ ht hl hN hs, by omega, by omega, by omega, by simp only [List.length_cons]; omega, ?_, by omega⟩)
  have e : octets (((((((f - 252) * 256 + x1) * 256 + x2) * 256 + x3) * 256 + x4) * 256 + x5) * 256 + x6) = octs (((((((f - 252) * 256 + x1) * 256 + x2) * 256 + x3) * 256 + x4) * 256 + x5) * 256 + x6) 7 := by unfold octets; rw [hk]; rfl
  rw [e]
  show [252 + (((((((f - 252) * 256 + x1) * 256 + x2) * 256 + x3) * 256 + x4) * 256 + x5) * 256 + x6) / 281474976710656, (((((((f - 252) * 256 + x1) * 256 + x2) * 256 + x3) * 256 + x4) * 256 + x5) * 256 + x6) / 1099511627776 % 256, (((((((f - 252) * 256 + x1) * 256 + x2) * 256 + x3) * 256 + x4) * 256 + x5) * 256 + x6) / 4294967296 % 256, (((((((f - 252) * 256 + x1) * 256 + x2) * 256 + x3) * 256 + x4) * 256 + x5) * 256 + x6) / 16777216 % 256, (((((((f - 252) * 256 + x1) * 256 + x2) * 256 + x3) * 256 + x4) * 256 + x5) * 256 + x6) / 65536 % 256, (((((((f - 252) * 256 + x1) * 256 + x2) * 256 + x3) * 256 + x4) * 256 + x5) * 256 + x6) / 256 % 256, (((((((f - 252) * 256 + x1) * 256 + x2) * 256 + x3) * 256 + x4) * 256 + x5) * 256 + x6) % 256] = [f, x1, x2, x3, x4, x5, x6]
  rw [show 252 + (((((((f - 252) * 256 + x1) * 256 + x2) * 256 + x3) * 256 + x4) * 256 + x5) * 256 + x6) / 281474976710656 = f by omega, show (((((((f - 252) * 256 + x1) * 256 + x2) * 256 + x3) * 256 + x4) * 256 + x5) * 256 + x6) / 1099511627776 % 256 = x1 by omega, show (((((((f - 252) * 256 + x1) * 256 + x2) * 256 + x3) * 256 + x4) * 256 + x5) * 256 + x6) / 4294967296 % 256 = x2 by omega, show (((((((f - 252) * 256 + x1) * 256 + x2) * 256 + x3) * 256 + x4) * 256 + x5) * 256 + x6) / 16777216 % 256 = x3 by omega, show (((((((f - 252) * 256 + x1) * 256 + x2) * 256 + x3) * 256 + x4) * 256 + x5) * 256 + x6) / 65536 % 256 = x4 by omega, show (((((((f - 252) * 256 + x1) * 256 + x2) * 256 + x3) * 256 + x4) * 256 + x5) * 256 + x6) / 256 % 256 = x5 by omega, show (((((((f - 252) * 256 + x1) * 256 + x2) * 256 + x3) * 256 + x4) * 256 + x5) * 256 + x6) % 256 = x6 by omega]

theorem again8 (f : Int) (x1 x2 x3 x4 x5 x6 x7 : Int) (r : List Int) (hlo : 254 ≤ f) (hhi : f ≤ 254) (ht : toldOf f = 8) (p1 : 0 ≤ x1 ∧ x1 ≤ 255) (p2 : 0 ≤ x2 ∧ x2 ≤ 255) (p3 : 0 ≤ x3 ∧ x3 ≤ 255) (p4 : 0 ≤ x4 ∧ x4 ≤ 255) (p5 : 0 ≤ x5 ∧ x5 ≤ 255) (p6 : 0 ≤ x6 ∧ x6 ≤ 255) (p7 : 0 ≤ x7 ∧ x7 ≤ 255) : GetSays (f :: x1 :: x2 :: x3 :: x4 :: x5 :: x6 :: x7 :: r) := by
  have hl : ¬ (((x1 :: x2 :: x3 :: x4 :: x5 :: x6 :: x7 :: r).length : Int) + 1) < 8 := by simp only [List.length_cons]; omega
  have hN : acc (f - leadOf 8) ((x1 :: x2 :: x3 :: x4 :: x5 :: x6 :: x7 :: r).take ((8 : Int) - 1).toNat) = (((((((f - 254) * 256 + x1) * 256 + x2) * 256 + x3) * 256 + x4) * 256 + x5) * 256 + x6) * 256 + x7 := by rw [show leadOf 8 = 254 by decide +kernel]; rfl
  by_cases hs : sizeOf ((((((((f - 254) * 256 + x1) * 256 + x2) * 256 + x3) * 256 + x4) * 256 + x5) * 256 + x6) * 256 + x7) < 8
  · exact .inr (.inl (getRet_bad f (x1 :: x2 :: x3 :: x4 :: x5 :: x6 :: x7 :: r) 8 _ ht hl hN hs))
  have hk : sizeOf ((((((((f - 254) * 256 + x1) * 256 + x2) * 256 + x3) * 256 + x4) * 256 + x5) * 256 + x6) * 256 + x7) = 8 := by
    rcases size_cases ((((((((f - 254) * 256 + x1) * 256 + x2) * 256 + x3) * 256 + x4) * 256 + x5) * 256 + x6) * 256 + x7) (by omega) (by omega) with ⟨s, u, v⟩ | ⟨s, u, v⟩ | ⟨s, u, v⟩ | ⟨s, u, v⟩ | ⟨s, u, v⟩ | ⟨s, u, v⟩ | ⟨s, u, v⟩ | ⟨s, u, v⟩ | ⟨s, u, v⟩ <;> omega
  refine .inr (.inr ⟨(((((((f - 254) * 256 + x1) * 256 + x2) * 256 + x3) * 256 + x4) * 256 + x5) * 256 + x6) * 256 + x7, 8, getRet_good f (x1 :: x2 :: x3 :: x4 :: x5 :: x6 :: x7 :: r) 8 _ ht hl hN hs, by omega, by omega, by omega, by simp only [List.length_cons]; omega, ?_, by omega⟩)
  have e : octets ((((((((f - 254) * 256 + x1) * 256 + x2) * 256 + x3) * 256 + x4) * 256 + x5) * 256 + x6) * 256 + x7) = octs ((((((((f - 254) * 256 + x1) * 256 + x2) * 256 + x3) * 256 + x4) * 256 + x5) * 256 + x6) * 256 + x7) 8 := by unfold octets; rw [hk]; rfl
  rw [e]
  show [254 + ((((((((f - 254) * 256 + x1) * 256 + x2) * 256 + x3) * 256 + x4) * 256 + x5) * 256 + x6) * 256 + x7) / 72057594037927936, ((((((((f - 254) * 256 + x1) * 256 + x2) * 256 + x3) * 256 + x4) * 256 + x5) * 256 + x6) * 256 + x7) / 281474976710656 % 256, ((((((((f - 254) * 256 + x1) * 256 + x2) * 256 + x3) * 256 + x4) * 256 + x5) * 256 + x6) * 256 + x7) / 1099511627776 % 256, ((((((((f - 254) * 256 + x1) * 256 + x2) * 256 + x3) * 256 + x4) * 256 + x5) * 256 + x6) * 256 + x7) / 4294967296 % 256, ((((((((f - 254) * 256 + x1) * 256 + x2) * 256 + x3) * 256 + x4) * 256 + x5) * 256 + x6) * 256 + x7) / 16777216 % 256, ((((((((f - 254) * 256 + x1) * 256 + x2) * 256 + x3) * 256 + x4) * 256 + x5) * 256 + x6) * 256 + x7) / 65536 % 256, ((((((((f - 254) * 256 + x1) * 256 + x2) * 256 + x3) * 256 + x4) * 256 + x5) * 256 + x6) * 256 + x7) / 256 % 256, ((((((((f - 254) * 256 + x1) * 256 + x2) * 256 + x3) * 256 + x4) * 256 + x5) * 256 + x6) * 256 + x7) % 256] = [f, x1, x2, x3, x4, x5, x6, x7]
  rw [show 254 + ((((((((f - 254) * 256 + x1) * 256 + x2) * 256 + x3) * 256 + x4) * 256 + x5) * 256 + x6) * 256 + x7) / 72057594037927936 = f by omega, show ((((((((f - 254) * 256 + x1) * 256 + x2) * 256 + x3) * 256 + x4) * 256 + x5) * 256 + x6) * 256 + x7) / 281474976710656 % 256 = x1 by omega, show ((((((((f - 254) * 256 + x1) * 256 + x2) * 256 + x3) * 256 + x4) * 256 + x5) * 256 + x6) * 256 + x7) / 1099511627776 % 256 = x2 by omega, show ((((((((f - 254) * 256 + x1) * 256 + x2) * 256 + x3) * 256 + x4) * 256 + x5) * 256 + x6) * 256 + x7) / 4294967296 % 256 = x3 by omega, show ((((((((f - 254) * 256 + x1) * 256 + x2) * 256 + x3) * 256 + x4) * 256 + x5) * 256 + x6) * 256 + x7) / 16777216 % 256 = x4 by omega, show ((((((((f - 254) * 256 + x1) * 256 + x2) * 256 + x3) * 256 + x4) * 256 + x5) * 256 + x6) * 256 + x7) / 65536 % 256 = x5 by omega, show ((((((((f - 254) * 256 + x1) * 256 + x2) * 256 + x3) * 256 + x4) * 256 + x5) * 256 + x6) * 256 + x7) / 256 % 256 = x6 by omega, show ((((((((f - 254) * 256 + x1) * 256 + x2) * 256 + x3) * 256 + x4) * 256 + x5) * 256 + x6) * 256 + x7) % 256 = x7 by omega]

theorem again9 (f : Int) (x1 x2 x3 x4 x5 x6 x7 x8 : Int) (r : List Int) (hlo : 255 ≤ f) (hhi : f ≤ 255) (ht : toldOf f = 9) (p1 : 0 ≤ x1 ∧ x1 ≤ 255) (p2 : 0 ≤ x2 ∧ x2 ≤ 255) (p3 : 0 ≤ x3 ∧ x3 ≤ 255) (p4 : 0 ≤ x4 ∧ x4 ≤ 255) (p5 : 0 ≤ x5 ∧ x5 ≤ 255) (p6 : 0 ≤ x6 ∧ x6 ≤ 255) (p7 : 0 ≤ x7 ∧ x7 ≤ 255) (p8 : 0 ≤ x8 ∧ x8 ≤ 255) : GetSays (f :: x1 :: x2 :: x3 :: x4 :: x5 :: x6 :: x7 :: x8 :: r) := by
  have hl : ¬ (((x1 :: x2 :: x3 :: x4 :: x5 :: x6 :: x7 :: x8 :: r).length : Int) + 1) < 9 := by simp only [List.length_cons]; omega
  have hN : acc (f - leadOf 9) ((x1 :: x2 :: x3 :: x4 :: x5 :: x6 :: x7 :: x8 :: r).take ((9 : Int) - 1).toNat) = ((((((((f - 255) * 256 + x1) * 256 + x2) * 256 + x3) * 256 + x4) * 256 + x5) * 256 + x6) * 256 + x7) * 256 + x8 := by rw [show leadOf 9 = 255 by decide +kernel]; rfl
  by_cases hs : sizeOf (((((((((f - 255) * 256 + x1) * 256 + x2) * 256 + x3) * 256 + x4) * 256 + x5) * 256 + x6) * 256 + x7) * 256 + x8) < 9
  · exact .inr (.inl (getRet_bad f (x1 :: x2 :: x3 :: x4 :: x5 :: x6 :: x7 :: x8 :: r) 9 _ ht hl hN hs))
  have hk : sizeOf (((((((((f - 255) * 256 + x1) * 256 + x2) * 256 + x3) * 256 + x4) * 256 + x5) * 256 + x6) * 256 + x7) * 256 + x8) = 9 := by
    rcases size_cases (((((((((f - 255) * 256 + x1) * 256 + x2) * 256 + x3) * 256 + x4) * 256 + x5) * 256 + x6) * 256 + x7) * 256 + x8) (by omega) (by omega) with ⟨s, u, v⟩ | ⟨s, u, v⟩ | ⟨s, u, v⟩ | ⟨s, u, v⟩ | ⟨s, u, v⟩ | ⟨s, u, v⟩ | ⟨s, u, v⟩ | ⟨s, u, v⟩ | ⟨s, u, v⟩ <;> omega
  refine .inr (.inr ⟨((((((((f - 255) * 256 + x1) * 256 + x2) * 256 + x3) * 256 + x4) * 256 + x5) * 256 + x6) * 256 + x7) * 256 + x8, 9, getRet_good f (x1 :: x2 :: x3 :: x4 :: x5 :: x6 :: x7 :: x8 :: r) 9 _ ht hl hN hs, by omega, by omega, by omega, by simp only [List.length_cons]; omega, ?_, by omega⟩)
  have e : octets (((((((((f - 255) * 256 + x1) * 256 + x2) * 256 + x3) * 256 + x4) * 256 + x5) * 256 + x6) * 256 + x7) * 256 + x8) = octs (((((((((f - 255) * 256 + x1) * 256 + x2) * 256 + x3) * 256 + x4) * 256 + x5) * 256 + x6) * 256 + x7) * 256 + x8) 9 := by unfold octets; rw [hk]; rfl
  rw [e]
  show [(255 : Int), (((((((((f - 255) * 256 + x1) * 256 + x2) * 256 + x3) * 256 + x4) * 256 + x5) * 256 + x6) * 256 + x7) * 256 + x8) / 72057594037927936 % 256, (((((((((f - 255) * 256 + x1) * 256 + x2) * 256 + x3) * 256 + x4) * 256 + x5) * 256 + x6) * 256 + x7) * 256 + x8) / 281474976710656 % 256, (((((((((f - 255) * 256 + x1) * 256 + x2) * 256 + x3) * 256 + x4) * 256 + x5) * 256 + x6) * 256 + x7) * 256 + x8) / 1099511627776 % 256, (((((((((f - 255) * 256 + x1) * 256 + x2) * 256 + x3) * 256 + x4) * 256 + x5) * 256 + x6) * 256 + x7) * 256 + x8) / 4294967296 % 256, (((((((((f - 255) * 256 + x1) * 256 + x2) * 256 + x3) * 256 + x4) * 256 + x5) * 256 + x6) * 256 + x7) * 256 + x8) / 16777216 % 256, (((((((((f - 255) * 256 + x1) * 256 + x2) * 256 + x3) * 256 + x4) * 256 + x5) * 256 + x6) * 256 + x7) * 256 + x8) / 65536 % 256, (((((((((f - 255) * 256 + x1) * 256 + x2) * 256 + x3) * 256 + x4) * 256 + x5) * 256 + x6) * 256 + x7) * 256 + x8) / 256 % 256, (((((((((f - 255) * 256 + x1) * 256 + x2) * 256 + x3) * 256 + x4) * 256 + x5) * 256 + x6) * 256 + x7) * 256 + x8) % 256] = [f, x1, x2, x3, x4, x5, x6, x7, x8]
  rw [show f = 255 by omega, show ((((((((((255 : Int) - 255) * 256 + x1) * 256 + x2) * 256 + x3) * 256 + x4) * 256 + x5) * 256 + x6) * 256 + x7) * 256 + x8) / 72057594037927936 % 256 = x1 by omega, show ((((((((((255 : Int) - 255) * 256 + x1) * 256 + x2) * 256 + x3) * 256 + x4) * 256 + x5) * 256 + x6) * 256 + x7) * 256 + x8) / 281474976710656 % 256 = x2 by omega, show ((((((((((255 : Int) - 255) * 256 + x1) * 256 + x2) * 256 + x3) * 256 + x4) * 256 + x5) * 256 + x6) * 256 + x7) * 256 + x8) / 1099511627776 % 256 = x3 by omega, show ((((((((((255 : Int) - 255) * 256 + x1) * 256 + x2) * 256 + x3) * 256 + x4) * 256 + x5) * 256 + x6) * 256 + x7) * 256 + x8) / 4294967296 % 256 = x4 by omega, show ((((((((((255 : Int) - 255) * 256 + x1) * 256 + x2) * 256 + x3) * 256 + x4) * 256 + x5) * 256 + x6) * 256 + x7) * 256 + x8) / 16777216 % 256 = x5 by omega, show ((((((((((255 : Int) - 255) * 256 + x1) * 256 + x2) * 256 + x3) * 256 + x4) * 256 + x5) * 256 + x6) * 256 + x7) * 256 + x8) / 65536 % 256 = x6 by omega, show ((((((((((255 : Int) - 255) * 256 + x1) * 256 + x2) * 256 + x3) * 256 + x4) * 256 + x5) * 256 + x6) * 256 + x7) * 256 + x8) / 256 % 256 = x7 by omega, show ((((((((((255 : Int) - 255) * 256 + x1) * 256 + x2) * 256 + x3) * 256 + x4) * 256 + x5) * 256 + x6) * 256 + x7) * 256 + x8) % 256 = x8 by omega]

theorem get_says (l : List Int) (hx : ∀ x ∈ l, 0 ≤ x ∧ x ≤ 255) : GetSays l := by
  cases l with
  | nil => exact .inl rfl
  | cons f r =>
    have hf := hx f (by simp)
    by_cases hsh : ((r.length : Int) + 1) < toldOf f
    · exact .inl (getRet_short f r hsh)
    rcases told_cases f hf.1 hf.2 with ⟨ht, hlo, hhi⟩ | ⟨ht, hlo, hhi⟩ | ⟨ht, hlo, hhi⟩ | ⟨ht, hlo, hhi⟩ | ⟨ht, hlo, hhi⟩ | ⟨ht, hlo, hhi⟩ | ⟨ht, hlo, hhi⟩ | ⟨ht, hlo, hhi⟩ | ⟨ht, hlo, hhi⟩
    · rw [ht] at hsh
      exact again1 f  r hlo hhi ht 
    · rw [ht] at hsh
      obtain ⟨x1, r1, rfl⟩ : ∃ x t, r = x :: t := cons_of (by omega)
      exact again2 f x1 r1 hlo hhi ht (hx x1 (by simp))
    · rw [ht] at hsh
      obtain ⟨x1, r1, rfl⟩ : ∃ x t, r = x :: t := cons_of (by omega)
      obtain ⟨x2, r2, rfl⟩ : ∃ x t, r1 = x :: t := cons_of (by simp only [List.length_cons] at hsh; omega)
      exact again3 f x1 x2 r2 hlo hhi ht (hx x1 (by simp)) (hx x2 (by simp))
    · rw [ht] at hsh
      obtain ⟨x1, r1, rfl⟩ : ∃ x t, r = x :: t := cons_of (by omega)
      obtain ⟨x2, r2, rfl⟩ : ∃ x t, r1 = x :: t := cons_of (by simp only [List.length_cons] at hsh; omega)
      obtain ⟨x3, r3, rfl⟩ : ∃ x t, r2 = x :: t := cons_of (by simp only [List.length_cons] at hsh; omega)
      exact again4 f x1 x2 x3 r3 hlo hhi ht (hx x1 (by simp)) (hx x2 (by simp)) (hx x3 (by simp))
    · rw [ht] at hsh
      obtain ⟨x1, r1, rfl⟩ : ∃ x t, r = x :: t := cons_of (by omega)
      obtain ⟨x2, r2, rfl⟩ : ∃ x t, r1 = x :: t := cons_of (by simp only [List.length_cons] at hsh; omega)
      obtain ⟨x3, r3, rfl⟩ : ∃ x t, r2 = x :: t := cons_of (by simp only [List.length_cons] at hsh; omega)
      obtain ⟨x4, r4, rfl⟩ : ∃ x t, r3 = x :: t := cons_of (by simp only [List.length_cons] at hsh; omega)
      exact again5 f x1 x2 x3 x4 r4 hlo hhi ht (hx x1 (by simp)) (hx x2 (by simp)) (hx x3 (by simp)) (hx x4 (by simp))
    · rw [ht] at hsh
      obtain ⟨x1, r1, rfl⟩ : ∃ x t, r = x :: t := cons_of (by omega)
      obtain ⟨x2, r2, rfl⟩ : ∃ x t, r1 = x :: t := cons_of (by simp only [List.length_cons] at hsh; omega)
      obtain ⟨x3, r3, rfl⟩ : ∃ x t, r2 = x :: t := cons_of (by simp only [List.length_cons] at hsh; omega)
      obtain ⟨x4, r4, rfl⟩ : ∃ x t, r3 = x :: t := cons_of (by simp only [List.length_cons] at hsh; omega)
      obtain ⟨x5, r5, rfl⟩ : ∃ x t, r4 = x :: t := cons_of (by simp only [List.length_cons] at hsh; omega)
      exact again6 f x1 x2 x3 x4 x5 r5 hlo hhi ht (hx x1 (by simp)) (hx x2 (by simp)) (hx x3 (by simp)) (hx x4 (by simp)) (hx x5 (by simp))
    · rw [ht] at hsh
      obtain ⟨x1, r1, rfl⟩ : ∃ x t, r = x :: t := cons_of (by omega)
      obtain ⟨x2, r2, rfl⟩ : ∃ x t, r1 = x :: t := cons_of (by simp only [List.length_cons] at hsh; omega)
      obtain ⟨x3, r3, rfl⟩ : ∃ x t, r2 = x :: t := cons_of (by simp only [List.length_cons] at hsh; omega)
      obtain ⟨x4, r4, rfl⟩ : ∃ x t, r3 = x :: t := cons_of (by simp only [List.length_cons] at hsh; omega)
      obtain ⟨x5, r5, rfl⟩ : ∃ x t, r4 = x :: t := cons_of (by simp only [List.length_cons] at hsh; omega)
      obtain ⟨x6, r6, rfl⟩ : ∃ x t, r5 = x :: t := cons_of (by simp only [List.length_cons] at hsh; omega)
      exact again7 f x1 x2 x3 x4 x5 x6 r6 hlo hhi ht (hx x1 (by simp)) (hx x2 (by simp)) (hx x3 (by simp)) (hx x4 (by simp)) (hx x5 (by simp)) (hx x6 (by simp))
    · rw [ht] at hsh
      obtain ⟨x1, r1, rfl⟩ : ∃ x t, r = x :: t := cons_of (by omega)
      obtain ⟨x2, r2, rfl⟩ : ∃ x t, r1 = x :: t := cons_of (by simp only [List.length_cons] at hsh; omega)
      obtain ⟨x3, r3, rfl⟩ : ∃ x t, r2 = x :: t := cons_of (by simp only [List.length_cons] at hsh; omega)
      obtain ⟨x4, r4, rfl⟩ : ∃ x t, r3 = x :: t := cons_of (by simp only [List.length_cons] at hsh; omega)
      obtain ⟨x5, r5, rfl⟩ : ∃ x t, r4 = x :: t := cons_of (by simp only [List.length_cons] at hsh; omega)
      obtain ⟨x6, r6, rfl⟩ : ∃ x t, r5 = x :: t := cons_of (by simp only [List.length_cons] at hsh; omega)
      obtain ⟨x7, r7, rfl⟩ : ∃ x t, r6 = x :: t := cons_of (by simp only [List.length_cons] at hsh; omega)
      exact again8 f x1 x2 x3 x4 x5 x6 x7 r7 hlo hhi ht (hx x1 (by simp)) (hx x2 (by simp)) (hx x3 (by simp)) (hx x4 (by simp)) (hx x5 (by simp)) (hx x6 (by simp)) (hx x7 (by simp))
    · rw [ht] at hsh
      obtain ⟨x1, r1, rfl⟩ : ∃ x t, r = x :: t := cons_of (by omega)
      obtain ⟨x2, r2, rfl⟩ : ∃ x t, r1 = x :: t := cons_of (by simp only [List.length_cons] at hsh; omega)
      obtain ⟨x3, r3, rfl⟩ : ∃ x t, r2 = x :: t := cons_of (by simp only [List.length_cons] at hsh; omega)
      obtain ⟨x4, r4, rfl⟩ : ∃ x t, r3 = x :: t := cons_of (by simp only [List.length_cons] at hsh; omega)
      obtain ⟨x5, r5, rfl⟩ : ∃ x t, r4 = x :: t := cons_of (by simp only [List.length_cons] at hsh; omega)
      obtain ⟨x6, r6, rfl⟩ : ∃ x t, r5 = x :: t := cons_of (by simp only [List.length_cons] at hsh; omega)
      obtain ⟨x7, r7, rfl⟩ : ∃ x t, r6 = x :: t := cons_of (by simp only [List.length_cons] at hsh; omega)
      obtain ⟨x8, r8, rfl⟩ : ∃ x t, r7 = x :: t := cons_of (by simp only [List.length_cons] at hsh; omega)
      exact again9 f x1 x2 x3 x4 x5 x6 x7 x8 r8 hlo hhi ht (hx x1 (by simp)) (hx x2 (by simp)) (hx x3 (by simp)) (hx x4 (by simp)) (hx x5 (by simp)) (hx x6 (by simp)) (hx x7 (by simp)) (hx x8 (by simp))
end Go.Proofs.YtpjmieiajhhbaaaDoor
