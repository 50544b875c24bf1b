
import Derived.Test.YtnchjlimkgbfpaaGreatDoorJ01
import Derived.WalkKit
import Derived.WalkLawsBesides
import Derived.WalkSpells
import Derived.Lib.Tables
import Derived.KernelRfl
namespace Go.Proofs.YtnchjlimkgbfpaaGreatDoor
open Go.RowKit
def bl (n : Int) : Int := (bitLen n.toNat : Int)
theorem bl_table : ∀ n : Fin 256, Lib.len8 (n.val : Int) = (bitLen n.val : Int) := by decide +kernel
theorem bl_len8 (n : Int) (h0 : 0 ≤ n) (h1 : n ≤ 255) : Lib.len8 n = bl n := by
  have := bl_table ⟨n.toNat, by omega⟩
  unfold bl
  rw [← this]
  congr 1
  show n = ((n.toNat : Nat) : Int)
  omega
theorem bl_shift (n : Int) (b : Nat) (h0 : 0 ≤ n) (h : (2 : Int) ^ b ≤ n) : bl n = b + bl (n / 2 ^ b) := by
  obtain ⟨x, rfl⟩ := Int.eq_ofNat_of_zero_le h0
  have e : ((x : Int) / 2 ^ b).toNat = x / 2 ^ b := by
    have : ((x : Int) / 2 ^ b) = ((x / 2 ^ b : Nat) : Int) := by simp
    rw [this]; rfl
  have hx : 2 ^ b ≤ x := by exact_mod_cast h
  have hd : x / 2 ^ b ≠ 0 := by
    have := Nat.div_pos hx (Nat.two_pow_pos b)
    omega
  unfold bl
  rw [e, Int.toNat_natCast, bitLen_shift x b hd]
  omega
theorem len8_bd (n : Int) (h0 : 0 ≤ n) (h1 : n ≤ 255) : 0 ≤ Lib.len8 n ∧ Lib.len8 n ≤ 8 := by
  rw [bl_len8 n h0 h1]
  have := bitLen_le8 n.toNat (by omega)
  unfold bl
  omega
theorem len8_any (n : Int) (w : World) (h0 : 0 ≤ n) (h1 : n ≤ 255) :
    Calls Tryz.prog 194 #[.int .u8 n] w fun e w' => e = .returned (.int .i64 (bl n)) ∧ w' = w := by
  have H : Hid (Lib.len8 n = bl n) := bl_len8 n h0 h1
  obtain ⟨b0, b1⟩ := len8_bd n h0 h1
  go_enter Tryz.func194, Tryz.ntmps194
  go_wp2
  go_ret
  exact ⟨ret_int (by rw [H.out]), rfl⟩
theorem bl_road (n x : Int) (b : Nat) (h0 : 0 ≤ n) (hb : b = 0 ∨ (2 : Int) ^ b ≤ n) (hx : x = n / 2 ^ b) (h1 : x ≤ 255) : (b : Int) + Lib.len8 x = bl n := by
  have hx0 : 0 ≤ x := by
    rw [hx]; exact Int.ediv_nonneg h0 (Int.le_of_lt (Int.pow_pos (by decide)))
  rw [bl_len8 x hx0 h1, hx]
  rcases hb with rfl | hb
  · simp
  · exact (bl_shift n b h0 hb).symm
set_option maxHeartbeats 400000 in
theorem len64_any (n : Int) (w : World) (h0 : 0 ≤ n) (h1 : n ≤ 18446744073709551615) :
    Calls Tryz.prog 158 #[.int .u64 n] w fun e w' => e = .returned (.int .i64 (bl n)) ∧ w' = w := by
  by_cases c1 : 4294967296 ≤ n
  · by_cases c2 : 65536 ≤ n / 4294967296
    · by_cases c3 : 256 ≤ n / 4294967296 / 65536
      · have q0 : 0 ≤ n / 4294967296 / 65536 / 256 := by omega
        have q1 : n / 4294967296 / 65536 / 256 ≤ 255 := by omega
        obtain ⟨b0, b1⟩ := len8_bd _ q0 q1
        have H : Hid (((56 : Nat) : Int) + Lib.len8 (n / 4294967296 / 65536 / 256) = bl n) := bl_road n _ 56 h0 (.inr (by omega)) (by omega) q1
        go_enter Tryz.func158, Tryz.ntmps158
        go_wp2
        go_ret
        exact ⟨ret_int H.out, rfl⟩
      · have q0 : 0 ≤ n / 4294967296 / 65536 := by omega
        have q1 : n / 4294967296 / 65536 ≤ 255 := by omega
        obtain ⟨b0, b1⟩ := len8_bd _ q0 q1
        have H : Hid (((48 : Nat) : Int) + Lib.len8 (n / 4294967296 / 65536) = bl n) := bl_road n _ 48 h0 (.inr (by omega)) (by omega) q1
        go_enter Tryz.func158, Tryz.ntmps158
        go_wp2
        go_ret
        exact ⟨ret_int H.out, rfl⟩
    · by_cases c3 : 256 ≤ n / 4294967296
      · have q0 : 0 ≤ n / 4294967296 / 256 := by omega
        have q1 : n / 4294967296 / 256 ≤ 255 := by omega
        obtain ⟨b0, b1⟩ := len8_bd _ q0 q1
        have H : Hid (((40 : Nat) : Int) + Lib.len8 (n / 4294967296 / 256) = bl n) := bl_road n _ 40 h0 (.inr (by omega)) (by omega) q1
        go_enter Tryz.func158, Tryz.ntmps158
        go_wp2
        go_ret
        exact ⟨ret_int H.out, rfl⟩
      · have q0 : 0 ≤ n / 4294967296 := by omega
        have q1 : n / 4294967296 ≤ 255 := by omega
        obtain ⟨b0, b1⟩ := len8_bd _ q0 q1
        have H : Hid (((32 : Nat) : Int) + Lib.len8 (n / 4294967296) = bl n) := bl_road n _ 32 h0 (.inr (by omega)) (by omega) q1
        go_enter Tryz.func158, Tryz.ntmps158
        go_wp2
        go_ret
        exact ⟨ret_int H.out, rfl⟩
  · by_cases c2 : 65536 ≤ n
    · by_cases c3 : 256 ≤ n / 65536
      · have q0 : 0 ≤ n / 65536 / 256 := by omega
        have q1 : n / 65536 / 256 ≤ 255 := by omega
        obtain ⟨b0, b1⟩ := len8_bd _ q0 q1
        have H : Hid (((24 : Nat) : Int) + Lib.len8 (n / 65536 / 256) = bl n) := bl_road n _ 24 h0 (.inr (by omega)) (by omega) q1
        go_enter Tryz.func158, Tryz.ntmps158
        go_wp2
        go_ret
        exact ⟨ret_int H.out, rfl⟩
      · have q0 : 0 ≤ n / 65536 := by omega
        have q1 : n / 65536 ≤ 255 := by omega
        obtain ⟨b0, b1⟩ := len8_bd _ q0 q1
        have H : Hid (((16 : Nat) : Int) + Lib.len8 (n / 65536) = bl n) := bl_road n _ 16 h0 (.inr (by omega)) (by omega) q1
        go_enter Tryz.func158, Tryz.ntmps158
        go_wp2
        go_ret
        exact ⟨ret_int H.out, rfl⟩
    · by_cases c3 : 256 ≤ n
      · have q0 : 0 ≤ n / 256 := by omega
        have q1 : n / 256 ≤ 255 := by omega
        obtain ⟨b0, b1⟩ := len8_bd _ q0 q1
        have H : Hid (((8 : Nat) : Int) + Lib.len8 (n / 256) = bl n) := bl_road n _ 8 h0 (.inr (by omega)) (by omega) q1
        go_enter Tryz.func158, Tryz.ntmps158
        go_wp2
        go_ret
        exact ⟨ret_int H.out, rfl⟩
      · have q1 : n ≤ 255 := by omega
        obtain ⟨b0, b1⟩ := len8_bd _ h0 q1
        have H : Hid (((0 : Nat) : Int) + Lib.len8 n = bl n) := bl_road n _ 0 h0 (.inl rfl) (by simp) q1
        go_enter Tryz.func158, Tryz.ntmps158
        go_wp2
        go_ret
        exact ⟨ret_int (by simpa using H.out), rfl⟩
theorem bl_nonneg (n : Int) : 0 ≤ bl n := by unfold bl; omega
theorem bl_le8 (n : Int) (h0 : 0 ≤ n) (h1 : n ≤ 255) : bl n ≤ 8 := by
  have := bitLen_le8 n.toNat (by omega)
  unfold bl
  omega
theorem lz8_any (n : Int) (w : World) (h0 : 0 ≤ n) (h1 : n ≤ 255) :
    Calls Tryz.prog 171 #[.int .u8 n] w fun e w' => e = .returned (.int .i64 (8 - bl n)) ∧ w' = w := by
  have b0 := bl_nonneg n
  have b1 := bl_le8 n h0 h1
  go_enter Tryz.func171, Tryz.ntmps171
  go_wp2_with (go_at_call 194; refine (len8_any _ _ (by omega) (by omega)).mono ?_; rintro e w' ⟨rfl, rfl⟩)
  go_ret
  exact ⟨rfl, rfl⟩
def toldOf (f : Int) : Int := 9 - bl (255 - f)
def leadOf (k : Int) : Int := 255 - 255 / 2 ^ (k - 1).toNat
theorem not_u8 (f : Int) (h0 : 0 ≤ f) (h1 : f ≤ 255) : bits .xor .u8 IntKind.u8.max f = 255 - f := by
  have : ∀ x : Fin 256, bits .xor .u8 IntKind.u8.max (x.val : Int) = 255 - (x.val : Int) := by decide +kernel
  have h := this ⟨f.toNat, by omega⟩
  have e : ((f.toNat : Nat) : Int) = f := by omega
  rw [show ((⟨f.toNat, by omega⟩ : Fin 256).val : Int) = f from e] at h
  exact h
theorem told_any (f : Int) (w : World) (h0 : 0 ≤ f) (h1 : f ≤ 255) :
    Calls Tryz.prog 133 #[.int .u8 f] w fun e w' => e = .returned (.int .i64 (toldOf f)) ∧ w' = w := by
  have b0 := bl_nonneg (255 - f)
  have b1 := bl_le8 (255 - f) (by omega) (by omega)
  have hx := not_u8 f h0 h1
  go_enter Tryz.func133, Tryz.ntmps133
  go_wp2_with fail
  refine (lz8_any (255 - f) _ (by omega) (by omega)).mono ?_
  rintro e w' ⟨rfl, rfl⟩
  go_wp2
  go_ret
  exact ⟨ret_int (by unfold toldOf; omega), rfl⟩
theorem lead_any (k : Int) (w : World) (h0 : 1 ≤ k) (h1 : k ≤ 9) :
    Calls Tryz.prog 134 #[.int .i64 k] w fun e w' => e = .returned (.int .u8 (leadOf k)) ∧ w' = w := by
  have hk : k = 1 ∨ k = 2 ∨ k = 3 ∨ k = 4 ∨ k = 5 ∨ k = 6 ∨ k = 7 ∨ k = 8 ∨ k = 9 := by omega
  rcases hk with rfl | rfl | rfl | rfl | rfl | rfl | rfl | rfl | rfl
  all_goals
    go_enter Tryz.func134, Tryz.ntmps134
    go_wp2
    go_ret
    exact ⟨ret_int (by decide +kernel), rfl⟩
def sizeOf (n : Int) : Int := min (max ((bl n + 6) / 7) 1) 9
theorem bl_le64 (n : Int) (h0 : 0 ≤ n) (h1 : n ≤ 18446744073709551615) : bl n ≤ 64 := by
  unfold bl bitLen
  split
  · omega
  · rename_i h
    have := (Nat.log2_lt h).2 (show n.toNat < 2 ^ 64 by omega)
    omega
theorem size_any (n : Int) (w : World) (h0 : 0 ≤ n) (h1 : n ≤ 18446744073709551615) :
    Calls Tryz.prog 122 #[.int .u64 n] w fun e w' => e = .returned (.int .i64 (sizeOf n)) ∧ w' = w := by
  have b0 := bl_nonneg n
  have b1 := bl_le64 n h0 h1
  go_enter Tryz.func122, Tryz.ntmps122
  go_wp2_with (go_at_call 158; refine (len64_any n _ h0 h1).mono ?_; rintro e w' ⟨rfl, rfl⟩)
  all_goals
    go_ret
    exact ⟨ret_int (by unfold sizeOf; omega), rfl⟩
theorem wrap_u64_id (n : Int) (h0 : 0 ≤ n) (h1 : n ≤ 18446744073709551615) : IntKind.u64.wrap n = n := by
  rw [IntKind.wrap_u64]; omega
end Go.Proofs.YtnchjlimkgbfpaaGreatDoor
