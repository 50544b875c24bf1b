
import Derived.Test.YtnchjlimkgbfpaaGreatDoorVLay
namespace Go.Proofs.YtnchjlimkgbfpaaGreatDoor
open Go.RowKit
theorem bl_up (n : Int) (b : Nat) (h0 : 0 ≤ n) (h : n < 2 ^ b) : bl n ≤ b := by
  unfold bl bitLen
  split
  · omega
  · rename_i hn
    have hx : n.toNat < 2 ^ b := by
      have : ((2 ^ b : Nat) : Int) = 2 ^ b := by simp
      omega
    have := (Nat.log2_lt hn).2 hx
    omega
theorem bl_down (n : Int) (b : Nat) (h : (2 : Int) ^ b ≤ n) : (b : Int) + 1 ≤ bl n := by
  have e : ((2 ^ b : Nat) : Int) = 2 ^ b := by simp
  have hp : 0 < 2 ^ b := Nat.two_pow_pos b
  have hn : n.toNat ≠ 0 := by omega
  have hx : 2 ^ b ≤ n.toNat := by omega
  have := (Nat.le_log2 hn).2 hx
  unfold bl bitLen
  rw [if_neg hn]
  omega
theorem size_cases (n : Int) (h0 : 0 ≤ n) (h1 : n ≤ 18446744073709551615) :
    (sizeOf n = 1 ∧ 0 ≤ n ∧ n ≤ 127) ∨ (sizeOf n = 2 ∧ 128 ≤ n ∧ n ≤ 16383) ∨ (sizeOf n = 3 ∧ 16384 ≤ n ∧ n ≤ 2097151) ∨ (sizeOf n = 4 ∧ 2097152 ≤ n ∧ n ≤ 268435455) ∨ (sizeOf n = 5 ∧ 268435456 ≤ n ∧ n ≤ 34359738367) ∨ (sizeOf n = 6 ∧ 34359738368 ≤ n ∧ n ≤ 4398046511103) ∨ (sizeOf n = 7 ∧ 4398046511104 ≤ n ∧ n ≤ 562949953421311) ∨ (sizeOf n = 8 ∧ 562949953421312 ≤ n ∧ n ≤ 72057594037927935) ∨ (sizeOf n = 9 ∧ 72057594037927936 ≤ n ∧ n ≤ 18446744073709551615) := by
  have b0 := bl_nonneg n
  have b64 := bl_le64 n h0 h1
  by_cases c1 : n < 128
  · have u := bl_up n 7 h0 (by show n < 128; exact c1); exact .inl ⟨by unfold sizeOf; omega, by omega, by omega⟩
  by_cases c2 : n < 16384
  · have u := bl_up n 14 h0 (by show n < 16384; exact c2); have d := bl_down n 7 (by show 128 ≤ n; omega); exact .inr (.inl ⟨by unfold sizeOf; omega, by omega, by omega⟩)
  by_cases c3 : n < 2097152
  · have u := bl_up n 21 h0 (by show n < 2097152; exact c3); have d := bl_down n 14 (by show 16384 ≤ n; omega); exact .inr (.inr (.inl ⟨by unfold sizeOf; omega, by omega, by omega⟩))
  by_cases c4 : n < 268435456
  · have u := bl_up n 28 h0 (by show n < 268435456; exact c4); have d := bl_down n 21 (by show 2097152 ≤ n; omega); exact .inr (.inr (.inr (.inl ⟨by unfold sizeOf; omega, by omega, by omega⟩)))
  by_cases c5 : n < 34359738368
  · have u := bl_up n 35 h0 (by show n < 34359738368; exact c5); have d := bl_down n 28 (by show 268435456 ≤ n; omega); exact .inr (.inr (.inr (.inr (.inl ⟨by unfold sizeOf; omega, by omega, by omega⟩))))
  by_cases c6 : n < 4398046511104
  · have u := bl_up n 42 h0 (by show n < 4398046511104; exact c6); have d := bl_down n 35 (by show 34359738368 ≤ n; omega); exact .inr (.inr (.inr (.inr (.inr (.inl ⟨by unfold sizeOf; omega, by omega, by omega⟩)))))
  by_cases c7 : n < 562949953421312
  · have u := bl_up n 49 h0 (by show n < 562949953421312; exact c7); have d := bl_down n 42 (by show 4398046511104 ≤ n; omega); exact .inr (.inr (.inr (.inr (.inr (.inr (.inl ⟨by unfold sizeOf; omega, by omega, by omega⟩))))))
  by_cases c8 : n < 72057594037927936
  · have u := bl_up n 56 h0 (by show n < 72057594037927936; exact c8); have d := bl_down n 49 (by show 562949953421312 ≤ n; omega); exact .inr (.inr (.inr (.inr (.inr (.inr (.inr (.inl ⟨by unfold sizeOf; omega, by omega, by omega⟩)))))))
  have d := bl_down n 56 (by show 72057594037927936 ≤ n; omega)
  exact .inr (.inr (.inr (.inr (.inr (.inr (.inr (.inr (⟨by unfold sizeOf; omega, by omega, by omega⟩))))))))
def octets (n : Int) : List Int := octs n (sizeOf n).toNat
end Go.Proofs.YtnchjlimkgbfpaaGreatDoor
