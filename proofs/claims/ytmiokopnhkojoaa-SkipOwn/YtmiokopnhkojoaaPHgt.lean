/- The height of a draw, the program's and the document's. -/
import Derived.Test.YtmiokopnhkojoaaLBase
namespace Go.Proofs.Ytmiokopnhkojoaa
open Go.RowKit
set_option linter.unusedVariables false
set_option linter.unusedSimpArgs false

/-- h is how high a draw asks for. -/
def IsH (d : Nat) (h : Nat) : Prop := 1 ≤ h ∧ h ≤ 8 ∧ (∀ j, j < h - 1 → (d / 4 ^ j) % 4 = 0) ∧ (h = 8 ∨ (d / 4 ^ (h - 1)) % 4 ≠ 0)
theorem IsH.one {d h k : Nat} (a : IsH d h) (b : IsH d k) : h = k := by
  obtain ⟨a1, a2, a3, a4⟩ := a
  obtain ⟨b1, b2, b3, b4⟩ := b
  rcases Nat.lt_trichotomy h k with q | q | q
  · rcases a4 with r | r
    · omega
    · exact absurd (b3 (h - 1) (by omega)) r
  · exact q
  · rcases b4 with r | r
    · omega
    · exact absurd (a3 (k - 1) (by omega)) r
theorem and3 (n : Nat) (hn : n < 18446744073709551616) : bits .and .u64 (n : Int) 3 = ((n % 4 : Nat) : Int) := by
  have e : n &&& 3 = n % 4 := Nat.and_two_pow_sub_one_eq_mod n 2
  have h := bits_and_u64_nat n 3 (by omega) (by omega)
  rw [e] at h
  exact h

set_option maxRecDepth 100000 in
theorem height_any (d : Nat) (hd : d < 18446744073709551616) (w : World) :
    Calls Try.prog 21 #[.int .u64 (d : Int)] w fun e w' => ∃ h : Nat, e = .returned (.int .i64 (h : Int)) ∧ Hid (IsH d h) ∧ w' = w := by
  go_enter Try.func21, Try.ntmps21
  go_wp2_with fail
  go_loopw [0, 3, 4] (fun p q r wr => ∃ i D : Nat, i ≤ 7 ∧ p = .int .u64 (D : Int) ∧ q = .int .i64 ((i : Int) + 1) ∧ r = .int .i64 (i : Int) ∧ Hid (D = d / 4 ^ i) ∧ Hid (∀ j, j < i → (d / 4 ^ j) % 4 = 0) ∧ wr = w) (fun _ _ r _ => 7 - (intOf r).toNat)
  case atStart => exact ⟨0, d, by omega, by simp, rfl, rfl, by simp [Hid], fun j h => by omega, rfl⟩
  case round =>
    obtain ⟨i, D, hi, rfl, rfl, rfl, HD, HZ, rfl⟩ := hrel
    have hD : D < 18446744073709551616 := by
      rw [HD.out]
      exact Nat.lt_of_le_of_lt (Nat.div_le_self _ _) hd
    have A3 := and3 D hD
    by_cases hlt : i < 7
    · have hlt' : (i : Int) < 7 := by omega
      by_cases hz : D % 4 = 0
      · rw [hz] at A3
        go_wp2_with fail
        refine ⟨⟨i + 1, D / 4, by omega, by simp, by go_num, by go_num, ?_, ?_, trivial⟩, by simp [intOf]; omega⟩
        · unfold Hid
          rw [HD.out, Nat.div_div_eq_div_mul, Nat.pow_succ]
        · intro j hj
          by_cases e : j < i
          · exact HZ.out j e
          · obtain rfl : j = i := by omega
            rw [← HD.out]; exact hz
      · have hz' : ¬ ((D % 4 : Nat) : Int) = 0 := by omega
        have hz2 : (((D % 4 : Nat) : Int) != 0) = true := by simp; omega
        generalize hE : ((D % 4 : Nat) : Int) = E at *
        go_wp2_with fail
        go_ret
        refine ⟨i + 1, by go_num, ?_, rfl⟩
        refine ⟨by omega, by omega, fun j hj => HZ.out j (by omega), .inr ?_⟩
        have := HD.out
        simp only [Nat.add_sub_cancel]
        rw [← this]
        exact hz
    · obtain rfl : i = 7 := by omega
      go_wp2_with fail
      go_ret
      exact ⟨8, by go_num, ⟨by omega, by omega, fun j hj => HZ.out j (by omega), .inl rfl⟩, rfl⟩

set_option maxRecDepth 100000 in
theorem refHeight_any (d : Nat) (hd : d < 18446744073709551616) (w : World) :
    Calls Try.prog 22 #[.int .u64 (d : Int)] w fun e w' => ∃ h : Nat, e = .returned (.int .i64 (h : Int)) ∧ Hid (IsH d h) ∧ w' = w := by
  go_enter Try.func22, Try.ntmps22
  go_wp2_with fail
  go_loopw [3] (fun q wr => ∃ i : Nat, i ≤ 7 ∧ q = .int .i64 ((i : Int) + 1) ∧ Hid (∀ j, j < i → (d / 4 ^ j) % 4 = 0) ∧ wr = w) (fun r _ => 8 - (intOf r).toNat)
  case atStart => exact ⟨0, by omega, by simp, fun j h => by omega, rfl⟩
  case round =>
    obtain ⟨i, hi, rfl, HZ, rfl⟩ := hrel
    have hD : d / 4 ^ i < 18446744073709551616 := Nat.lt_of_le_of_lt (Nat.div_le_self _ _) hd
    have A3 := and3 _ hD
    have HE : Hid ((d : Int) / 2 ^ (2 * (i : Int)).toNat = ((d / 4 ^ i : Nat) : Int)) := by
      unfold Hid
      have e1 : (2 * (i : Int)).toNat = 2 * i := by omega
      rw [e1, show (2 : Int) ^ (2 * i) = ((4 ^ i : Nat) : Int) by rw [Int.pow_mul]; simp]
      simp
    by_cases hlt : i < 7
    · have hlt' : (i : Int) + 1 < 8 := by omega
      have e2 : (i : Int) + 1 - 1 = i := by omega
      have e4 : 0 ≤ 2 * (i : Int) := by omega
      have e5 : 2 * (i : Int) ≤ 64 := by omega
      have e6 := HE.out
      generalize hDD : d / 4 ^ i = D at *
      generalize hEE : (d : Int) / 2 ^ (2 * (i : Int)).toNat = E at *
      subst e6
      by_cases hz : D % 4 = 0
      · rw [hz] at A3
        go_wp2_with fail
        refine ⟨⟨i + 1, by omega, by go_num, ?_, trivial⟩, by simp [intOf]; omega⟩
        intro j hj
        by_cases e : j < i
        · exact HZ.out j e
        · obtain rfl : j = i := by omega
          rw [hDD]; exact hz
      · have hz' : ¬ ((D % 4 : Nat) : Int) = 0 := by omega
        have hz2 : (((D % 4 : Nat) : Int) == 0) = false := by simp; omega
        generalize hE : ((D % 4 : Nat) : Int) = E at *
        go_wp2_with fail
        go_ret
        refine ⟨i + 1, by go_num, ?_, rfl⟩
        refine ⟨by omega, by omega, fun j hj => HZ.out j (by omega), .inr ?_⟩
        simp only [Nat.add_sub_cancel]
        rw [hDD]
        exact hz
    · obtain rfl : i = 7 := by omega
      go_wp2_with fail
      go_ret
      exact ⟨8, by go_num, ⟨by omega, by omega, fun j hj => HZ.out j (by omega), .inl rfl⟩, rfl⟩
end Go.Proofs.Ytmiokopnhkojoaa
