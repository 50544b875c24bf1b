/- Sets of numbers as bits of a uint64: the document's has and all. -/
import Derived.Test.YtbnghhmmanleaaaDoorCJoin
namespace Go.Proofs.YtbnghhmmanleaaaDoor
open Go.RowKit
set_option linter.unusedVariables false
set_option linter.unusedSimpArgs false

/-- The set of the numbers below n that p tells. -/
def setN : Nat → (Nat → Bool) → Nat
  | 0, _ => 0
  | n + 1, p => setN n p ||| (if p n then 2 ^ n else 0)
theorem setN_bit (n : Nat) (p : Nat → Bool) (j : Nat) : (setN n p).testBit j = (decide (j < n) && p j) := by
  induction n with
  | zero => simp [setN]
  | succ n ih =>
    simp only [setN, Nat.testBit_or, ih]
    by_cases c : p n = true
    · rw [if_pos c, Nat.testBit_two_pow]
      by_cases e : n = j
      · subst e; simp [c]
      · have : (decide (j < n + 1)) = decide (j < n) := by rw [decide_eq_decide]; omega
        simp [e, this]
    · rw [if_neg c, Nat.zero_testBit, Bool.or_false]
      by_cases e : j = n
      · subst e
        have : p j = false := by simpa using c
        simp [this]
      · have : (decide (j < n + 1)) = decide (j < n) := by rw [decide_eq_decide]; omega
        rw [this]
theorem lt_of_bits {s n : Nat} (h : ∀ j, n ≤ j → s.testBit j = false) : s < 2 ^ n := Nat.lt_pow_two_of_testBit s h
theorem setN_lt (n : Nat) (p : Nat → Bool) : setN n p < 2 ^ n := lt_of_bits fun j hj => by
  rw [setN_bit]
  have : ¬ j < n := by omega
  simp [this]
theorem bit_far {s j : Nat} (hs : s < 18446744073709551616) (hj : 64 ≤ j) : s.testBit j = false :=
  Nat.testBit_lt_two_pow (Nat.lt_of_lt_of_le (show s < 2 ^ 64 from hs) (Nat.pow_le_pow_right (by decide) hj))
theorem set_ext {s t : Nat} (hs : s < 18446744073709551616) (ht : t < 18446744073709551616) (h : ∀ j, j < 64 → s.testBit j = t.testBit j) : s = t := by
  apply Nat.eq_of_testBit_eq
  intro j
  by_cases c : j < 64
  · exact h j c
  · rw [bit_far hs (by omega), bit_far ht (by omega)]
theorem set_eq {s : Nat} {p : Nat → Bool} (hs : s < 18446744073709551616) (h : ∀ j, j < 64 → s.testBit j = p j) : s = setN 64 p := by
  refine set_ext hs (setN_lt 64 p) fun j hj => ?_
  rw [setN_bit, h j hj]
  simp [hj]
theorem bit_and (a b : Nat) (ha : a < 18446744073709551616) (hb : b < 18446744073709551616) : bits .and .u64 (a : Int) (b : Int) = ((a &&& b : Nat) : Int) := by
  have := u64_and (a : Int) (b : Int) (by omega) (by omega) (by omega) (by omega)
  simpa using this
theorem bit_or (a b : Nat) (ha : a < 18446744073709551616) (hb : b < 18446744073709551616) : bits .or .u64 (a : Int) (b : Int) = ((a ||| b : Nat) : Int) := by
  have := u64_or (a : Int) (b : Int) (by omega) (by omega) (by omega) (by omega)
  simpa using this
theorem or_lt {a b : Nat} (ha : a < 18446744073709551616) (hb : b < 18446744073709551616) : a ||| b < 18446744073709551616 := Nat.or_lt_two_pow (n := 64) ha hb
theorem pow_lt {k : Nat} (hk : k < 64) : 2 ^ k < 18446744073709551616 := Nat.pow_lt_pow_right (a := 2) (by decide) (show k < 64 from hk)
theorem pow_wrap {k : Nat} (hk : k < 64) : IntKind.u64.wrap (2 ^ k) = ((2 ^ k : Nat) : Int) := by
  have h := pow_lt hk
  rw [IntKind.wrap_u64]
  have e : (2 : Int) ^ k = ((2 ^ k : Nat) : Int) := by simp
  rw [e]
  generalize 2 ^ k = x at *
  omega
theorem has_test (s k : Nat) (hs : s < 18446744073709551616) : (bits .and .u64 ((s : Int) / 2 ^ k) 1 == 1) = s.testBit k := by
  have e : ((s : Int) / 2 ^ k) = ((s / 2 ^ k : Nat) : Int) := by simp
  have h1 : s / 2 ^ k < 18446744073709551616 := Nat.lt_of_le_of_lt (Nat.div_le_self _ _) hs
  have := bit_and (s / 2 ^ k) 1 h1 (by decide)
  rw [e]
  rw [show (1 : Int) = ((1 : Nat) : Int) from rfl, this, Nat.and_one_is_mod, Nat.testBit_eq_decide_div_mod_eq, Bool.eq_iff_iff, beq_iff_eq, decide_eq_true_eq]
  omega
theorem has_any (s k : Nat) (hs : s < 18446744073709551616) (hk : k < 64) (w : World) : Calls Tryd.prog 35 #[.int .u64 (s : Int), .int .i64 (k : Int)] w fun e w' => e = .returned (.bool (s.testBit k)) ∧ w' = w := by
  have e := hid (has_test s k hs)
  go_enter Tryd.func35, Tryd.ntmps35
  go_wp2
  go_ret
  exact ⟨ret_bool e.out, rfl⟩
/-- All from one number to another one. -/
def allN (a b : Nat) : Nat := setN 64 fun j => decide (a ≤ j) && decide (j ≤ b)
theorem all_any (a b : Nat) (hb : b < 64) (w : World) : Calls Tryd.prog 30 #[.int .i64 (a : Int), .int .i64 (b : Int)] w fun e w' => e = .returned (.int .u64 (allN a b : Int)) ∧ w' = w := by
  go_enter Tryd.func30, Tryd.ntmps30
  go_wp2
  go_loopw [5, 6] (fun s i wr => ∃ (k n : Nat), i = .int .i64 (k : Int) ∧ a ≤ k ∧ (k ≤ b + 1 ∨ k = a) ∧ s = .int .u64 (n : Int) ∧ n < 18446744073709551616 ∧ Hid (∀ j, j < 64 → n.testBit j = (decide (a ≤ j) && decide (j < k))) ∧ w = wr) (fun _ q _ => (65 - intOf q).toNat)
  case atStart => exact ⟨a, 0, rfl, by omega, by omega, rfl, by omega, fun j _ => by rw [Nat.zero_testBit]; simp, rfl⟩
  case round =>
    obtain ⟨k, n, rfl, k0, k1, rfl, n0, hn, rfl⟩ := hrel
    by_cases c : (k : Int) ≤ (b : Int)
    · have pw := pow_wrap (k := k) (by omega)
      have po := bit_or n (2 ^ k) n0 (pow_lt (by omega))
      have N2 : Hid (n ||| 2 ^ k < 18446744073709551616) := or_lt n0 (pow_lt (by omega))
      have HB : Hid (∀ j, j < 64 → (n ||| 2 ^ k).testBit j = (decide (a ≤ j) && decide (j < k + 1))) := by
        intro j hj
        rw [Nat.testBit_or, hn.out j hj, Nat.testBit_two_pow, Bool.eq_iff_iff]
        simp
        omega
      go_wp2
      refine ⟨⟨k + 1, n ||| 2 ^ k, by go_num, by omega, by omega, by rw [show ((2 : Int) ^ k) = ((2 ^ k : Nat) : Int) by simp, po], N2, HB, by first | rfl | trivial⟩, by simp [intOf]; omega⟩
    · have E : Hid (n = allN a b) := set_eq n0 fun j hj => by
        rw [hn.out j hj, Bool.eq_iff_iff]
        simp only [Bool.and_eq_true, decide_eq_true_eq]
        omega
      go_wp2
      go_ret
      exact ⟨by rw [← E.out]; rfl, rfl⟩
end Go.Proofs.YtbnghhmmanleaaaDoor
