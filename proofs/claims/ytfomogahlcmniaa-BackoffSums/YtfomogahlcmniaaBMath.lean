/- Delays, plainly. -/
import Derived.Test.YtfomogahlcmniaaLUp
namespace Go.Proofs.Ytfomogahlcmniaa
set_option linter.unusedVariables false

def LimOk (b c n : Int) : Prop := 1 ≤ b ∧ b ≤ 1048576 ∧ b ≤ c ∧ c ≤ 1073741824 ∧ 1 ≤ n ∧ n ≤ 16
instance (b c n : Int) : Decidable (LimOk b c n) := inferInstanceAs (Decidable (_ ∧ _))
def chkP (b c n : Int) : Int := if LimOk b c n then 0 else 4
/-- The delay behind k failures. -/
def delN (b c : Int) (k : Nat) : Int := if b * 2 ^ k < c then b * 2 ^ k else c
def delayP (b c n k : Int) : Int × Int := if LimOk b c n ∧ 0 ≤ k then (delN b c k.toNat, 0) else (0, 4)
def dueP (b c n now k : Int) : Int × Int := if (LimOk b c n ∧ 0 ≤ k) ∧ 0 ≤ now ∧ now + delN b c k.toNat < 32503680000 then (now + delN b c k.toNat, 0) else (0, 4)
def sumD (b c : Int) : Nat → Int
  | 0 => 0
  | k + 1 => sumD b c k + delN b c k
def totalP (b c n : Int) : Int × Int := if LimOk b c n then (sumD b c (n - 1).toNat, 0) else (0, 4)
theorem pow_step (b : Int) (k : Nat) : b * 2 ^ (k + 1) = 2 * (b * 2 ^ k) := by
  rw [Int.pow_succ, Int.mul_comm (2 ^ k) 2, Int.mul_left_comm]
theorem pow_up {b : Int} (h : 1 ≤ b) (k j : Nat) : b * 2 ^ k ≤ b * 2 ^ (k + j) := by
  induction j with
  | zero => exact Int.le_refl _
  | succ j ih =>
    rw [← Nat.add_assoc, pow_step]
    have h0 : 0 ≤ b * 2 ^ (k + j) := Int.mul_nonneg (by omega) (Int.le_of_lt (Int.pow_pos (by decide)))
    omega
theorem pow_one {b : Int} (h : 1 ≤ b) (k : Nat) : 1 ≤ b * 2 ^ k := by
  have := pow_up h 0 k
  rw [Nat.zero_add] at this
  simp at this
  omega
theorem delN_le {b c n : Int} (h : LimOk b c n) (k : Nat) : b ≤ delN b c k ∧ delN b c k ≤ c := by
  obtain ⟨h1, h2, h3, h4, h5, h6⟩ := h
  have := pow_up h1 0 k
  rw [Nat.zero_add] at this
  simp at this
  unfold delN
  split <;> omega
theorem delN_step {b c n : Int} (h : LimOk b c n) (k : Nat) : delN b c k ≤ delN b c (k + 1) ∧ (delN b c (k + 1) = 2 * delN b c k ∨ delN b c (k + 1) = c) := by
  obtain ⟨h1, h2, h3, h4, h5, h6⟩ := h
  have h0 := pow_one h1 k
  unfold delN
  rw [pow_step]
  split <;> split <;> omega
theorem delN_zero {b c n : Int} (h : LimOk b c n) : delN b c 0 = b := by
  obtain ⟨h1, h2, h3, h4, h5, h6⟩ := h
  unfold delN
  simp
  omega
/-- Behind the 31st failure it is the cap. -/
theorem delN_far {b c n : Int} (h : LimOk b c n) (k : Nat) (hk : 31 ≤ k) : delN b c k = c := by
  obtain ⟨h1, h2, h3, h4, h5, h6⟩ := h
  unfold delN
  rw [if_neg]
  have h0 := pow_up h1 31 (k - 31)
  rw [show 31 + (k - 31) = k by omega] at h0
  have : b * 2 ^ 31 = b * 2147483648 := rfl
  omega
theorem few {b c n : Int} (h : LimOk b c n) {j : Nat} (hj : b * 2 ^ j < c) : j < 31 := by
  by_cases q : j < 31
  · exact q
  · have := delN_far h j (by omega)
    unfold delN at this
    rw [if_pos hj] at this
    omega
theorem sumD_le {b c n : Int} (h : LimOk b c n) (k : Nat) : 0 ≤ sumD b c k ∧ sumD b c k ≤ 1073741824 * k := by
  induction k with
  | zero => exact ⟨Int.le_refl _, by simp [sumD]⟩
  | succ k ih =>
    have := delN_le h k
    obtain ⟨h1, h2, h3, h4, h5, h6⟩ := h
    simp only [sumD]
    omega
end Go.Proofs.Ytfomogahlcmniaa
