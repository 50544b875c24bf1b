/- When a rule comes next, plainly. -/
import Derived.Test.YtbnghhmmanleaaaDoorNNext
namespace Go.Proofs.YtbnghhmmanleaaaDoor
set_option linter.unusedVariables false

def dayAt (r : Ru) (n : Int) : Bool := dayOk r (dateM n).toNat (dateD n).toNat ((n + 4) % 7).toNat
theorem comes_split (r : Ru) (t : Int) : comesAt r t = (decide (secT t = 0) && (r.mi.testBit (minT t).toNat && (r.ho.testBit (hourT t).toNat && dayAt r (t / 86400)))) := rfl
theorem comes_at (r : Ru) (d : Int) (k : Nat) (hk : k < 1440) : comesAt r (86400 * d + 60 * (k : Int)) = (r.mi.testBit (k % 60) && (r.ho.testBit (k / 60) && dayAt r d)) := by
  rw [comes_split]
  have e1 : secT (86400 * d + 60 * (k : Int)) = 0 := by unfold secT; omega
  have e2 : (minT (86400 * d + 60 * (k : Int))).toNat = k % 60 := by unfold minT; omega
  have e3 : (hourT (86400 * d + 60 * (k : Int))).toNat = k / 60 := by unfold hourT; omega
  have e4 : (86400 * d + 60 * (k : Int)) / 86400 = d := by omega
  rw [e1, e2, e3, e4]
  rfl
theorem comes_sec {r : Ru} {t : Int} (h : secT t ≠ 0) : comesAt r t = false := by
  rw [comes_split, decide_eq_false h, Bool.false_and]
theorem comes_day {r : Ru} {t : Int} (h : dayAt r (t / 86400) = false) : comesAt r t = false := by
  rw [comes_split, h]
  simp
/-- Of a second: the least behind it at which a rule comes; or none. -/
def NextQ (r : Ru) (t a : Int) (is : Bool) : Prop :=
  (is = true ∧ t < a ∧ 0 ≤ a ∧ a < 32503680000 ∧ comesAt r a = true ∧ ∀ b, t < b → b < a → comesAt r b = false) ∨ (is = false ∧ a = 0 ∧ ∀ b, t < b → b < 32503680000 → comesAt r b = false)
theorem NextQ.one {r : Ru} {t a a' : Int} {is is' : Bool} (h : NextQ r t a is) (h' : NextQ r t a' is') : a = a' ∧ is = is' := by
  rcases h with ⟨rfl, h1, h2, h3, h4, h5⟩ | ⟨rfl, h1, h2⟩ <;> rcases h' with ⟨rfl, k1, k2, k3, k4, k5⟩ | ⟨rfl, k1, k2⟩
  · refine ⟨?_, rfl⟩
    by_cases c : a < a'
    · rw [k5 a h1 c] at h4; cases h4
    · by_cases c2 : a' < a
      · rw [h5 a' k1 c2] at k4; cases k4
      · omega
  · rw [k2 a h1 h3] at h4; cases h4
  · rw [h2 a' k1 k3] at k4; cases k4
  · exact ⟨by omega, rfl⟩
/-- What Next says. -/
def NextR (r : Ru) (t a : Int) (is : Bool) (e : Int) : Prop :=
  (checkP r ≠ 0 ∧ a = 0 ∧ is = false ∧ e = 9) ∨ (checkP r = 0 ∧ (t < -1 ∨ 32503680000 ≤ t) ∧ a = 0 ∧ is = false ∧ e = 4) ∨ (checkP r = 0 ∧ -1 ≤ t ∧ t < 32503680000 ∧ e = 0 ∧ NextQ r t a is)
theorem NextR.one {r : Ru} {t a a' e e' : Int} {is is' : Bool} (h : NextR r t a is e) (h' : NextR r t a' is' e') : a = a' ∧ is = is' ∧ e = e' := by
  rcases h with ⟨h0, h1, h2, h3⟩ | ⟨h0, h1, h2, h3, h4⟩ | ⟨h0, h1, h2, h3, h4⟩ <;> rcases h' with ⟨k0, k1, k2, k3⟩ | ⟨k0, k1, k2, k3, k4⟩ | ⟨k0, k1, k2, k3, k4⟩
  · exact ⟨by omega, by rw [h2, k2], by omega⟩
  · exact absurd k0 h0
  · exact absurd k0 h0
  · exact absurd h0 k0
  · exact ⟨by omega, by rw [h3, k3], by omega⟩
  · omega
  · exact absurd h0 k0
  · omega
  · have := h4.one k4
    exact ⟨this.1, this.2, by omega⟩
end Go.Proofs.YtbnghhmmanleaaaDoor
