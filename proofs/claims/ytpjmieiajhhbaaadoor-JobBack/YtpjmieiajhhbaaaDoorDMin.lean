/- The program's minuteFrom. -/
import Derived.Test.YtpjmieiajhhbaaaDoorDFits
namespace Go.Proofs.YtpjmieiajhhbaaaDoor
open Go.RowKit
set_option linter.unusedVariables false
set_option linter.unusedSimpArgs false

theorem okS_sub {s a b : Nat} (hs : s < 18446744073709551616) (h : okS s (allN a b) = true) : s ≠ 0 ∧ ∀ j, s.testBit j = true → a ≤ j ∧ j ≤ b := by
  unfold okS at h
  rw [Bool.and_eq_true] at h
  obtain ⟨h1, h2⟩ := h
  have h1 : s ≠ 0 := by simpa using h1
  have h2 : s &&& (18446744073709551615 - allN a b) = 0 := by simpa using h2
  refine ⟨h1, fun j hj => ?_⟩
  have hj64 : j < 64 := by
    by_cases c : j < 64
    · exact c
    · rw [bit_far hs (by omega)] at hj
      cases hj
  have e : (18446744073709551615 - allN a b) = 2 ^ 64 - (allN a b + 1) := by
    have : allN a b < 18446744073709551616 := setN_lt 64 _
    omega
  have hb : (s &&& (18446744073709551615 - allN a b)).testBit j = false := by rw [h2, Nat.zero_testBit]
  rw [Nat.testBit_and, hj, Bool.true_and, e, Nat.testBit_two_pow_sub_succ (show allN a b < 2 ^ 64 from setN_lt 64 _), decide_eq_true hj64, Bool.true_and] at hb
  have hb : (allN a b).testBit j = true := by simpa using hb
  rw [allN_bit a b j hj64] at hb
  simpa using hb
theorem check_sets {r : Ru} (hr : r.ok) (hc : checkP r = 0) : (r.mi ≠ 0 ∧ ∀ j, r.mi.testBit j = true → j < 60) ∧ (r.ho ≠ 0 ∧ ∀ j, r.ho.testBit j = true → j < 24) := by
  unfold checkP at hc
  have h : (okAll r && (!(r.ad && r.da != allN 1 31) && !(r.aw && r.we != allN 0 6))) = true := Classical.byContradiction fun q => by rw [if_neg q] at hc; cases hc
  rw [Bool.and_eq_true] at h
  have h := h.1
  unfold okAll at h
  simp only [Bool.and_eq_true] at h
  obtain ⟨h0, h1, -, -, -⟩ := h
  have a0 := okS_sub (hr _ (by simp [Ru.sets])) h0
  have a1 := okS_sub (hr _ (by simp [Ru.sets])) h1
  exact ⟨⟨a0.1, fun j hj => by have := a0.2 j hj; omega⟩, ⟨a1.1, fun j hj => by have := a1.2 j hj; omega⟩⟩
/-- The first minute of a day from one on. -/
def minF (r : Ru) (f : Nat) : Nat × Bool := if r.ho.testBit (f / 60) && leastB r.mi (f % 60) then (f / 60 * 60 + leastN r.mi (f % 60), true) else (leastN r.ho (f / 60 + 1) * 60 + leastN r.mi 0, leastB r.ho (f / 60 + 1))
def minOk (r : Ru) (k : Nat) : Bool := r.mi.testBit (k % 60) && r.ho.testBit (k / 60)
theorem minF_spec {r : Ru} (hr : r.ok) (hc : checkP r = 0) (f : Nat) (hf : f < 1440) :
    ((minF r f).2 = true ∧ f ≤ (minF r f).1 ∧ (minF r f).1 < 1440 ∧ minOk r (minF r f).1 = true ∧ ∀ k, f ≤ k → k < (minF r f).1 → minOk r k = false) ∨ ((minF r f).2 = false ∧ ∀ k, f ≤ k → k < 1440 → minOk r k = false) := by
  obtain ⟨⟨m0, m1⟩, h0, h1⟩ := check_sets hr hc
  have sm : r.mi < 18446744073709551616 := hr _ (by simp [Ru.sets])
  have sh : r.ho < 18446744073709551616 := hr _ (by simp [Ru.sets])
  have A := least_spec r.mi (f % 60) sm
  have B := least_spec r.ho (f / 60 + 1) sh
  have C := least_spec r.mi 0 sm
  have C : leastN r.mi 0 < 60 ∧ r.mi.testBit (leastN r.mi 0) = true ∧ ∀ j, j < leastN r.mi 0 → r.mi.testBit j = false := by
    rcases C with ⟨-, -, -, c, d⟩ | ⟨-, -, c⟩
    · exact ⟨m1 _ c, c, fun j hj => d j (by omega) hj⟩
    · exfalso
      apply m0
      apply Nat.eq_of_testBit_eq
      intro j
      rw [c j (by omega), Nat.zero_testBit]
  -- what is not in this hour
  have none_here : (r.ho.testBit (f / 60) && leastB r.mi (f % 60)) = false → ∀ k, f ≤ k → k / 60 = f / 60 → minOk r k = false := by
    intro hn k h1 h2
    unfold minOk
    rw [h2]
    cases hh : r.ho.testBit (f / 60)
    · simp
    · rw [hh, Bool.true_and] at hn
      rcases A with ⟨a, -⟩ | ⟨-, -, a⟩
      · rw [a] at hn; cases hn
      · rw [a (k % 60) (by omega)]
        simp
  unfold minF
  by_cases h : (r.ho.testBit (f / 60) && leastB r.mi (f % 60)) = true
  · rw [if_pos h]
    rw [Bool.and_eq_true] at h
    rcases A with ⟨a0, a1, a2, a3, a4⟩ | ⟨a0, -⟩
    · have a5 := m1 _ a3
      left
      have e1 : (f / 60 * 60 + leastN r.mi (f % 60)) % 60 = leastN r.mi (f % 60) := by omega
      have e2 : (f / 60 * 60 + leastN r.mi (f % 60)) / 60 = f / 60 := by omega
      refine ⟨rfl, by show f ≤ _; omega, by show f / 60 * 60 + leastN r.mi (f % 60) < 1440; omega, ?_, fun k k0 k1 => ?_⟩
      · show minOk r (f / 60 * 60 + leastN r.mi (f % 60)) = true
        unfold minOk
        rw [e1, e2, a3, h.1]
        rfl
      · have k1 : k < f / 60 * 60 + leastN r.mi (f % 60) := k1
        unfold minOk
        rw [a4 (k % 60) (by omega) (by omega)]
        rfl
    · rw [a0] at h
      exact absurd h.2 (by simp)
  · rw [if_neg h]
    have hn := none_here (by simpa using h)
    rcases B with ⟨b0, b1, b2, b3, b4⟩ | ⟨b0, b1, b2⟩
    · have b5 := h1 _ b3
      left
      have e1 : (leastN r.ho (f / 60 + 1) * 60 + leastN r.mi 0) % 60 = leastN r.mi 0 := by omega
      have e2 : (leastN r.ho (f / 60 + 1) * 60 + leastN r.mi 0) / 60 = leastN r.ho (f / 60 + 1) := by omega
      refine ⟨b0, by show f ≤ _; omega, by show leastN r.ho (f / 60 + 1) * 60 + leastN r.mi 0 < 1440; omega, ?_, fun k k0 k1 => ?_⟩
      · show minOk r (leastN r.ho (f / 60 + 1) * 60 + leastN r.mi 0) = true
        unfold minOk
        rw [e1, e2, b3, C.2.1]
        rfl
      · have k1 : k < leastN r.ho (f / 60 + 1) * 60 + leastN r.mi 0 := k1
        by_cases c : k / 60 = f / 60
        · exact hn k k0 c
        · unfold minOk
          by_cases c2 : k / 60 < leastN r.ho (f / 60 + 1)
          · rw [b4 (k / 60) (by omega) c2, Bool.and_false]
          · rw [C.2.2 (k % 60) (by omega)]
            rfl
    · right
      refine ⟨b0, fun k k0 k1 => ?_⟩
      by_cases c : k / 60 = f / 60
      · exact hn k k0 c
      · unfold minOk
        rw [b2 (k / 60) (by omega), Bool.and_false]
set_option maxHeartbeats 1000000 in
theorem minuteFrom_any (r : Ru) (hr : r.ok) (f : Nat) (hf : f < 1440) (w : World) (he : Env w) :
    Calls Tryd.prog 81 #[ruV r, .int .i64 (f : Int)] w fun e w' => e = .returned (.tuple #[.int .i64 ((minF r f).1 : Nat), .bool (minF r f).2]) ∧ Below w.heap.size w w' := by
  have sm : r.mi < 18446744073709551616 := hr _ (by simp [Ru.sets])
  have sh : r.ho < 18446744073709551616 := hr _ (by simp [Ru.sets])
  have q1 : Int.tdiv (f : Int) 60 = ((f / 60 : Nat) : Int) := by
    rw [Int.tdiv_eq_ediv_of_nonneg (by omega)]
    omega
  have q2 : Int.tmod (f : Int) 60 = ((f % 60 : Nat) : Int) := by
    rw [Int.tmod_eq_emod_of_nonneg (by omega)]
    omega
  have H1 : Hid (∀ w', Calls Tryd.prog 93 #[.int .u64 (r.ho : Int), .int .i64 ((f / 60 : Nat) : Int)] w' fun e w'' => e = .returned (.bool (r.ho.testBit (f / 60))) ∧ w'' = w') := fun w' => hasP_any _ _ sh (by omega) w'
  have H2 : Hid (∀ w', Below w.heap.size w w' → Calls Tryd.prog 94 #[.int .u64 (r.mi : Int), .int .i64 ((f % 60 : Nat) : Int)] w' fun e w'' => e = .returned (.tuple #[.int .i64 (leastN r.mi (f % 60) : Nat), .bool (leastB r.mi (f % 60))]) ∧ w'' = w') := fun w' hb => least_any _ _ sm (by omega) w' (he.up hb)
  have H3 : Hid (∀ w', Below w.heap.size w w' → Calls Tryd.prog 94 #[.int .u64 (r.ho : Int), .int .i64 (((f / 60 : Nat) : Int) + 1)] w' fun e w'' => e = .returned (.tuple #[.int .i64 (leastN r.ho (f / 60 + 1) : Nat), .bool (leastB r.ho (f / 60 + 1))]) ∧ w'' = w') := fun w' hb => least_any r.ho (f / 60 + 1) sh (by omega) w' (he.up hb)
  have H4 : Hid (∀ w', Below w.heap.size w w' → Calls Tryd.prog 94 #[.int .u64 (r.mi : Int), .int .i64 0] w' fun e w'' => e = .returned (.tuple #[.int .i64 (leastN r.mi 0 : Nat), .bool (leastB r.mi 0)]) ∧ w'' = w') := fun w' hb => least_any r.mi 0 sm (by omega) w' (he.up hb)
  have HM : Hid (minF r f = if r.ho.testBit (f / 60) && leastB r.mi (f % 60) then (f / 60 * 60 + leastN r.mi (f % 60), true) else (leastN r.ho (f / 60 + 1) * 60 + leastN r.mi 0, leastB r.ho (f / 60 + 1))) := rfl
  have L : ∀ s k, leastN s k ≤ 64 := by
    intro s k
    unfold leastN Lib.ctz
    split
    · exact Nat.le_refl _
    · rename_i h
      by_cases c : restN s k < 2 ^ 64
      · obtain ⟨_, _, h⟩ := Lib.ctzFrom_spec 64 (restN s k) (by omega) c
        omega
      · have : ∀ f x, Lib.ctzFrom f x ≤ f := by
          intro f
          induction f with
          | zero => intro x; exact Nat.le_refl _
          | succ f ih =>
            intro x
            unfold Lib.ctzFrom
            split
            · omega
            · have := ih (x / 2)
              omega
        exact this 64 _
  have g1 := L r.mi (f % 60)
  have g2 := L r.ho (f / 60 + 1)
  have g3 := L r.mi 0
  have hq : f / 60 < 24 := by omega
  have U := hid (up_alloc w (.cells #[.int .u64 (r.mi : Int), .int .u64 (r.ho : Int), .int .u64 (r.da : Int), .int .u64 (r.mo : Int), .int .u64 (r.we : Int), .bool r.ad, .bool r.aw] 117))
  clear he hr sm sh L
  rw [ruV_form]
  generalize minF r f = M at *
  generalize leastN r.mi (f % 60) = n1 at *
  generalize leastB r.mi (f % 60) = o1 at *
  generalize leastN r.ho (f / 60 + 1) = n2 at *
  generalize leastB r.ho (f / 60 + 1) = o2 at *
  generalize leastN r.mi 0 = n3 at *
  generalize leastB r.mi 0 = o3 at *
  generalize r.ho.testBit (f / 60) = b at *
  generalize f / 60 = h at *
  generalize f % 60 = m at *
  go_enter Tryd.func81, Tryd.ntmps81
  go_wp2_with fail
  refine (H1.out _).mono ?_
  rintro e w1 ⟨rfl, rfl⟩
  have tail : (b && o1) = false → Hid (M = (n2 * 60 + n3, o2)) := fun hb => by
    unfold Hid
    rw [HM.out, hb]
    rfl
  cases b
  · have R := tail rfl
    go_wp2_with fail
    refine (H3.out _ U.out).mono ?_
    rintro e w1 ⟨rfl, rfl⟩
    go_wp2_with fail
    refine (H4.out _ U.out).mono ?_
    rintro e w1 ⟨rfl, rfl⟩
    go_wp2_with fail
    go_ret2
    exact ⟨by rw [R.out]; simp, U.out⟩
  · go_wp2_with fail
    refine (H2.out _ U.out).mono ?_
    rintro e w1 ⟨rfl, rfl⟩
    cases o1
    · have R := tail rfl
      go_wp2_with fail
      refine (H3.out _ U.out).mono ?_
      rintro e w1 ⟨rfl, rfl⟩
      go_wp2_with fail
      refine (H4.out _ U.out).mono ?_
      rintro e w1 ⟨rfl, rfl⟩
      go_wp2_with fail
      go_ret2
      exact ⟨by rw [R.out]; simp, U.out⟩
    · have R : Hid (M = (h * 60 + n1, true)) := HM.out
      go_wp2_with fail
      go_ret2
      exact ⟨by rw [R.out]; simp, U.out⟩
end Go.Proofs.YtpjmieiajhhbaaaDoor
