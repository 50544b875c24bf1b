/- The document's calls on delays. -/
import Derived.Test.YtfomogahlcmniaaBMath
namespace Go.Proofs.Ytfomogahlcmniaa
open Go.RowKit
set_option linter.unusedVariables false
set_option linter.unusedSimpArgs false

theorem hid {p : Prop} (h : p) : Hid p := h
def limV (b c n : Int) : Value := .agg #[.int .i64 b, .int .i64 c, .int .i64 n]
def retD (q : Int × Int) : Value := .tuple #[.int .i64 q.1, .int .i64 q.2]
theorem checkB_any (b c n : Int) (w : World) : Calls Try.prog 16 #[limV b c n] w fun e w' => e = .returned (.int .i64 (chkP b c n)) ∧ Below w.heap.size w w' := by
  have u := hid (up_alloc w (.cells #[.int .i64 b, .int .i64 c, .int .i64 n] 23))
  unfold limV
  go_enter Try.func16, Try.ntmps16
  by_cases h : LimOk b c n
  · have R : Hid (chkP b c n = 0) := if_pos h
    obtain ⟨h1, h2, h3, h4, h5, h6⟩ := h
    have q0 : ¬ b < 1 := by omega
    have q1 : ¬ 1048576 < b := by omega
    have q2 : ¬ c < b := by omega
    have q3 : ¬ 1073741824 < c := by omega
    have q4 : ¬ n < 1 := by omega
    have q5 : ¬ 16 < n := by omega
    go_wp2_with fail
    go_ret
    exact ⟨by rw [R.out] <;> rfl, u.out⟩
  · have R : Hid (chkP b c n = 4) := if_neg h
    by_cases q0 : b < 1
    · go_wp2_with fail
      go_ret
      exact ⟨by rw [R.out] <;> rfl, u.out⟩
    by_cases q1 : 1048576 < b
    · go_wp2_with fail
      go_ret
      exact ⟨by rw [R.out] <;> rfl, u.out⟩
    by_cases q2 : c < b
    · go_wp2_with fail
      go_ret
      exact ⟨by rw [R.out] <;> rfl, u.out⟩
    by_cases q3 : 1073741824 < c
    · go_wp2_with fail
      go_ret
      exact ⟨by rw [R.out] <;> rfl, u.out⟩
    by_cases q4 : n < 1
    · go_wp2_with fail
      go_ret
      exact ⟨by rw [R.out] <;> rfl, u.out⟩
    have q5 : 16 < n := by unfold LimOk at h; omega
    go_wp2_with fail
    go_ret
    exact ⟨by rw [R.out] <;> rfl, u.out⟩
set_option maxHeartbeats 1000000 in
theorem delayB_any (b c n k : Int) (w : World) : Calls Try.prog 9 #[limV b c n, .int .i64 k] w fun e w' => e = .returned (retD (delayP b c n k)) ∧ Below w.heap.size w w' := by
  have HC : Hid (∀ w', Calls Try.prog 16 #[limV b c n] w' fun e w'' => e = .returned (.int .i64 (chkP b c n)) ∧ Below w'.heap.size w' w'') := fun w' => checkB_any b c n w'
  have k0 := hid (blk_new w (.cells #[.int .i64 b, .int .i64 c, .int .i64 n] 23))
  have u0 := hid (up_alloc w (.cells #[.int .i64 b, .int .i64 c, .int .i64 n] 23))
  unfold limV at *
  by_cases h : LimOk b c n
  · have hc : chkP b c n = 0 := if_pos h
    rw [hc] at HC
    clear hc
    by_cases hk : 0 ≤ k
    · have R : Hid (delayP b c n k = (delN b c k.toNat, 0)) := if_pos ⟨h, hk⟩
      have LO := hid h
      obtain ⟨h1, h2, h3, h4, h5, h6⟩ := h
      have hk' : ¬ k < 0 := by omega
      go_enter Try.func9, Try.ntmps9
      go_wp2_with fail
      refine (HC.out _).mono ?_
      rintro e w1 ⟨rfl, hb1⟩
      have k1 := blk_up k0.out hb1
      have u1 := hid (up_trans u0.out hb1)
      have z0 := blk_cell k1 0 _ rfl
      have z1 := blk_cell k1 1 _ rfl
      clear k0 u0 hb1 k1 HC
      go_wp2_with fail
      go_loopw [7, 6] (fun i d wr => ∃ j : Nat, (j : Int) ≤ k ∧ i = .int .i64 (j : Int) ∧ d = .int .i64 (b * 2 ^ j) ∧ Hid (b * 2 ^ j < 2 * c) ∧ w1 = wr) (fun i _ _ => (k - intOf i).toNat)
      case atStart => exact ⟨0, by omega, rfl, by simp, (show b * 2 ^ 0 < 2 * c by simp; omega), rfl⟩
      case round =>
        obtain ⟨j, hj, rfl, rfl, HD, rfl⟩ := hrel
        have hd1 := pow_one h1 j
        have hd2 := HD.out
        have HS := hid (pow_step b j)
        have HU : Hid (∀ i : Nat, b * 2 ^ j ≤ b * 2 ^ (j + i)) := fun i => pow_up h1 j i
        obtain ⟨d, hd⟩ : ∃ d, d = b * 2 ^ j := ⟨_, rfl⟩
        rw [← hd] at hd1 hd2 HS HU ⊢
        have HE := hid hd
        clear hd HD
        by_cases c1 : (j : Int) < k
        · by_cases c2 : d < c
          · have hf : j < 31 := few LO.out (by rw [← HE.out]; exact c2)
            go_wp2_with fail
            exact ⟨⟨j + 1, by omega, by go_num, by rw [HS.out], (show b * 2 ^ (j + 1) < 2 * c by rw [HS.out]; omega), by first | rfl | trivial⟩, by simp [intOf]; omega⟩
          · have RR : Hid (delN b c k.toNat = c) := by
              unfold Hid delN
              rw [if_neg]
              have := HU.out (k.toNat - j)
              rw [show j + (k.toNat - j) = k.toNat by omega] at this
              omega
            have c3 : c ≤ d := by omega
            go_wp2_with fail
            · go_ret2
              exact ⟨by rw [R.out, RR.out] <;> rfl, u1.out⟩
            · have e : d = c := by omega
              go_ret2
              exact ⟨by rw [R.out, RR.out, ← e] <;> rfl, u1.out⟩
        · have RR : Hid (delN b c k.toNat = if d < c then d else c) := by
            unfold Hid delN
            rw [HE.out, show k.toNat = j by omega]
          by_cases c2 : d < c
          · rw [if_pos c2] at RR
            go_wp2_with fail
            go_ret2
            exact ⟨by rw [R.out, RR.out]; first | rfl | simp [retD], u1.out⟩
          · rw [if_neg c2] at RR
            have c3 : c ≤ d := by omega
            go_wp2_with fail
            · go_ret2
              exact ⟨by rw [R.out, RR.out] <;> rfl, u1.out⟩
            · have e : d = c := by omega
              go_ret2
              exact ⟨by rw [R.out, RR.out, ← e] <;> rfl, u1.out⟩
    · have R : Hid (delayP b c n k = (0, 4)) := if_neg fun q => hk q.2
      have hk' : k < 0 := by omega
      go_enter Try.func9, Try.ntmps9
      go_wp2_with fail
      refine (HC.out _).mono ?_
      rintro e w1 ⟨rfl, hb1⟩
      have u1 := hid (up_trans u0.out hb1)
      go_wp2_with fail
      go_ret2
      exact ⟨by rw [R.out]; rfl, u1.out⟩
  · have hc : chkP b c n = 4 := if_neg h
    have R : Hid (delayP b c n k = (0, 4)) := if_neg fun q => h q.1
    rw [hc] at HC
    clear hc
    go_enter Try.func9, Try.ntmps9
    go_wp2_with fail
    refine (HC.out _).mono ?_
    rintro e w1 ⟨rfl, hb1⟩
    have u1 := hid (up_trans u0.out hb1)
    go_wp2_with fail
    go_ret2
    exact ⟨by rw [R.out]; rfl, u1.out⟩
end Go.Proofs.Ytfomogahlcmniaa
