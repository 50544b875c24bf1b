/- The program's k-th delay. -/
import Derived.Test.YtfomogahlcmniaaEChk
namespace Go.Proofs.Ytfomogahlcmniaa
open Go.RowKit
set_option linter.unusedVariables false
set_option linter.unusedSimpArgs false

set_option maxHeartbeats 1000000 in
theorem delE_any (b c n : Int) (h : LimOk b c n) (k : Nat) (hk : k ≤ 9223372036854775807) (w : World) : Calls Try.prog 18 #[limV b c n, .int .i64 (k : Int)] w fun e w' => e = .returned (.int .i64 (delN b c k)) ∧ Below w.heap.size w w' := by
  have k0 := blk_new w (.cells #[.int .i64 b, .int .i64 c, .int .i64 n] 24)
  have u0 := hid (up_alloc w (.cells #[.int .i64 b, .int .i64 c, .int .i64 n] 24))
  have LO := hid h
  obtain ⟨h1, h2, h3, h4, h5, h6⟩ := h
  unfold limV at *
  go_enter Try.func18, Try.ntmps18
  go_wp2_with fail
  generalize w.alloc (.cells #[.int .i64 b, .int .i64 c, .int .i64 n] 24) = w1 at *
  have z0 := blk_cell k0 0 _ rfl
  have z1 := blk_cell k0 1 _ rfl
  clear k0
  go_loopw [9, 5] (fun i d wr => ∃ j : Nat, j ≤ k ∧ i = .int .i64 (j : Int) ∧ d = .int .i64 (b * 2 ^ j) ∧ Hid (b * 2 ^ j < 2 * c) ∧ w1 = wr) (fun i _ _ => ((k : Int) - intOf i).toNat)
  case atStart => exact ⟨0, by omega, rfl, by simp, (show b * 2 ^ 0 < 2 * c by simp; omega), rfl⟩
  case round =>
    obtain ⟨j, hj, rfl, rfl, HD, rfl⟩ := hrel
    have hd1 := pow_one h1 j
    have hd2 := HD.out
    have HS := hid (pow_step b j)
    have HU : Hid (∀ i : Nat, b * 2 ^ j ≤ b * 2 ^ (j + i)) := fun i => pow_up h1 j i
    obtain ⟨d, hd⟩ : ∃ d, d = b * 2 ^ j := ⟨_, rfl⟩
    rw [← hd] at hd1 hd2 HS HU ⊢
    have HE := hid hd
    clear hd HD
    by_cases c1 : (j : Int) < (k : Int)
    · by_cases c2 : d < c
      · have c3 : ¬ c ≤ d := by omega
        go_wp2_with fail
        exact ⟨⟨j + 1, by omega, by go_num, by rw [HS.out] <;> go_num, (show b * 2 ^ (j + 1) < 2 * c by rw [HS.out]; omega), by first | rfl | trivial⟩, by simp [intOf]; omega⟩
      · have RR : Hid (delN b c k = c) := by
          unfold Hid delN
          rw [if_neg]
          have := HU.out (k - j)
          rw [show j + (k - j) = k by omega] at this
          omega
        have c3 : c ≤ d := by omega
        go_wp2_with fail
        · go_ret
          exact ⟨by rw [RR.out] <;> rfl, u0.out⟩
        · have e : d = c := by omega
          go_ret
          exact ⟨by rw [RR.out, ← e] <;> rfl, u0.out⟩
    · have RR : Hid (delN b c k = if d < c then d else c) := by
        unfold Hid delN
        rw [HE.out, show k = j by omega]
      by_cases c2 : d < c
      · rw [if_pos c2] at RR
        go_wp2_with fail
        go_ret
        exact ⟨by rw [RR.out] <;> rfl, u0.out⟩
      · rw [if_neg c2] at RR
        have c3 : c ≤ d := by omega
        go_wp2_with fail
        · go_ret
          exact ⟨by rw [RR.out] <;> rfl, u0.out⟩
        · have e : d = c := by omega
          go_ret
          exact ⟨by rw [RR.out, ← e] <;> rfl, u0.out⟩
end Go.Proofs.Ytfomogahlcmniaa
