/- The statement on doubles. -/
import Derived.Test.YtfomogahlcmniaaBPb
namespace Go.Proofs.Ytfomogahlcmniaa
open Go.RowKit
set_option linter.unusedVariables false
set_option linter.unusedSimpArgs false

theorem turn70 (a : Int) : ∃ j : Nat, j < 70 ∧ (wrap64 (a.tmod 70 + 70)).tmod 70 = (j : Int) := by
  have b1 := Int.tmod_lt_of_pos a (show (0 : Int) < 70 by decide)
  have b2 := Int.lt_tmod_of_pos a (show (0 : Int) < 70 by decide)
  rw [IntWalk.wrap64_in _ (by omega), Int.tmod_eq_emod_of_nonneg (by omega)]
  exact ⟨((a.tmod 70 + 70) % 70).toNat, by omega, by omega⟩
set_option maxHeartbeats 1000000 in
theorem doubles_walk (b c n k : Int) (w : World) (hp : Pb w) : Calls Try.prog 7 #[limV b c n, .int .i64 k] w fun e w' => e = .returned (.bool true) ∧ Below w.heap.size w w' := by
  have H2 := hid (hp.delay b c n)
  have HV := hid (alive_any w hp)
  have k0 := hid (blk_new w (.cells #[.int .i64 b, .int .i64 c, .int .i64 n] 23))
  have u0 := hid (up_alloc w (.cells #[.int .i64 b, .int .i64 c, .int .i64 n] 23))
  clear hp
  unfold limV at *
  obtain ⟨K, K70, hK⟩ := turn70 k
  go_enter Try.func7, Try.ntmps7
  go_wp2_with fail
  refine (HV.out _ u0.out).mono ?_
  rintro e w1 ⟨rfl, hb⟩
  have k1 := hid (blk_up k0.out hb)
  have u1 := hid (up_trans u0.out hb)
  clear hb k0 u0 HV
  have kk := k1.out
  have z0 := blk_cell kk 0 _ rfl
  have z1 := blk_cell kk 1 _ rfl
  have z2 := blk_cell kk 2 _ rfl
  clear kk
  go_wp2_with fail
  refine (H2.out (K : Int) _ (by omega) u1.out).mono ?_
  by_cases h : LimOk b c n
  · rw [show delayP b c n (K : Int) = (delN b c K, 0) from if_pos ⟨h, by omega⟩]
    rintro e w2 ⟨rfl, hb⟩
    have k2 := hid (blk_up k1.out hb)
    have u2 := hid (up_trans u1.out hb)
    clear hb k1 u1 z0 z1 z2 H2
    have FAR : 31 ≤ K → delN b c K = c := fun q => delN_far h K q
    have LO := hid h
    obtain ⟨h1, h2, h3, h4, h5, h6⟩ := h
    have kk := k2.out
    have z0 := blk_cell kk 0 _ rfl
    have z1 := blk_cell kk 1 _ rfl
    have z2 := blk_cell kk 2 _ rfl
    clear kk
    go_wp2_with fail
    refine (num_any _ _).mono ?_
    rintro e w9 ⟨rfl, rfl⟩
    by_cases c1 : 31 ≤ K
    · have e1 := FAR c1
      rw [e1]
      clear FAR
      have c2 : ¬ (K : Int) < 31 := by omega
      have c3 : 31 ≤ (K : Int) := by omega
      go_wp2_with fail
      go_quiet (fail)
      go_wp2_with fail
      go_quiet (fail)
      go_wp2_with fail
      go_ret
      exact ⟨by first | rfl | (simp; done) | (simp; omega), up_trans u2.out (up_trans (up_drewN _ _) (up_drewN _ _))⟩
    · have c2 : (K : Int) < 31 := by omega
      have c3 : ¬ 31 ≤ (K : Int) := by omega
      clear FAR
      have hp0 : (0 : Int) < 2 ^ K := Int.pow_pos (by decide)
      have hlt := Int.ediv_lt_iff_lt_mul (a := c) (b := b) hp0
      have hb1 := pow_one h1 K
      by_cases c4 : c / 2 ^ K < b
      · have e1 : delN b c K = c := if_neg (by have := hlt.1 c4; omega)
        rw [e1]
        clear hlt
        go_wp2_with fail
        go_quiet (fail)
        go_wp2_with fail
        go_quiet (fail)
        go_wp2_with fail
        go_ret
        exact ⟨by first | rfl | (simp; done) | (simp; omega), up_trans u2.out (up_trans (up_drewN _ _) (up_drewN _ _))⟩
      · have c5 : b * 2 ^ K ≤ c := by
          by_cases q : c < b * 2 ^ K
          · exact absurd (hlt.2 q) c4
          · omega
        have e1 : delN b c K = b * 2 ^ K := by
          unfold delN
          by_cases q : b * 2 ^ K < c
          · exact if_pos q
          · rw [if_neg q]; omega
        rw [e1]
        clear hlt
        go_wp2_with fail
        go_quiet (fail)
        go_wp2_with fail
        go_ret
        exact ⟨by first | rfl | (simp; done) | (simp; omega), up_trans u2.out (up_drewN _ _)⟩
  · rw [show delayP b c n (K : Int) = (0, 4) from if_neg fun q => h q.1]
    rintro e w2 ⟨rfl, hb⟩
    have u2 := hid (up_trans u1.out hb)
    clear hb k1 u1 z0 z1 z2 H2
    go_wp2_with fail
    refine (num_any _ _).mono ?_
    rintro e w9 ⟨rfl, rfl⟩
    go_wp2_with fail
    go_ret
    exact ⟨by first | rfl | (simp; done) | (simp; omega), u2.out⟩
end Go.Proofs.Ytfomogahlcmniaa
