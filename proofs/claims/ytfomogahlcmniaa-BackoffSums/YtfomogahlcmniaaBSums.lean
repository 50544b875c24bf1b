/- The statement on sums. -/
import Derived.Test.YtfomogahlcmniaaBPb
namespace Go.Proofs.Ytfomogahlcmniaa
open Go.RowKit
set_option linter.unusedVariables false
set_option linter.unusedSimpArgs false

set_option maxHeartbeats 1000000 in
theorem sums_walk (b c n : Int) (w : World) (hp : Pb w) : Calls Try.prog 6 #[limV b c n] w fun e w' => e = .returned (.bool true) ∧ Below w.heap.size w w' := by
  have H1 := hid (hp.total b c n)
  have H2 := hid (hp.delay b c n)
  have HC : Hid (∀ w', Calls Try.prog 16 #[limV b c n] w' fun e w'' => e = .returned (.int .i64 (chkP b c n)) ∧ Below w'.heap.size w' w'') := fun w' => checkB_any b c n w'
  have HV := hid (alive_any w hp)
  have k0 := hid (blk_new w (.cells #[.int .i64 b, .int .i64 c, .int .i64 n] 23))
  have u0 := hid (up_alloc w (.cells #[.int .i64 b, .int .i64 c, .int .i64 n] 23))
  clear hp
  by_cases h : LimOk b c n
  · have E1 : totalP b c n = (sumD b c (n - 1).toNat, 0) := if_pos h
    rw [E1] at H1
    have HD : Hid (∀ (j : Nat) w', j < 20 → Below w.heap.size w w' → Calls Try.prog 8 #[limV b c n, .int .i64 (j : Int)] w' fun e w'' => e = .returned (.tuple #[.int .i64 (delN b c j), .int .i64 0]) ∧ Below w'.heap.size w' w'') := by
      intro j w' hj hb
      have := H2.out (j : Int) w' (by omega) hb
      rw [show delayP b c n (j : Int) = (delN b c j, 0) from if_pos ⟨h, by omega⟩] at this
      exact this
    have LO := hid h
    obtain ⟨h1, h2, h3, h4, h5, h6⟩ := h
    clear E1 H2 HC
    unfold limV at *
    obtain ⟨tt, ht⟩ : ∃ tt, tt = sumD b c (n - 1).toNat := ⟨_, rfl⟩
    rw [← ht] at H1
    have HT := hid ht
    clear ht
    go_enter Try.func6, Try.ntmps6
    go_wp2_with fail
    refine (HV.out _ u0.out).mono ?_
    rintro e w1 ⟨rfl, hb⟩
    have k1 := hid (blk_up k0.out hb)
    have u1 := hid (up_trans u0.out hb)
    clear hb k0 u0 HV
    have kk := k1.out
    have z0 := blk_cell kk 0 _ rfl
    have z1 := blk_cell kk 1 _ rfl
    have z2 := blk_cell kk 2 _ rfl
    clear kk
    go_wp2_with fail
    refine (H1.out _ u1.out).mono ?_
    rintro e w2 ⟨rfl, hb⟩
    have k2 := hid (blk_up k1.out hb)
    have u2 := hid (up_trans u1.out hb)
    clear hb k1 u1 z0 z1 z2 H1
    go_wp2_with fail
    refine (num_any _ _).mono ?_
    rintro e w9 ⟨rfl, rfl⟩
    go_wp2_with fail
    go_loopw [6, 5] (fun q s wr => ∃ j : Nat, (j : Int) ≤ n - 1 ∧ q = .int .i64 (j : Int) ∧ s = .int .i64 (sumD b c j) ∧ Hid (wr.heap[w.heap.size]? = some (.cells #[.int .i64 b, .int .i64 c, .int .i64 n] 23) ∧ Below w.heap.size w wr)) (fun q _ _ => (n - intOf q).toNat)
    case atStart => exact ⟨0, by omega, rfl, rfl, ⟨k2.out, u2.out⟩⟩
    case round =>
      obtain ⟨j, hj, rfl, rfl, HW⟩ := hrel
      have x := HW.out.1
      have z0 := blk_cell x 0 _ rfl
      have z1 := blk_cell x 1 _ rfl
      have z2 := blk_cell x 2 _ rfl
      clear x
      have S := sumD_le LO.out j
      have L := delN_le LO.out j
      have SS := hid (show sumD b c (j + 1) = sumD b c j + delN b c j from rfl)
      by_cases c1 : (j : Int) < n - 1
      · have D1 := hid (fun w' => HD.out j w' (by omega))
        obtain ⟨s, hs⟩ : ∃ s, s = sumD b c j := ⟨_, rfl⟩
        obtain ⟨d, hd⟩ : ∃ d, d = delN b c j := ⟨_, rfl⟩
        rw [← hs] at S SS ⊢
        rw [← hd] at L SS D1
        clear hs hd
        have c2 : (j : Int) < 20 := by omega
        go_wp2_with fail
        refine (D1.out _ HW.out.2).mono ?_
        rintro e w3 ⟨rfl, hb⟩
        have k3 := hid (blk_up HW.out.1 hb)
        have u3 := hid (up_trans HW.out.2 hb)
        clear hb z0 z1 z2
        go_wp2_with fail
        refine (num_any _ _).mono ?_
        rintro e w9 ⟨rfl, rfl⟩
        go_wp2_with fail
        exact ⟨⟨j + 1, by omega, by go_num, by rw [SS.out] <;> go_num, ⟨k3.out, u3.out⟩⟩, by simp [intOf]; omega⟩
      · have RR : sumD b c j = tt := by rw [HT.out, show (n - 1).toNat = j by omega]
        rw [RR] at *
        clear HT SS L LO
        go_wp2_with fail
        go_ret
        exact ⟨by first | rfl | (simp; done), HW.out.2⟩
  · have E1 : totalP b c n = (0, 4) := if_neg h
    have hc : chkP b c n = 4 := if_neg h
    rw [E1] at H1
    rw [hc] at HC
    clear h E1 hc H2
    unfold limV at *
    go_enter Try.func6, Try.ntmps6
    go_wp2_with fail
    refine (HV.out _ u0.out).mono ?_
    rintro e w1 ⟨rfl, hb⟩
    have k1 := hid (blk_up k0.out hb)
    have u1 := hid (up_trans u0.out hb)
    clear hb k0 u0 HV
    have kk := k1.out
    have z0 := blk_cell kk 0 _ rfl
    have z1 := blk_cell kk 1 _ rfl
    have z2 := blk_cell kk 2 _ rfl
    clear kk
    go_wp2_with fail
    refine (H1.out _ u1.out).mono ?_
    rintro e w2 ⟨rfl, hb⟩
    have k2 := hid (blk_up k1.out hb)
    have u2 := hid (up_trans u1.out hb)
    clear hb k1 u1 z0 z1 z2 H1
    have kk := k2.out
    have z0 := blk_cell kk 0 _ rfl
    have z1 := blk_cell kk 1 _ rfl
    have z2 := blk_cell kk 2 _ rfl
    clear kk
    go_wp2_with fail
    refine (num_any _ _).mono ?_
    rintro e w9 ⟨rfl, rfl⟩
    go_wp2_with fail
    refine (HC.out _).mono ?_
    rintro e w4 ⟨rfl, hb⟩
    have u4 := hid (up_trans u2.out hb)
    go_wp2_with fail
    go_ret
    exact ⟨by first | rfl | (simp; done) | (simp; omega), u4.out⟩
end Go.Proofs.Ytfomogahlcmniaa
