/- The program's delays, dues and totals. -/
import Derived.Test.YtfomogahlcmniaaEDly
import Derived.Test.YtfomogahlcmniaaBPb
namespace Go.Proofs.Ytfomogahlcmniaa
open Go.RowKit
set_option linter.unusedVariables false
set_option linter.unusedSimpArgs false

set_option maxHeartbeats 1000000 in
theorem delayE_any (b c n k : Int) (hk : k ≤ 9223372036854775807) (w : World) : Calls Try.prog 8 #[limV b c n, .int .i64 k] w fun e w' => e = .returned (.tuple #[.int .i64 (delayP b c n k).1, .int .i64 (delayP b c n k).2]) ∧ Below w.heap.size w w' := by
  have HC : Hid (∀ w', Calls Try.prog 15 #[limV b c n] w' fun e w'' => e = .returned (.int .i64 (chkP b c n)) ∧ Below w'.heap.size w' w'') := fun w' => checkE_any b c n w'
  have k0 := hid (blk_new w (.cells #[.int .i64 b, .int .i64 c, .int .i64 n] 24))
  have u0 := hid (up_alloc w (.cells #[.int .i64 b, .int .i64 c, .int .i64 n] 24))
  by_cases h : LimOk b c n
  · have hc : chkP b c n = 0 := if_pos h
    rw [hc] at HC
    clear hc
    by_cases hk' : 0 ≤ k
    · have R : Hid (delayP b c n k = (delN b c k.toNat, 0)) := if_pos ⟨h, hk'⟩
      have HD : Hid (∀ w', Calls Try.prog 18 #[limV b c n, .int .i64 k] w' fun e w'' => e = .returned (.int .i64 (delN b c k.toNat)) ∧ Below w'.heap.size w' w'') := by
        intro w'
        have := delE_any b c n h k.toNat (by omega) w'
        rw [show ((k.toNat : Nat) : Int) = k by omega] at this
        exact this
      generalize delN b c k.toNat = d at *
      unfold limV at *
      have hk2 : ¬ k < 0 := by omega
      go_enter Try.func8, Try.ntmps8
      go_wp2_with fail
      refine (HC.out _).mono ?_
      rintro e w1 ⟨rfl, hb1⟩
      have k1 := hid (blk_up k0.out hb1)
      have u1 := hid (up_trans u0.out hb1)
      clear k0 u0 hb1 HC
      have z0 := blk_cell k1.out 0 _ rfl
      have z1 := blk_cell k1.out 1 _ rfl
      have z2 := blk_cell k1.out 2 _ rfl
      go_wp2_with fail
      refine (HD.out _).mono ?_
      rintro e w2 ⟨rfl, hb2⟩
      have u2 := hid (up_trans u1.out hb2)
      clear z0 z1 z2
      go_wp2_with fail
      go_ret2
      exact ⟨by rw [R.out] <;> rfl, u2.out⟩
    · have R : Hid (delayP b c n k = (0, 4)) := if_neg fun q => hk' q.2
      have hk2 : k < 0 := by omega
      unfold limV at *
      go_enter Try.func8, Try.ntmps8
      go_wp2_with fail
      refine (HC.out _).mono ?_
      rintro e w1 ⟨rfl, hb1⟩
      have u1 := hid (up_trans u0.out hb1)
      go_wp2_with fail
      go_ret2
      exact ⟨by rw [R.out] <;> rfl, u1.out⟩
  · have hc : chkP b c n = 4 := if_neg h
    have R : Hid (delayP b c n k = (0, 4)) := if_neg fun q => h q.1
    rw [hc] at HC
    clear hc
    unfold limV at *
    go_enter Try.func8, Try.ntmps8
    go_wp2_with fail
    refine (HC.out _).mono ?_
    rintro e w1 ⟨rfl, hb1⟩
    have u1 := hid (up_trans u0.out hb1)
    go_wp2_with fail
    go_ret2
    exact ⟨by rw [R.out] <;> rfl, u1.out⟩
theorem dueE_any (b c n now k : Int) (hk : k ≤ 9223372036854775807) (w : World) : Calls Try.prog 10 #[limV b c n, .int .i64 now, .int .i64 k] w fun e w' => e = .returned (.tuple #[.int .i64 (dueP b c n now k).1, .int .i64 (dueP b c n now k).2]) ∧ Below w.heap.size w w' := by
  have HD : Hid (∀ w', Calls Try.prog 8 #[limV b c n, .int .i64 k] w' fun e w'' => e = .returned (.tuple #[.int .i64 (delayP b c n k).1, .int .i64 (delayP b c n k).2]) ∧ Below w'.heap.size w' w'') := fun w' => delayE_any b c n k hk w'
  have u0 := hid (up_alloc w (.cells #[.int .i64 b, .int .i64 c, .int .i64 n] 24))
  by_cases h : LimOk b c n ∧ 0 ≤ k
  · have E : delayP b c n k = (delN b c k.toNat, 0) := if_pos h
    rw [E] at HD
    have L := delN_le h.1 k.toNat
    have h1 := h.1.1
    have h4 := h.1.2.2.2.1
    have P : Hid (dueP b c n now k = if 0 ≤ now ∧ now + delN b c k.toNat < 32503680000 then (now + delN b c k.toNat, 0) else (0, 4)) := by
      unfold Hid dueP
      by_cases q : 0 ≤ now ∧ now + delN b c k.toNat < 32503680000
      · rw [if_pos ⟨h, q⟩, if_pos q]
      · rw [if_neg fun x => q x.2, if_neg q]
    obtain ⟨d, hd⟩ : ∃ d, d = delN b c k.toNat := ⟨_, rfl⟩
    rw [← hd] at HD L P
    clear hd E h
    unfold limV at *
    go_enter Try.func10, Try.ntmps10
    go_wp2_with fail
    refine (HD.out _).mono ?_
    rintro e w1 ⟨rfl, hb1⟩
    have u1 := hid (up_trans u0.out hb1)
    by_cases n1 : now < 0
    · have R : Hid (dueP b c n now k = (0, 4)) := P.out.trans (if_neg (by omega))
      go_wp2_with fail
      go_ret2
      exact ⟨by rw [R.out] <;> rfl, u1.out⟩
    · by_cases n2 : 32503680000 ≤ now
      · have R : Hid (dueP b c n now k = (0, 4)) := P.out.trans (if_neg (by omega))
        go_wp2_with fail
        go_ret2
        exact ⟨by rw [R.out] <;> rfl, u1.out⟩
      · by_cases n3 : 32503680000 ≤ now + d
        · have R : Hid (dueP b c n now k = (0, 4)) := P.out.trans (if_neg (by omega))
          go_wp2_with fail
          go_ret2
          exact ⟨by rw [R.out] <;> rfl, u1.out⟩
        · have R : Hid (dueP b c n now k = (now + d, 0)) := P.out.trans (if_pos (by omega))
          go_wp2_with fail
          go_ret2
          exact ⟨by rw [R.out] <;> rfl, u1.out⟩
  · have E : delayP b c n k = (0, 4) := if_neg h
    have R : Hid (dueP b c n now k = (0, 4)) := if_neg fun x => h x.1
    rw [E] at HD
    clear h E
    unfold limV at *
    go_enter Try.func10, Try.ntmps10
    go_wp2_with fail
    refine (HD.out _).mono ?_
    rintro e w1 ⟨rfl, hb1⟩
    have u1 := hid (up_trans u0.out hb1)
    go_wp2_with fail
    go_ret2
    exact ⟨by rw [R.out] <;> rfl, u1.out⟩
set_option maxHeartbeats 1000000 in
theorem totalE_any (b c n : Int) (w : World) : Calls Try.prog 12 #[limV b c n] w fun e w' => e = .returned (.tuple #[.int .i64 (totalP b c n).1, .int .i64 (totalP b c n).2]) ∧ Below w.heap.size w w' := by
  have HC : Hid (∀ w', Calls Try.prog 15 #[limV b c n] w' fun e w'' => e = .returned (.int .i64 (chkP b c n)) ∧ Below w'.heap.size w' w'') := fun w' => checkE_any b c n w'
  have k0 := hid (blk_new w (.cells #[.int .i64 b, .int .i64 c, .int .i64 n] 24))
  have u0 := hid (up_alloc w (.cells #[.int .i64 b, .int .i64 c, .int .i64 n] 24))
  by_cases h : LimOk b c n
  · have hc : chkP b c n = 0 := if_pos h
    rw [hc] at HC
    have HD : Hid (∀ j : Nat, j < 16 → ∀ w', Calls Try.prog 18 #[limV b c n, .int .i64 (j : Int)] w' fun e w'' => e = .returned (.int .i64 (delN b c j)) ∧ Below w'.heap.size w' w'') := fun j hj w' => delE_any b c n h j (by omega) w'
    have R : Hid (totalP b c n = (sumD b c (n - 1).toNat, 0)) := if_pos h
    have LO := hid h
    obtain ⟨h1, h2, h3, h4, h5, h6⟩ := h
    clear hc
    unfold limV at *
    go_enter Try.func12, Try.ntmps12
    go_wp2_with fail
    refine (HC.out _).mono ?_
    rintro e w1 ⟨rfl, hb1⟩
    have k1 := hid (blk_up k0.out hb1)
    have u1 := hid (up_trans u0.out hb1)
    clear k0 u0 hb1 HC
    have z2 := blk_cell k1.out 2 _ rfl
    go_wp2_with fail
    clear z2
    go_loopw [15, 5, 6] (fun q s _ wr => ∃ j : Nat, (j : Int) ≤ n - 1 ∧ q = .int .i64 (j : Int) ∧ s = .int .i64 (sumD b c j) ∧ Hid (wr.heap[w.heap.size]? = some (.cells #[.int .i64 b, .int .i64 c, .int .i64 n] 24) ∧ Below w.heap.size w wr)) (fun q _ _ _ => (n - intOf q).toNat)
    case atStart => exact ⟨0, by omega, rfl, rfl, ⟨k1.out, u1.out⟩⟩
    case round =>
      obtain ⟨j, hj, rfl, rfl, HW⟩ := hrel
      have x := HW.out.1
      have z0 := blk_cell x 0 _ rfl
      have z1 := blk_cell x 1 _ rfl
      have z2 := blk_cell x 2 _ rfl
      clear x
      have S := sumD_le LO.out j
      have L := delN_le LO.out j
      have SS := hid (show sumD b c (j + 1) = sumD b c j + delN b c j from rfl)
      by_cases c1 : (j : Int) < n - 1
      · have D1 := hid (HD.out j (by omega))
        obtain ⟨s, hs⟩ : ∃ s, s = sumD b c j := ⟨_, rfl⟩
        obtain ⟨d, hd⟩ : ∃ d, d = delN b c j := ⟨_, rfl⟩
        rw [← hs] at S SS ⊢
        rw [← hd] at L SS D1
        clear hs hd
        go_wp2_with fail
        refine (D1.out _).mono ?_
        rintro e w2 ⟨rfl, hb2⟩
        have k2 := hid (blk_up HW.out.1 hb2)
        have u2 := hid (up_trans HW.out.2 hb2)
        clear hb2 z0 z1 z2
        go_wp2_with fail
        exact ⟨⟨j + 1, by omega, by go_num, by rw [SS.out] <;> go_num, ⟨k2.out, u2.out⟩⟩, by simp [intOf]; omega⟩
      · have RR : Hid ((n - 1).toNat = j) := (show (n - 1).toNat = j by omega)
        generalize hs : sumD b c j = s at *
        go_wp2_with fail
        go_ret2
        exact ⟨by rw [R.out, RR.out, hs] <;> rfl, HW.out.2⟩
  · have hc : chkP b c n = 4 := if_neg h
    have R : Hid (totalP b c n = (0, 4)) := if_neg h
    rw [hc] at HC
    clear hc h
    unfold limV at *
    go_enter Try.func12, Try.ntmps12
    go_wp2_with fail
    refine (HC.out _).mono ?_
    rintro e w1 ⟨rfl, hb1⟩
    have u1 := hid (up_trans u0.out hb1)
    go_wp2_with fail
    go_ret2
    exact ⟨by rw [R.out] <;> rfl, u1.out⟩
/-- All that the statements want of the program. -/
theorem pb_any (w : World) : Pb w :=
  ⟨fun b c n w' _ => checkE_any b c n w', fun b c n k w' hk _ => delayE_any b c n k hk w', fun b c n now k w' hk _ => dueE_any b c n now k hk w', fun b c n w' _ => totalE_any b c n w'⟩
end Go.Proofs.Ytfomogahlcmniaa
