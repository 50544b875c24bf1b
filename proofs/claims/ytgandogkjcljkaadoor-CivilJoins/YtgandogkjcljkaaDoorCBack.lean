/- The statements on Join, on what comes back, on the next day and on years. -/
import Derived.Test.YtgandogkjcljkaaDoorCLaw
namespace Go.Proofs.YtgandogkjcljkaaDoor
open Go.RowKit
set_option linter.unusedVariables false
set_option linter.unusedSimpArgs false

set_option maxHeartbeats 1000000 in
theorem joins_walk (y m d h mi s wd : Int) (w : World) (he : Env w) : Calls Tryd.prog 4 #[sevV y m d h mi s wd] w fun e w' => e = .returned (.bool true) ∧ Below w.heap.size w w' := by
  have H1 : Hid (∀ w', Below w.heap.size w w' → Calls Tryd.prog 23 #[sevV y m d h mi s wd] w' fun e w'' => e = .returned (.tuple #[.int .i64 (joinP y m d h mi s wd).1, .int .i64 (joinP y m d h mi s wd).2]) ∧ Below w'.heap.size w' w'') := fun w' hb => join_any y m d h mi s wd w' (he.up hb)
  have H2 : Hid (∀ w', Calls Tryd.prog 24 #[sevV y m d h mi s wd] w' fun e w'' => e = .returned (.tuple #[.int .i64 (joinP y m d h mi s wd).1, .int .i64 (joinP y m d h mi s wd).2]) ∧ Below w'.heap.size w' w'') := fun w' => joinR_any y m d h mi s wd w'
  have HV : Hid (∀ w', Below w.heap.size w w' → Calls Tryd.prog 22 #[] w' fun e w'' => e = .returned (.bool true) ∧ Below w'.heap.size w' w'') := fun w' hb => alive_any w' (he.up hb)
  generalize (joinP y m d h mi s wd).1 = a at *
  generalize (joinP y m d h mi s wd).2 = b at *
  clear he
  unfold sevV at *
  have k0 := blk_new w (.cells #[.int .i64 y, .int .i64 m, .int .i64 d, .int .i64 h, .int .i64 mi, .int .i64 s, .int .i64 wd] 37)
  have hb0 := hid (up_alloc w (.cells #[.int .i64 y, .int .i64 m, .int .i64 d, .int .i64 h, .int .i64 mi, .int .i64 s, .int .i64 wd] 37))
  have k0 := hid k0
  go_enter Tryd.func4, Tryd.ntmps4
  go_wp2_with fail
  refine (H1.out _ hb0.out).mono ?_
  rintro e w1 ⟨rfl, hb1⟩
  have k1 := blk_up k0.out hb1
  have hb1 := hid (up_trans hb0.out hb1)
  have z0 := blk_cell k1 0 _ rfl
  have z1 := blk_cell k1 1 _ rfl
  have z2 := blk_cell k1 2 _ rfl
  have z3 := blk_cell k1 3 _ rfl
  have z4 := blk_cell k1 4 _ rfl
  have z5 := blk_cell k1 5 _ rfl
  have z6 := blk_cell k1 6 _ rfl
  clear k0 k1 hb0
  go_wp2_with fail
  refine (H2.out _).mono ?_
  rintro e w2 ⟨rfl, hb2⟩
  have hb2 := hid (up_trans hb1.out hb2)
  go_wp2_with fail
  refine (num_any _ _).mono ?_
  rintro e w3 ⟨rfl, rfl⟩
  go_wp2_with fail
  refine (HV.out _ hb2.out).mono ?_
  rintro e w4 ⟨rfl, hb4⟩
  have hb4 := hid (up_trans hb2.out hb4)
  go_wp2_with fail
  go_ret
  exact ⟨rfl, hb4⟩
set_option maxHeartbeats 1000000 in
theorem back_walk (t : Int) (w : World) (he : Env w) : Calls Tryd.prog 5 #[.int .i64 t] w fun e w' => e = .returned (.bool true) ∧ Below w.heap.size w w' := by
  have HV : Hid (∀ w', Below w.heap.size w w' → Calls Tryd.prog 22 #[] w' fun e w'' => e = .returned (.bool true) ∧ Below w'.heap.size w' w'') := fun w' hb => alive_any w' (he.up hb)
  have HS : Hid (∀ w', Below w.heap.size w w' → Calls Tryd.prog 15 #[.int .i64 t] w' fun e w'' => e = .returned (retM (momP t)) ∧ Below w'.heap.size w' w'') := fun w' hb => Split_any t w' (he.up hb)
  by_cases h : 0 ≤ t ∧ t < 32503680000
  · have e : momP t = ([dateY (t / 86400), dateM (t / 86400), dateD (t / 86400), hourT t, minT t, secT t, (t / 86400 + 4) % 7], 0) := if_pos h
    rw [e] at HS
    have R : ∀ a b c d e f g x, retM ([a, b, c, d, e, f, g], x) = .tuple #[.agg #[.int .i64 a, .int .i64 b, .int .i64 c, .int .i64 d, .int .i64 e, .int .i64 f, .int .i64 g], .int .i64 x] := fun _ _ _ _ _ _ _ _ => rfl
    rw [R] at HS
    have jb := join_back h.1 h.2
    have dq := dayQ_of (date_is (day := t / 86400) (by omega) (by omega))
    obtain ⟨t0, t1⟩ := h
    have HJ : Hid (∀ w', Below w.heap.size w w' → Calls Tryd.prog 23 #[.agg #[.int .i64 (dateY (t / 86400)), .int .i64 (dateM (t / 86400)), .int .i64 (dateD (t / 86400)), .int .i64 (hourT t), .int .i64 (minT t), .int .i64 (secT t), .int .i64 ((t / 86400 + 4) % 7)]] w' fun e w'' => e = .returned (.tuple #[.int .i64 t, .int .i64 0]) ∧ Below w'.heap.size w' w'') := by
      intro w' hb
      have := join_any (dateY (t / 86400)) (dateM (t / 86400)) (dateD (t / 86400)) (hourT t) (minT t) (secT t) ((t / 86400 + 4) % 7) w' (he.up hb)
      rw [jb] at this
      exact this
    have HD : Hid (∀ w', Below w.heap.size w w' → Calls Tryd.prog 11 #[.int .i64 (dateY (t / 86400)), .int .i64 (dateM (t / 86400)), .int .i64 (dateD (t / 86400))] w' fun e w'' => e = .returned (.tuple #[.int .i64 (t / 86400), .int .i64 0]) ∧ w'' = w') := by
      intro w' hb
      have := day_any (dateY (t / 86400)) (dateM (t / 86400)) (dateD (t / 86400)) w' (he.up hb)
      rw [dq] at this
      exact this
    clear e R jb dq he
    generalize (t / 86400 + 4) % 7 = wd at *
    generalize dateY (t / 86400) = y at *
    generalize dateM (t / 86400) = m at *
    generalize dateD (t / 86400) = d at *
    generalize hourT t = a at *
    generalize minT t = b at *
    generalize secT t = s at *
    go_enter Tryd.func5, Tryd.ntmps5
    go_wp2_with fail
    refine (HV.out _ (Below.refl _ _)).mono ?_
    rintro e v1 ⟨rfl, hv1⟩
    have hv1 := hid hv1
    go_wp2_with fail
    refine (HS.out _ hv1.out).mono ?_
    rintro e w1 ⟨rfl, hb1⟩
    have hb1 := hid (up_al (up_trans hv1.out hb1) (.cells #[.int .i64 y, .int .i64 m, .int .i64 d, .int .i64 a, .int .i64 b, .int .i64 s, .int .i64 wd] 34))
    have k1 := hid (blk_new w1 (.cells #[.int .i64 y, .int .i64 m, .int .i64 d, .int .i64 a, .int .i64 b, .int .i64 s, .int .i64 wd] 34))
    go_wp2_with fail
    refine (num_any _ _).mono ?_
    rintro e w3 ⟨rfl, rfl⟩
    go_wp2_with fail
    refine (HJ.out _ hb1.out).mono ?_
    rintro e w2 ⟨rfl, hb2⟩
    have k2 := blk_up k1.out hb2
    have hb2 := hid (up_trans hb1.out hb2)
    have z0 := blk_cell k2 0 _ rfl
    have z1 := blk_cell k2 1 _ rfl
    have z2 := blk_cell k2 2 _ rfl
    clear k1 k2 hb1 hv1
    go_wp2_with fail
    refine (HD.out _ hb2.out).mono ?_
    rintro e w4 ⟨rfl, rfl⟩
    go_wp2_with fail
    refine (num_any _ _).mono ?_
    rintro e w3 ⟨rfl, rfl⟩
    go_wp2_with fail
    refine (num_any _ _).mono ?_
    rintro e w3 ⟨rfl, rfl⟩
    go_wp2
    go_ret
    exact ⟨rfl, hb2⟩
  · have e : momP t = ([0, 0, 0, 0, 0, 0, 0], 4) := if_neg h
    rw [e] at HS
    have R : retM ([0, 0, 0, 0, 0, 0, 0], 4) = .tuple #[.agg #[.int .i64 0, .int .i64 0, .int .i64 0, .int .i64 0, .int .i64 0, .int .i64 0, .int .i64 0], .int .i64 4] := rfl
    rw [R] at HS
    clear e R he
    go_enter Tryd.func5, Tryd.ntmps5
    go_wp2_with fail
    refine (HV.out _ (Below.refl _ _)).mono ?_
    rintro e v1 ⟨rfl, hv1⟩
    have hv1 := hid hv1
    go_wp2_with fail
    refine (HS.out _ hv1.out).mono ?_
    rintro e w1 ⟨rfl, hb1⟩
    have hb1 := hid (up_al (up_trans hv1.out hb1) (.cells #[.int .i64 0, .int .i64 0, .int .i64 0, .int .i64 0, .int .i64 0, .int .i64 0, .int .i64 0] 34))
    go_wp2_with fail
    refine (num_any _ _).mono ?_
    rintro e w3 ⟨rfl, rfl⟩
    by_cases c : t < 0
    · go_wp2
      go_ret
      exact ⟨rfl, hb1⟩
    · have c2 : 32503680000 ≤ t := by omega
      go_wp2
      go_ret
      exact ⟨rfl, hb1⟩
set_option maxHeartbeats 1000000 in
set_option maxRecDepth 20000 in
theorem years_walk (n : Int) (w : World) (he : Env w) : Calls Tryd.prog 7 #[.int .i64 n] w fun e w' => e = .returned (.bool true) ∧ Below w.heap.size w w' := by
  have HV : Hid (∀ w', Below w.heap.size w w' → Calls Tryd.prog 22 #[] w' fun e w'' => e = .returned (.bool true) ∧ Below w'.heap.size w' w'') := fun w' hb => alive_any w' (he.up hb)
  obtain ⟨q, e1, q0, q1⟩ : ∃ q, Int.tmod n 600 = q ∧ -600 < q ∧ q < 600 := ⟨_, rfl, Int.lt_tmod_of_pos n (by omega), Int.tmod_lt_of_pos n (by omega)⟩
  obtain ⟨k, e2, k0, k1⟩ : ∃ k, (q + 600) % 600 = k ∧ 0 ≤ k ∧ k < 600 := ⟨_, rfl, by omega, by omega⟩
  have HD : Hid (∀ y, 1970 ≤ y → y ≤ 2999 → ∀ w', Below w.heap.size w w' → Calls Tryd.prog 11 #[.int .i64 y, .int .i64 1, .int .i64 1] w' fun e w'' => e = .returned (.tuple #[.int .i64 (bgn y), .int .i64 0]) ∧ w'' = w') := by
    intro y y0 y1 w' hb
    have := day_any y 1 1 w' (he.up hb)
    rw [dayQ_first y0 y1] at this
    exact this
  have D1 := hid (HD.out (1970 + k) (by omega) (by omega))
  have D2 := hid (HD.out (1970 + k + 1) (by omega) (by omega))
  have D3 := hid (HD.out (1970 + k + 400) (by omega) (by omega))
  have HL : Hid (∀ w', Calls Tryd.prog 19 #[.int .i64 (1970 + k)] w' fun e w'' => e = .returned (.bool (leapP (1970 + k))) ∧ w'' = w') := fun w' => leap_any _ w'
  have HL4 : Hid (∀ w', Calls Tryd.prog 19 #[.int .i64 (1970 + k + 400)] w' fun e w'' => e = .returned (.bool (leapP (1970 + k))) ∧ w'' = w') := by
    intro w'
    have := leap_any (1970 + k + 400) w'
    rw [leap_four] at this
    exact this
  have bb := bgn_bounds (y := 1970 + k) (by omega) (by omega)
  have b4 := bgn_four (1970 + k)
  have bn := bgn_next (1970 + k)
  rw [bn] at D2
  rw [b4] at D3
  clear HD b4 bn he
  have hl : Hid (lenY (1970 + k) = if leapP (1970 + k) then 366 else 365) := rfl
  generalize leapP (1970 + k) = lp at *
  generalize bgn (1970 + k) = B at *
  generalize lenY (1970 + k) = L at *
  go_enter Tryd.func7, Tryd.ntmps7
  go_wp2_with fail
  refine (HV.out _ (Below.refl _ _)).mono ?_
  rintro e v1 ⟨rfl, hv1⟩
  have hv1 := hid hv1
  go_wp2_with fail
  refine (D1.out _ hv1.out).mono ?_
  rintro e w3 ⟨rfl, rfl⟩
  go_wp2_with fail
  refine (D2.out _ hv1.out).mono ?_
  rintro e w3 ⟨rfl, rfl⟩
  go_wp2_with fail
  refine (D3.out _ hv1.out).mono ?_
  rintro e w3 ⟨rfl, rfl⟩
  go_wp2_with fail
  refine (HL.out _).mono ?_
  rintro e w3 ⟨rfl, rfl⟩
  cases lp
  · obtain rfl : L = 365 := hl.out
    go_wp2_with fail
    refine (num_any _ _).mono ?_
    rintro e w3 ⟨rfl, rfl⟩
    go_wp2_with fail
    refine (num_any _ _).mono ?_
    rintro e w3 ⟨rfl, rfl⟩
    go_wp2_with fail
    refine (num_any _ _).mono ?_
    rintro e w3 ⟨rfl, rfl⟩
    go_wp2_with fail
    refine (HL.out _).mono ?_
    rintro e w3 ⟨rfl, rfl⟩
    go_wp2_with fail
    refine (HL4.out _).mono ?_
    rintro e w3 ⟨rfl, rfl⟩
    go_wp2
    go_ret
    exact ⟨rfl, hv1⟩
  · obtain rfl : L = 366 := hl.out
    go_wp2_with fail
    refine (num_any _ _).mono ?_
    rintro e w3 ⟨rfl, rfl⟩
    go_wp2_with fail
    refine (num_any _ _).mono ?_
    rintro e w3 ⟨rfl, rfl⟩
    go_wp2_with fail
    refine (num_any _ _).mono ?_
    rintro e w3 ⟨rfl, rfl⟩
    go_wp2_with fail
    refine (HL.out _).mono ?_
    rintro e w3 ⟨rfl, rfl⟩
    go_wp2_with fail
    refine (HL4.out _).mono ?_
    rintro e w3 ⟨rfl, rfl⟩
    go_wp2
    go_ret
    exact ⟨rfl, hv1⟩
end Go.Proofs.YtgandogkjcljkaaDoor
