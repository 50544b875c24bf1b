/- The statement on what all calls tell. -/
import Derived.Test.YtgandogkjcljkaaDoorCLaw
namespace Go.Proofs.YtgandogkjcljkaaDoor
open Go.RowKit
set_option linter.unusedVariables false
set_option linter.unusedSimpArgs false

set_option maxHeartbeats 4000000 in
set_option maxRecDepth 20000 in
theorem tells_walk (y m d t : Int) (w : World) (he : Env w) : Calls Tryd.prog 3 #[.int .i64 y, .int .i64 m, .int .i64 d, .int .i64 t] w fun e w' => e = .returned (.bool true) ∧ Below w.heap.size w w' := by
  have H1 := hid (days_any y m w he)
  have H2 := hid (daysR_any y m w)
  have H3 := hid (day_any y m d w he)
  have H4 := hid (dayR_any y m d w)
  have H5 := hid (date_any d w he)
  have H6 := hid (dateR_any d w)
  have H7 := hid (Split_any t w he)
  have H8 : Hid (∀ w', Calls Tryd.prog 16 #[.int .i64 t] w' fun e w'' => e = .returned (retM (momP t)) ∧ Below w'.heap.size w' w'') := fun w' => SplitR_any t w'
  have H9 : Hid (∀ w', Below w.heap.size w w' → Calls Tryd.prog 17 #[.int .i64 t] w' fun e w'' => e = .returned (retT (textP t)) ∧ Below w'.heap.size w' w'') := fun w' hb => text_any t w' (he.up hb)
  have HA : Hid (∀ w', Calls Tryd.prog 18 #[.int .i64 t] w' fun e w'' => e = .returned (retT (textP t)) ∧ Below w'.heap.size w' w'') := fun w' => textR_any t w'
  have HB : Hid (∀ w', Calls Tryd.prog 19 #[.int .i64 y] w' fun e w'' => e = .returned (.bool (leapP y)) ∧ w'' = w') := fun w' => leap_any y w'
  have HC : Hid (∀ w', Calls Tryd.prog 20 #[.int .i64 y] w' fun e w'' => e = .returned (.bool (leapP y)) ∧ w'' = w') := fun w' => leapR_any y w'
  have HD : Hid (∀ w', Below w.heap.size w w' → Calls Tryd.prog 22 #[] w' fun e w'' => e = .returned (.bool true) ∧ Below w'.heap.size w' w'') := fun w' hb => alive_any w' (he.up hb)
  obtain ⟨p0, p1, p2, p3, p4, p5, p6, px, q⟩ := sev_of (momP t) (momP_len t)
  rw [q] at H7 H8
  have R : retM ([p0, p1, p2, p3, p4, p5, p6], px) = .tuple #[.agg #[.int .i64 p0, .int .i64 p1, .int .i64 p2, .int .i64 p3, .int .i64 p4, .int .i64 p5, .int .i64 p6], .int .i64 px] := rfl
  rw [R] at H7 H8
  have RT : retT (textP t) = .tuple #[.string (strOfNums (textP t).1), .int .i64 (textP t).2] := rfl
  rw [RT] at H9 HA
  have RQ : retQ (dateQ d) = .tuple #[.int .i64 (dateQ d).1, .int .i64 (dateQ d).2.1, .int .i64 (dateQ d).2.2.1, .int .i64 (dateQ d).2.2.2] := rfl
  rw [RQ] at H5 H6
  clear R RT RQ q he
  generalize (daysP y m).1 = a1 at *
  generalize (daysP y m).2 = a2 at *
  generalize (dayQ y m d).1 = b1 at *
  generalize (dayQ y m d).2 = b2 at *
  generalize (dateQ d).1 = c1 at *
  generalize (dateQ d).2.1 = c2 at *
  generalize (dateQ d).2.2.1 = c3 at *
  generalize (dateQ d).2.2.2 = c4 at *
  generalize strOfNums (textP t).1 = s1 at *
  generalize (textP t).2 = s2 at *
  generalize leapP y = lp at *
  go_enter Tryd.func3, Tryd.ntmps3
  go_wp2_with fail
  refine H1.out.mono ?_
  rintro e w1 ⟨rfl, rfl⟩
  go_wp2_with fail
  refine H2.out.mono ?_
  rintro e w1 ⟨rfl, rfl⟩
  go_wp2_with fail
  refine H3.out.mono ?_
  rintro e w1 ⟨rfl, rfl⟩
  go_wp2_with fail
  refine H4.out.mono ?_
  rintro e w1 ⟨rfl, rfl⟩
  go_wp2_with fail
  refine H5.out.mono ?_
  rintro e w1 ⟨rfl, rfl⟩
  go_wp2_with fail
  refine H6.out.mono ?_
  rintro e w1 ⟨rfl, rfl⟩
  clear H1 H2 H3 H4 H5 H6
  go_wp2_with fail
  refine H7.out.mono ?_
  rintro e w2 ⟨rfl, hb2⟩
  have k2 := hid (blk_new w2 (.cells #[.int .i64 p0, .int .i64 p1, .int .i64 p2, .int .i64 p3, .int .i64 p4, .int .i64 p5, .int .i64 p6] 34))
  have hb2 := hid (up_al hb2 (.cells #[.int .i64 p0, .int .i64 p1, .int .i64 p2, .int .i64 p3, .int .i64 p4, .int .i64 p5, .int .i64 p6] 34))
  go_wp2_with fail
  refine (H8.out _).mono ?_
  rintro e w3 ⟨rfl, hb3⟩
  have k2 := hid (blk_up k2.out hb3)
  have hb3' := hid (up_trans hb2.out hb3)
  clear hb2 hb3
  have k3 := hid (blk_new w3 (.cells #[.int .i64 p0, .int .i64 p1, .int .i64 p2, .int .i64 p3, .int .i64 p4, .int .i64 p5, .int .i64 p6] 37))
  have k2 := hid (blk_up k2.out (up_alloc w3 (.cells #[.int .i64 p0, .int .i64 p1, .int .i64 p2, .int .i64 p3, .int .i64 p4, .int .i64 p5, .int .i64 p6] 37)))
  have hb3 := hid (up_al hb3'.out (.cells #[.int .i64 p0, .int .i64 p1, .int .i64 p2, .int .i64 p3, .int .i64 p4, .int .i64 p5, .int .i64 p6] 37))
  clear hb3'
  go_wp2_with fail
  refine (H9.out _ hb3.out).mono ?_
  rintro e w4 ⟨rfl, hb4⟩
  have k2 := hid (blk_up k2.out hb4)
  have k3 := hid (blk_up k3.out hb4)
  have hb4 := hid (up_trans hb3.out hb4)
  clear hb3
  go_wp2_with fail
  refine (HA.out _).mono ?_
  rintro e w5 ⟨rfl, hb5⟩
  have k2 := blk_up k2.out hb5
  have k3 := blk_up k3.out hb5
  have hb5' := hid (up_trans hb4.out hb5)
  clear hb4 hb5 H7 H8 H9 HA
  have z0 := blk_cell k2 0 _ rfl
  have z1 := blk_cell k2 1 _ rfl
  have z2 := blk_cell k2 2 _ rfl
  have z3 := blk_cell k2 3 _ rfl
  have z4 := blk_cell k2 4 _ rfl
  have z5 := blk_cell k2 5 _ rfl
  have z6 := blk_cell k2 6 _ rfl
  have y0 := blk_cell k3 0 _ rfl
  have y1 := blk_cell k3 1 _ rfl
  have y2 := blk_cell k3 2 _ rfl
  have y3 := blk_cell k3 3 _ rfl
  have y4 := blk_cell k3 4 _ rfl
  have y5 := blk_cell k3 5 _ rfl
  have y6 := blk_cell k3 6 _ rfl
  clear k2 k3
  go_wp2_with fail
  refine (HB.out _).mono ?_
  rintro e w1 ⟨rfl, rfl⟩
  go_wp2_with fail
  refine (HC.out _).mono ?_
  rintro e w1 ⟨rfl, rfl⟩
  go_wp2_with fail
  refine (num_any _ _).mono ?_
  rintro e w1 ⟨rfl, rfl⟩
  go_wp2_with fail
  refine (num_any _ _).mono ?_
  rintro e w1 ⟨rfl, rfl⟩
  go_wp2_with fail
  refine (num_any _ _).mono ?_
  rintro e w1 ⟨rfl, rfl⟩
  go_wp2_with fail
  refine (num_any _ _).mono ?_
  rintro e w1 ⟨rfl, rfl⟩
  go_wp2_with fail
  refine (num_any _ _).mono ?_
  rintro e w1 ⟨rfl, rfl⟩
  go_wp2_with fail
  refine (HD.out _ hb5'.out).mono ?_
  rintro e w6 ⟨rfl, hb6⟩
  have U := hid (up_trans hb5'.out hb6)
  go_wp2_with fail
  go_ret
  exact ⟨rfl, U⟩
end Go.Proofs.YtgandogkjcljkaaDoor
