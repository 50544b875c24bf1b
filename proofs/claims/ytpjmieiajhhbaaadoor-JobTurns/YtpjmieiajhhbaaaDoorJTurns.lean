/- The statement on what a lease, a failure, a finish make. -/
import Derived.Test.YtpjmieiajhhbaaaDoorJPj
namespace Go.Proofs.YtpjmieiajhhbaaaDoor
open Go.RowKit
set_option linter.unusedVariables false
set_option linter.unusedSimpArgs false


set_option maxHeartbeats 8000000 in
set_option maxRecDepth 20000 in
theorem turns_walk (j : Jb) (hj : j.ok) (wk tk un b c n : Int) (w : World) (hp : Pj w) : Calls Tryd.prog 4 #[jobV j, .int .i64 wk, .int .i64 tk, .int .i64 un, limV b c n] w fun e w' => e = .returned (.bool true) ∧ Below w.heap.size w w' := by
  have H1 := hid (hp.lease j hj wk tk un)
  have H2 := hid (lease_any j hj wk tk un)
  have H3 := hid (hp.fail j hj b c n un)
  have H4 := hid (fail_any j hj b c n un)
  have H5 := hid (hp.finish j hj un)
  have H6 := hid (finish_any j hj un)
  have H7 := hid (alive_any w hp)
  clear hp hj
  generalize (leaseP j wk tk un).2 = e1 at *
  generalize (leaseP j wk tk un).1 = D1 at *
  generalize (failP j b c n un).2 = e2 at *
  generalize (failP j b c n un).1 = D2 at *
  generalize (finishP j un).2.2 = e3 at *
  generalize (finishP j un).2.1 = is at *
  generalize (finishP j un).1 = D3 at *
  unfold jobV limV at *
  obtain ⟨a0, at1, at2, at3, a4, a5, a6, a7, a8, a9⟩ := j
  dsimp only at H1 H2 H3 H4 H5 H6 ⊢
  generalize strOfNums at1 = a1 at *
  generalize strOfNums at2 = a2 at *
  generalize strOfNums at3 = a3 at *
  obtain ⟨d0, dt1, dt2, dt3, d4, d5, d6, d7, d8, d9⟩ := D1
  dsimp only at H1 H2
  generalize strOfNums dt1 = d1 at *
  generalize strOfNums dt2 = d2 at *
  generalize strOfNums dt3 = d3 at *
  obtain ⟨f0, ft1, ft2, ft3, f4, f5, f6, f7, f8, f9⟩ := D2
  dsimp only at H3 H4
  generalize strOfNums ft1 = f1 at *
  generalize strOfNums ft2 = f2 at *
  generalize strOfNums ft3 = f3 at *
  obtain ⟨g0, gt1, gt2, gt3, g4, g5, g6, g7, g8, g9⟩ := D3
  dsimp only at H5 H6
  generalize strOfNums gt1 = g1 at *
  generalize strOfNums gt2 = g2 at *
  generalize strOfNums gt3 = g3 at *
  obtain ⟨q0, q1, q2, q3⟩ := boxes3 w #[.int .i64 a0, .string a1, .string a2, .string a3, .int .i64 a4, .int .i64 a5, .int .i64 a6, .int .i64 a7, .int .i64 a8, .int .i64 a9] #[.int .i64 b, .int .i64 c, .int .i64 n] #[.int .i64 a0, .string a1, .string a2, .string a3, .int .i64 a4, .int .i64 a5, .int .i64 a6, .int .i64 a7, .int .i64 a8, .int .i64 a9] 23 40 27
  have J0 := hid q0
  have L0 := hid q1
  have X0 := hid q2
  have u0 := hid q3
  clear q0 q1 q2 q3
  go_enter Tryd.func4, Tryd.ntmps4
  have z0 := blk_cell J0.out 0 _ rfl
  have z1 := blk_cell J0.out 1 _ rfl
  have z2 := blk_cell J0.out 2 _ rfl
  have z3 := blk_cell J0.out 3 _ rfl
  have z4 := blk_cell J0.out 4 _ rfl
  have z5 := blk_cell J0.out 5 _ rfl
  have z6 := blk_cell J0.out 6 _ rfl
  have z7 := blk_cell J0.out 7 _ rfl
  have z8 := blk_cell J0.out 8 _ rfl
  have z9 := blk_cell J0.out 9 _ rfl
  have l0 := blk_cell L0.out 0 _ rfl
  have l1 := blk_cell L0.out 1 _ rfl
  have l2 := blk_cell L0.out 2 _ rfl
  have x0 := blk_cell X0.out 0 _ rfl
  have x1 := blk_cell X0.out 1 _ rfl
  have x2 := blk_cell X0.out 2 _ rfl
  have x3 := blk_cell X0.out 3 _ rfl
  have x4 := blk_cell X0.out 4 _ rfl
  have x5 := blk_cell X0.out 5 _ rfl
  have x6 := blk_cell X0.out 6 _ rfl
  have x7 := blk_cell X0.out 7 _ rfl
  have x8 := blk_cell X0.out 8 _ rfl
  have x9 := blk_cell X0.out 9 _ rfl
  go_wp2_with fail
  refine (H1.out _ u0.out).mono ?_
  rintro e w1 ⟨rfl, hb⟩
  have J1 := hid (blk_up (blk_up J0.out hb) (up_alloc w1 (.cells #[.int .i64 d0, .string d1, .string d2, .string d3, .int .i64 d4, .int .i64 d5, .int .i64 d6, .int .i64 d7, .int .i64 d8, .int .i64 d9] 27)))
  have L1 := hid (blk_up (blk_up L0.out hb) (up_alloc w1 (.cells #[.int .i64 d0, .string d1, .string d2, .string d3, .int .i64 d4, .int .i64 d5, .int .i64 d6, .int .i64 d7, .int .i64 d8, .int .i64 d9] 27)))
  have X1 := hid (blk_up (blk_up X0.out hb) (up_alloc w1 (.cells #[.int .i64 d0, .string d1, .string d2, .string d3, .int .i64 d4, .int .i64 d5, .int .i64 d6, .int .i64 d7, .int .i64 d8, .int .i64 d9] 27)))
  have R1_1 := hid (blk_new w1 (.cells #[.int .i64 d0, .string d1, .string d2, .string d3, .int .i64 d4, .int .i64 d5, .int .i64 d6, .int .i64 d7, .int .i64 d8, .int .i64 d9] 27))
  have u1 := hid (up_al (up_trans u0.out hb) (.cells #[.int .i64 d0, .string d1, .string d2, .string d3, .int .i64 d4, .int .i64 d5, .int .i64 d6, .int .i64 d7, .int .i64 d8, .int .i64 d9] 27))
  clear hb J0 L0 X0 u0 
  clear z0 z1 z2 z3 z4 z5 z6 z7 z8 z9 x0 x1 x2 x3 x4 x5 x6 x7 x8 x9 l0 l1 l2
  have z0 := blk_cell J1.out 0 _ rfl
  have z1 := blk_cell J1.out 1 _ rfl
  have z2 := blk_cell J1.out 2 _ rfl
  have z3 := blk_cell J1.out 3 _ rfl
  have z4 := blk_cell J1.out 4 _ rfl
  have z5 := blk_cell J1.out 5 _ rfl
  have z6 := blk_cell J1.out 6 _ rfl
  have z7 := blk_cell J1.out 7 _ rfl
  have z8 := blk_cell J1.out 8 _ rfl
  have z9 := blk_cell J1.out 9 _ rfl
  have l0 := blk_cell L1.out 0 _ rfl
  have l1 := blk_cell L1.out 1 _ rfl
  have l2 := blk_cell L1.out 2 _ rfl
  have x0 := blk_cell X1.out 0 _ rfl
  have x1 := blk_cell X1.out 1 _ rfl
  have x2 := blk_cell X1.out 2 _ rfl
  have x3 := blk_cell X1.out 3 _ rfl
  have x4 := blk_cell X1.out 4 _ rfl
  have x5 := blk_cell X1.out 5 _ rfl
  have x6 := blk_cell X1.out 6 _ rfl
  have x7 := blk_cell X1.out 7 _ rfl
  have x8 := blk_cell X1.out 8 _ rfl
  have x9 := blk_cell X1.out 9 _ rfl
  go_wp2_with fail
  refine (H2.out _).mono ?_
  rintro e w2 ⟨rfl, hb⟩
  have J2 := hid (blk_up (blk_up J1.out hb) (up_alloc w2 (.cells #[.int .i64 d0, .string d1, .string d2, .string d3, .int .i64 d4, .int .i64 d5, .int .i64 d6, .int .i64 d7, .int .i64 d8, .int .i64 d9] 23)))
  have L2 := hid (blk_up (blk_up L1.out hb) (up_alloc w2 (.cells #[.int .i64 d0, .string d1, .string d2, .string d3, .int .i64 d4, .int .i64 d5, .int .i64 d6, .int .i64 d7, .int .i64 d8, .int .i64 d9] 23)))
  have X2 := hid (blk_up (blk_up X1.out hb) (up_alloc w2 (.cells #[.int .i64 d0, .string d1, .string d2, .string d3, .int .i64 d4, .int .i64 d5, .int .i64 d6, .int .i64 d7, .int .i64 d8, .int .i64 d9] 23)))
  have R1_2 := hid (blk_up (blk_up R1_1.out hb) (up_alloc w2 (.cells #[.int .i64 d0, .string d1, .string d2, .string d3, .int .i64 d4, .int .i64 d5, .int .i64 d6, .int .i64 d7, .int .i64 d8, .int .i64 d9] 23)))
  have R2_2 := hid (blk_new w2 (.cells #[.int .i64 d0, .string d1, .string d2, .string d3, .int .i64 d4, .int .i64 d5, .int .i64 d6, .int .i64 d7, .int .i64 d8, .int .i64 d9] 23))
  have u2 := hid (up_al (up_trans u1.out hb) (.cells #[.int .i64 d0, .string d1, .string d2, .string d3, .int .i64 d4, .int .i64 d5, .int .i64 d6, .int .i64 d7, .int .i64 d8, .int .i64 d9] 23))
  clear hb J1 L1 X1 u1 R1_1
  clear z0 z1 z2 z3 z4 z5 z6 z7 z8 z9 x0 x1 x2 x3 x4 x5 x6 x7 x8 x9 l0 l1 l2
  have z0 := blk_cell J2.out 0 _ rfl
  have z1 := blk_cell J2.out 1 _ rfl
  have z2 := blk_cell J2.out 2 _ rfl
  have z3 := blk_cell J2.out 3 _ rfl
  have z4 := blk_cell J2.out 4 _ rfl
  have z5 := blk_cell J2.out 5 _ rfl
  have z6 := blk_cell J2.out 6 _ rfl
  have z7 := blk_cell J2.out 7 _ rfl
  have z8 := blk_cell J2.out 8 _ rfl
  have z9 := blk_cell J2.out 9 _ rfl
  have l0 := blk_cell L2.out 0 _ rfl
  have l1 := blk_cell L2.out 1 _ rfl
  have l2 := blk_cell L2.out 2 _ rfl
  have x0 := blk_cell X2.out 0 _ rfl
  have x1 := blk_cell X2.out 1 _ rfl
  have x2 := blk_cell X2.out 2 _ rfl
  have x3 := blk_cell X2.out 3 _ rfl
  have x4 := blk_cell X2.out 4 _ rfl
  have x5 := blk_cell X2.out 5 _ rfl
  have x6 := blk_cell X2.out 6 _ rfl
  have x7 := blk_cell X2.out 7 _ rfl
  have x8 := blk_cell X2.out 8 _ rfl
  have x9 := blk_cell X2.out 9 _ rfl
  go_wp2_with fail
  refine (H3.out _ u2.out).mono ?_
  rintro e w3 ⟨rfl, hb⟩
  have J3 := hid (blk_up (blk_up J2.out hb) (up_alloc w3 (.cells #[.int .i64 f0, .string f1, .string f2, .string f3, .int .i64 f4, .int .i64 f5, .int .i64 f6, .int .i64 f7, .int .i64 f8, .int .i64 f9] 27)))
  have L3 := hid (blk_up (blk_up L2.out hb) (up_alloc w3 (.cells #[.int .i64 f0, .string f1, .string f2, .string f3, .int .i64 f4, .int .i64 f5, .int .i64 f6, .int .i64 f7, .int .i64 f8, .int .i64 f9] 27)))
  have X3 := hid (blk_up (blk_up X2.out hb) (up_alloc w3 (.cells #[.int .i64 f0, .string f1, .string f2, .string f3, .int .i64 f4, .int .i64 f5, .int .i64 f6, .int .i64 f7, .int .i64 f8, .int .i64 f9] 27)))
  have R1_3 := hid (blk_up (blk_up R1_2.out hb) (up_alloc w3 (.cells #[.int .i64 f0, .string f1, .string f2, .string f3, .int .i64 f4, .int .i64 f5, .int .i64 f6, .int .i64 f7, .int .i64 f8, .int .i64 f9] 27)))
  have R2_3 := hid (blk_up (blk_up R2_2.out hb) (up_alloc w3 (.cells #[.int .i64 f0, .string f1, .string f2, .string f3, .int .i64 f4, .int .i64 f5, .int .i64 f6, .int .i64 f7, .int .i64 f8, .int .i64 f9] 27)))
  have R3_3 := hid (blk_new w3 (.cells #[.int .i64 f0, .string f1, .string f2, .string f3, .int .i64 f4, .int .i64 f5, .int .i64 f6, .int .i64 f7, .int .i64 f8, .int .i64 f9] 27))
  have u3 := hid (up_al (up_trans u2.out hb) (.cells #[.int .i64 f0, .string f1, .string f2, .string f3, .int .i64 f4, .int .i64 f5, .int .i64 f6, .int .i64 f7, .int .i64 f8, .int .i64 f9] 27))
  clear hb J2 L2 X2 u2 R1_2 R2_2
  clear z0 z1 z2 z3 z4 z5 z6 z7 z8 z9 x0 x1 x2 x3 x4 x5 x6 x7 x8 x9 l0 l1 l2
  have z0 := blk_cell J3.out 0 _ rfl
  have z1 := blk_cell J3.out 1 _ rfl
  have z2 := blk_cell J3.out 2 _ rfl
  have z3 := blk_cell J3.out 3 _ rfl
  have z4 := blk_cell J3.out 4 _ rfl
  have z5 := blk_cell J3.out 5 _ rfl
  have z6 := blk_cell J3.out 6 _ rfl
  have z7 := blk_cell J3.out 7 _ rfl
  have z8 := blk_cell J3.out 8 _ rfl
  have z9 := blk_cell J3.out 9 _ rfl
  have l0 := blk_cell L3.out 0 _ rfl
  have l1 := blk_cell L3.out 1 _ rfl
  have l2 := blk_cell L3.out 2 _ rfl
  have x0 := blk_cell X3.out 0 _ rfl
  have x1 := blk_cell X3.out 1 _ rfl
  have x2 := blk_cell X3.out 2 _ rfl
  have x3 := blk_cell X3.out 3 _ rfl
  have x4 := blk_cell X3.out 4 _ rfl
  have x5 := blk_cell X3.out 5 _ rfl
  have x6 := blk_cell X3.out 6 _ rfl
  have x7 := blk_cell X3.out 7 _ rfl
  have x8 := blk_cell X3.out 8 _ rfl
  have x9 := blk_cell X3.out 9 _ rfl
  go_wp2_with fail
  refine (H4.out _).mono ?_
  rintro e w4 ⟨rfl, hb⟩
  have J4 := hid (blk_up (blk_up J3.out hb) (up_alloc w4 (.cells #[.int .i64 f0, .string f1, .string f2, .string f3, .int .i64 f4, .int .i64 f5, .int .i64 f6, .int .i64 f7, .int .i64 f8, .int .i64 f9] 23)))
  have L4 := hid (blk_up (blk_up L3.out hb) (up_alloc w4 (.cells #[.int .i64 f0, .string f1, .string f2, .string f3, .int .i64 f4, .int .i64 f5, .int .i64 f6, .int .i64 f7, .int .i64 f8, .int .i64 f9] 23)))
  have X4 := hid (blk_up (blk_up X3.out hb) (up_alloc w4 (.cells #[.int .i64 f0, .string f1, .string f2, .string f3, .int .i64 f4, .int .i64 f5, .int .i64 f6, .int .i64 f7, .int .i64 f8, .int .i64 f9] 23)))
  have R1_4 := hid (blk_up (blk_up R1_3.out hb) (up_alloc w4 (.cells #[.int .i64 f0, .string f1, .string f2, .string f3, .int .i64 f4, .int .i64 f5, .int .i64 f6, .int .i64 f7, .int .i64 f8, .int .i64 f9] 23)))
  have R2_4 := hid (blk_up (blk_up R2_3.out hb) (up_alloc w4 (.cells #[.int .i64 f0, .string f1, .string f2, .string f3, .int .i64 f4, .int .i64 f5, .int .i64 f6, .int .i64 f7, .int .i64 f8, .int .i64 f9] 23)))
  have R3_4 := hid (blk_up (blk_up R3_3.out hb) (up_alloc w4 (.cells #[.int .i64 f0, .string f1, .string f2, .string f3, .int .i64 f4, .int .i64 f5, .int .i64 f6, .int .i64 f7, .int .i64 f8, .int .i64 f9] 23)))
  have R4_4 := hid (blk_new w4 (.cells #[.int .i64 f0, .string f1, .string f2, .string f3, .int .i64 f4, .int .i64 f5, .int .i64 f6, .int .i64 f7, .int .i64 f8, .int .i64 f9] 23))
  have u4 := hid (up_al (up_trans u3.out hb) (.cells #[.int .i64 f0, .string f1, .string f2, .string f3, .int .i64 f4, .int .i64 f5, .int .i64 f6, .int .i64 f7, .int .i64 f8, .int .i64 f9] 23))
  clear hb J3 L3 X3 u3 R1_3 R2_3 R3_3
  clear z0 z1 z2 z3 z4 z5 z6 z7 z8 z9 x0 x1 x2 x3 x4 x5 x6 x7 x8 x9 l0 l1 l2
  have z0 := blk_cell J4.out 0 _ rfl
  have z1 := blk_cell J4.out 1 _ rfl
  have z2 := blk_cell J4.out 2 _ rfl
  have z3 := blk_cell J4.out 3 _ rfl
  have z4 := blk_cell J4.out 4 _ rfl
  have z5 := blk_cell J4.out 5 _ rfl
  have z6 := blk_cell J4.out 6 _ rfl
  have z7 := blk_cell J4.out 7 _ rfl
  have z8 := blk_cell J4.out 8 _ rfl
  have z9 := blk_cell J4.out 9 _ rfl
  have l0 := blk_cell L4.out 0 _ rfl
  have l1 := blk_cell L4.out 1 _ rfl
  have l2 := blk_cell L4.out 2 _ rfl
  have x0 := blk_cell X4.out 0 _ rfl
  have x1 := blk_cell X4.out 1 _ rfl
  have x2 := blk_cell X4.out 2 _ rfl
  have x3 := blk_cell X4.out 3 _ rfl
  have x4 := blk_cell X4.out 4 _ rfl
  have x5 := blk_cell X4.out 5 _ rfl
  have x6 := blk_cell X4.out 6 _ rfl
  have x7 := blk_cell X4.out 7 _ rfl
  have x8 := blk_cell X4.out 8 _ rfl
  have x9 := blk_cell X4.out 9 _ rfl
  go_wp2_with fail
  refine (H5.out _ u4.out).mono ?_
  rintro e w5 ⟨rfl, hb⟩
  have J5 := hid (blk_up (blk_up J4.out hb) (up_alloc w5 (.cells #[.int .i64 g0, .string g1, .string g2, .string g3, .int .i64 g4, .int .i64 g5, .int .i64 g6, .int .i64 g7, .int .i64 g8, .int .i64 g9] 27)))
  have L5 := hid (blk_up (blk_up L4.out hb) (up_alloc w5 (.cells #[.int .i64 g0, .string g1, .string g2, .string g3, .int .i64 g4, .int .i64 g5, .int .i64 g6, .int .i64 g7, .int .i64 g8, .int .i64 g9] 27)))
  have X5 := hid (blk_up (blk_up X4.out hb) (up_alloc w5 (.cells #[.int .i64 g0, .string g1, .string g2, .string g3, .int .i64 g4, .int .i64 g5, .int .i64 g6, .int .i64 g7, .int .i64 g8, .int .i64 g9] 27)))
  have R1_5 := hid (blk_up (blk_up R1_4.out hb) (up_alloc w5 (.cells #[.int .i64 g0, .string g1, .string g2, .string g3, .int .i64 g4, .int .i64 g5, .int .i64 g6, .int .i64 g7, .int .i64 g8, .int .i64 g9] 27)))
  have R2_5 := hid (blk_up (blk_up R2_4.out hb) (up_alloc w5 (.cells #[.int .i64 g0, .string g1, .string g2, .string g3, .int .i64 g4, .int .i64 g5, .int .i64 g6, .int .i64 g7, .int .i64 g8, .int .i64 g9] 27)))
  have R3_5 := hid (blk_up (blk_up R3_4.out hb) (up_alloc w5 (.cells #[.int .i64 g0, .string g1, .string g2, .string g3, .int .i64 g4, .int .i64 g5, .int .i64 g6, .int .i64 g7, .int .i64 g8, .int .i64 g9] 27)))
  have R4_5 := hid (blk_up (blk_up R4_4.out hb) (up_alloc w5 (.cells #[.int .i64 g0, .string g1, .string g2, .string g3, .int .i64 g4, .int .i64 g5, .int .i64 g6, .int .i64 g7, .int .i64 g8, .int .i64 g9] 27)))
  have R5_5 := hid (blk_new w5 (.cells #[.int .i64 g0, .string g1, .string g2, .string g3, .int .i64 g4, .int .i64 g5, .int .i64 g6, .int .i64 g7, .int .i64 g8, .int .i64 g9] 27))
  have u5 := hid (up_al (up_trans u4.out hb) (.cells #[.int .i64 g0, .string g1, .string g2, .string g3, .int .i64 g4, .int .i64 g5, .int .i64 g6, .int .i64 g7, .int .i64 g8, .int .i64 g9] 27))
  clear hb J4 L4 X4 u4 R1_4 R2_4 R3_4 R4_4
  clear z0 z1 z2 z3 z4 z5 z6 z7 z8 z9 x0 x1 x2 x3 x4 x5 x6 x7 x8 x9 l0 l1 l2
  have z0 := blk_cell J5.out 0 _ rfl
  have z1 := blk_cell J5.out 1 _ rfl
  have z2 := blk_cell J5.out 2 _ rfl
  have z3 := blk_cell J5.out 3 _ rfl
  have z4 := blk_cell J5.out 4 _ rfl
  have z5 := blk_cell J5.out 5 _ rfl
  have z6 := blk_cell J5.out 6 _ rfl
  have z7 := blk_cell J5.out 7 _ rfl
  have z8 := blk_cell J5.out 8 _ rfl
  have z9 := blk_cell J5.out 9 _ rfl
  have l0 := blk_cell L5.out 0 _ rfl
  have l1 := blk_cell L5.out 1 _ rfl
  have l2 := blk_cell L5.out 2 _ rfl
  have x0 := blk_cell X5.out 0 _ rfl
  have x1 := blk_cell X5.out 1 _ rfl
  have x2 := blk_cell X5.out 2 _ rfl
  have x3 := blk_cell X5.out 3 _ rfl
  have x4 := blk_cell X5.out 4 _ rfl
  have x5 := blk_cell X5.out 5 _ rfl
  have x6 := blk_cell X5.out 6 _ rfl
  have x7 := blk_cell X5.out 7 _ rfl
  have x8 := blk_cell X5.out 8 _ rfl
  have x9 := blk_cell X5.out 9 _ rfl
  go_wp2_with fail
  refine (H6.out _).mono ?_
  rintro e w6 ⟨rfl, hb⟩
  have J6 := hid (blk_up (blk_up J5.out hb) (up_alloc w6 (.cells #[.int .i64 g0, .string g1, .string g2, .string g3, .int .i64 g4, .int .i64 g5, .int .i64 g6, .int .i64 g7, .int .i64 g8, .int .i64 g9] 23)))
  have L6 := hid (blk_up (blk_up L5.out hb) (up_alloc w6 (.cells #[.int .i64 g0, .string g1, .string g2, .string g3, .int .i64 g4, .int .i64 g5, .int .i64 g6, .int .i64 g7, .int .i64 g8, .int .i64 g9] 23)))
  have X6 := hid (blk_up (blk_up X5.out hb) (up_alloc w6 (.cells #[.int .i64 g0, .string g1, .string g2, .string g3, .int .i64 g4, .int .i64 g5, .int .i64 g6, .int .i64 g7, .int .i64 g8, .int .i64 g9] 23)))
  have R1_6 := hid (blk_up (blk_up R1_5.out hb) (up_alloc w6 (.cells #[.int .i64 g0, .string g1, .string g2, .string g3, .int .i64 g4, .int .i64 g5, .int .i64 g6, .int .i64 g7, .int .i64 g8, .int .i64 g9] 23)))
  have R2_6 := hid (blk_up (blk_up R2_5.out hb) (up_alloc w6 (.cells #[.int .i64 g0, .string g1, .string g2, .string g3, .int .i64 g4, .int .i64 g5, .int .i64 g6, .int .i64 g7, .int .i64 g8, .int .i64 g9] 23)))
  have R3_6 := hid (blk_up (blk_up R3_5.out hb) (up_alloc w6 (.cells #[.int .i64 g0, .string g1, .string g2, .string g3, .int .i64 g4, .int .i64 g5, .int .i64 g6, .int .i64 g7, .int .i64 g8, .int .i64 g9] 23)))
  have R4_6 := hid (blk_up (blk_up R4_5.out hb) (up_alloc w6 (.cells #[.int .i64 g0, .string g1, .string g2, .string g3, .int .i64 g4, .int .i64 g5, .int .i64 g6, .int .i64 g7, .int .i64 g8, .int .i64 g9] 23)))
  have R5_6 := hid (blk_up (blk_up R5_5.out hb) (up_alloc w6 (.cells #[.int .i64 g0, .string g1, .string g2, .string g3, .int .i64 g4, .int .i64 g5, .int .i64 g6, .int .i64 g7, .int .i64 g8, .int .i64 g9] 23)))
  have R6_6 := hid (blk_new w6 (.cells #[.int .i64 g0, .string g1, .string g2, .string g3, .int .i64 g4, .int .i64 g5, .int .i64 g6, .int .i64 g7, .int .i64 g8, .int .i64 g9] 23))
  have u6 := hid (up_al (up_trans u5.out hb) (.cells #[.int .i64 g0, .string g1, .string g2, .string g3, .int .i64 g4, .int .i64 g5, .int .i64 g6, .int .i64 g7, .int .i64 g8, .int .i64 g9] 23))
  clear hb J5 L5 X5 u5 R1_5 R2_5 R3_5 R4_5 R5_5
  clear z0 z1 z2 z3 z4 z5 z6 z7 z8 z9 x0 x1 x2 x3 x4 x5 x6 x7 x8 x9 l0 l1 l2
  have k'0 := blk_cell R1_6.out 0 _ rfl
  have k'1 := blk_cell R1_6.out 1 _ rfl
  have k'2 := blk_cell R1_6.out 2 _ rfl
  have k'3 := blk_cell R1_6.out 3 _ rfl
  have k'4 := blk_cell R1_6.out 4 _ rfl
  have k'5 := blk_cell R1_6.out 5 _ rfl
  have k'6 := blk_cell R1_6.out 6 _ rfl
  have k'7 := blk_cell R1_6.out 7 _ rfl
  have k'8 := blk_cell R1_6.out 8 _ rfl
  have k'9 := blk_cell R1_6.out 9 _ rfl
  have m'0 := blk_cell R2_6.out 0 _ rfl
  have m'1 := blk_cell R2_6.out 1 _ rfl
  have m'2 := blk_cell R2_6.out 2 _ rfl
  have m'3 := blk_cell R2_6.out 3 _ rfl
  have m'4 := blk_cell R2_6.out 4 _ rfl
  have m'5 := blk_cell R2_6.out 5 _ rfl
  have m'6 := blk_cell R2_6.out 6 _ rfl
  have m'7 := blk_cell R2_6.out 7 _ rfl
  have m'8 := blk_cell R2_6.out 8 _ rfl
  have m'9 := blk_cell R2_6.out 9 _ rfl
  have n'0 := blk_cell R3_6.out 0 _ rfl
  have n'1 := blk_cell R3_6.out 1 _ rfl
  have n'2 := blk_cell R3_6.out 2 _ rfl
  have n'3 := blk_cell R3_6.out 3 _ rfl
  have n'4 := blk_cell R3_6.out 4 _ rfl
  have n'5 := blk_cell R3_6.out 5 _ rfl
  have n'6 := blk_cell R3_6.out 6 _ rfl
  have n'7 := blk_cell R3_6.out 7 _ rfl
  have n'8 := blk_cell R3_6.out 8 _ rfl
  have n'9 := blk_cell R3_6.out 9 _ rfl
  have o'0 := blk_cell R4_6.out 0 _ rfl
  have o'1 := blk_cell R4_6.out 1 _ rfl
  have o'2 := blk_cell R4_6.out 2 _ rfl
  have o'3 := blk_cell R4_6.out 3 _ rfl
  have o'4 := blk_cell R4_6.out 4 _ rfl
  have o'5 := blk_cell R4_6.out 5 _ rfl
  have o'6 := blk_cell R4_6.out 6 _ rfl
  have o'7 := blk_cell R4_6.out 7 _ rfl
  have o'8 := blk_cell R4_6.out 8 _ rfl
  have o'9 := blk_cell R4_6.out 9 _ rfl
  have p'0 := blk_cell R5_6.out 0 _ rfl
  have p'1 := blk_cell R5_6.out 1 _ rfl
  have p'2 := blk_cell R5_6.out 2 _ rfl
  have p'3 := blk_cell R5_6.out 3 _ rfl
  have p'4 := blk_cell R5_6.out 4 _ rfl
  have p'5 := blk_cell R5_6.out 5 _ rfl
  have p'6 := blk_cell R5_6.out 6 _ rfl
  have p'7 := blk_cell R5_6.out 7 _ rfl
  have p'8 := blk_cell R5_6.out 8 _ rfl
  have p'9 := blk_cell R5_6.out 9 _ rfl
  have q'0 := blk_cell R6_6.out 0 _ rfl
  have q'1 := blk_cell R6_6.out 1 _ rfl
  have q'2 := blk_cell R6_6.out 2 _ rfl
  have q'3 := blk_cell R6_6.out 3 _ rfl
  have q'4 := blk_cell R6_6.out 4 _ rfl
  have q'5 := blk_cell R6_6.out 5 _ rfl
  have q'6 := blk_cell R6_6.out 6 _ rfl
  have q'7 := blk_cell R6_6.out 7 _ rfl
  have q'8 := blk_cell R6_6.out 8 _ rfl
  have q'9 := blk_cell R6_6.out 9 _ rfl
  clear H1 H2 H3 H4 H5 H6 J6 L6 X6 R1_6 R2_6 R3_6 R4_6 R5_6 R6_6
  go_wp2_with fail
  refine (num_any _ _).mono ?_
  rintro e w7 ⟨rfl, rfl⟩
  go_wp2_with fail
  refine (num_any _ _).mono ?_
  rintro e w7 ⟨rfl, rfl⟩
  go_wp2_with fail
  refine (num_any _ _).mono ?_
  rintro e w7 ⟨rfl, rfl⟩
  go_wp2_with fail
  refine (H7.out _ u6.out).mono ?_
  rintro e w7 ⟨rfl, hb⟩
  have u7 := hid (up_trans u6.out hb)
  clear hb H7 u6
  go_wp2_with fail
  go_ret
  exact ⟨by first | rfl | simp, u7.out⟩
end Go.Proofs.YtpjmieiajhhbaaaDoor
