/- The statement that what follows is the same job. -/
import Derived.Test.YtpjmieiajhhbaaaDoorJPj
namespace Go.Proofs.YtpjmieiajhhbaaaDoor
open Go.RowKit
set_option linter.unusedVariables false
set_option linter.unusedSimpArgs false


theorem jb0_ok : jb0.ok := ⟨txt_none, txt_none, txt_none⟩
theorem lease_ok {j : Jb} (hj : j.ok) (wk tk un : Int) : (leaseP j wk tk un).1.ok := by
  unfold leaseP
  repeat' split
  all_goals first | exact jb0_ok | exact ⟨hj.na, hj.ru, hj.pa⟩
theorem again_ok {j : Jb} (hj : j.ok) (now : Int) : (againP j now).1.ok := by
  unfold againP
  repeat' split
  all_goals first | exact hj | exact ⟨hj.na, hj.ru, hj.pa⟩
theorem failB_ok {j : Jb} (hj : j.ok) (b c n now : Int) : (failB j b c n now).1.ok := by
  unfold failB
  repeat' split
  all_goals first | exact again_ok hj now | exact ⟨hj.na, hj.ru, hj.pa⟩ | exact ⟨hj.na, txt_none, hj.pa⟩
theorem fail_ok {j : Jb} (hj : j.ok) (b c n now : Int) : (failP j b c n now).1.ok := by
  unfold failP
  repeat' split
  all_goals first | exact jb0_ok | exact failB_ok (j := { j with tr := upTr j.tr }) ⟨hj.na, hj.ru, hj.pa⟩ b c n now
theorem finish_ok {j : Jb} (hj : j.ok) (now : Int) : (finishP j now).1.ok := by
  unfold finishP
  repeat' split
  all_goals first | exact jb0_ok | exact again_ok hj now
set_option maxHeartbeats 8000000 in
set_option maxRecDepth 20000 in
theorem keeps_walk (j : Jb) (hj : j.ok) (wk tk un b c n : Int) (w : World) (hp : Pj w) : Calls Tryd.prog 6 #[jobV j, .int .i64 wk, .int .i64 tk, .int .i64 un, limV b c n] w fun e w' => e = .returned (.bool true) ∧ Below w.heap.size w w' := by
  have HA := hid (alive_any w hp)
  have H1 := hid (hp.lease j hj wk tk un)
  have H2 := hid (hp.fail j hj b c n un)
  have H3 := hid (hp.finish j hj un)
  have K1 : Hid ((leaseP j wk tk un).2 = 0 → ((leaseP j wk tk un).1.id = j.id ∧ strOfNums (leaseP j wk tk un).1.na = strOfNums j.na ∧ strOfNums (leaseP j wk tk un).1.ru = strOfNums j.ru ∧ strOfNums (leaseP j wk tk un).1.pa = strOfNums j.pa ∧ (leaseP j wk tk un).1.tr = j.tr) ∧ Hid (∀ w', Below w.heap.size w w' → Calls Tryd.prog 14 #[jobV (leaseP j wk tk un).1] w' fun e w'' => e = .returned (.int .i64 0) ∧ Below w'.heap.size w' w'')) := fun h => by
    obtain ⟨q0, q1, q2, q3, q4, q5⟩ := lease_keeps h
    refine ⟨⟨q1, congrArg _ q2, congrArg _ q4, congrArg _ q3, q5⟩, fun w' hb => ?_⟩
    have q := hp.check _ (lease_ok hj wk tk un) w' hb
    rw [q0] at q
    exact q
  have K2 : Hid ((failP j b c n un).2 = 0 → ((failP j b c n un).1.id = j.id ∧ strOfNums (failP j b c n un).1.na = strOfNums j.na ∧ strOfNums (failP j b c n un).1.pa = strOfNums j.pa ∧ ((failP j b c n un).1.st == 2) = false) ∧ Hid (∀ w', Below w.heap.size w w' → Calls Tryd.prog 14 #[jobV (failP j b c n un).1] w' fun e w'' => e = .returned (.int .i64 0) ∧ Below w'.heap.size w' w'')) := fun h => by
    obtain ⟨q0, q1, q2, q3, q4⟩ := fail_keeps h
    refine ⟨⟨q1, congrArg _ q2, congrArg _ q3, by simpa using q4⟩, fun w' hb => ?_⟩
    have q := hp.check _ (fail_ok hj b c n un) w' hb
    rw [q0] at q
    exact q
  have K3 : Hid ((finishP j un).2.2 = 0 → ((finishP j un).2.1 = true → ((finishP j un).1.id = j.id ∧ (finishP j un).1.st = 1 ∧ (finishP j un).1.tr = 0) ∧ Hid (∀ w', Below w.heap.size w w' → Calls Tryd.prog 14 #[jobV (finishP j un).1] w' fun e w'' => e = .returned (.int .i64 0) ∧ Below w'.heap.size w' w'')) ∧ ((finishP j un).2.1 = false → (finishP j un).1.id = 0 ∧ ((0 : Int) == j.id) = false)) := fun h => by
    obtain ⟨q1, q2⟩ := finish_keeps h
    refine ⟨fun hi => ?_, fun hi => ?_⟩
    · obtain ⟨q0, q3, q4, q5⟩ := q1 hi
      refine ⟨⟨q3, q4, q5⟩, fun w' hb => ?_⟩
      have q := hp.check _ (finish_ok hj un) w' hb
      rw [q0] at q
      exact q
    · obtain ⟨q3, q4⟩ := q2 hi
      rw [q3]
      refine ⟨rfl, ?_⟩
      have : ¬ (0 : Int) = j.id := fun e => q4 e.symm
      simpa using this
  clear hp hj
  generalize (leaseP j wk tk un).2 = e1 at *
  generalize (leaseP j wk tk un).1 = D1 at *
  generalize (failP j b c n un).2 = e2 at *
  generalize (failP j b c n un).1 = D2 at *
  generalize (finishP j un).2.2 = e3 at *
  generalize (finishP j un).2.1 = is at *
  generalize (finishP j un).1 = D3 at *
  unfold jobV limV at *
  obtain ⟨a0, at1, at2, at3, a4, a5, a6, a7, a8, a9⟩ := j
  dsimp only at H1 H2 H3 K1 K2 K3 ⊢
  generalize strOfNums at1 = a1 at *
  generalize strOfNums at2 = a2 at *
  generalize strOfNums at3 = a3 at *
  obtain ⟨d0, dt1, dt2, dt3, d4, d5, d6, d7, d8, d9⟩ := D1
  dsimp only at H1 K1
  generalize strOfNums dt1 = d1 at *
  generalize strOfNums dt2 = d2 at *
  generalize strOfNums dt3 = d3 at *
  obtain ⟨f0, ft1, ft2, ft3, f4, f5, f6, f7, f8, f9⟩ := D2
  dsimp only at H2 K2
  generalize strOfNums ft1 = f1 at *
  generalize strOfNums ft2 = f2 at *
  generalize strOfNums ft3 = f3 at *
  obtain ⟨g0, gt1, gt2, gt3, g4, g5, g6, g7, g8, g9⟩ := D3
  dsimp only at H3 K3
  generalize strOfNums gt1 = g1 at *
  generalize strOfNums gt2 = g2 at *
  generalize strOfNums gt3 = g3 at *
  obtain ⟨q0, q1, q3⟩ := boxes2 w #[.int .i64 a0, .string a1, .string a2, .string a3, .int .i64 a4, .int .i64 a5, .int .i64 a6, .int .i64 a7, .int .i64 a8, .int .i64 a9] #[.int .i64 b, .int .i64 c, .int .i64 n] 23 40
  have J0 := hid q0
  have L0 := hid q1
  have u0 := hid q3
  clear q0 q1 q3
  go_enter Tryd.func6, Tryd.ntmps6
  have z0 := blk_cell J0.out 0 _ rfl
  have z1 := blk_cell J0.out 1 _ rfl
  have z2 := blk_cell J0.out 2 _ rfl
  have z3 := blk_cell J0.out 3 _ rfl
  have z4 := blk_cell J0.out 4 _ rfl
  have z5 := blk_cell J0.out 5 _ rfl
  have z6 := blk_cell J0.out 6 _ rfl
  have z7 := blk_cell J0.out 7 _ rfl
  have z8 := blk_cell J0.out 8 _ rfl
  have z9 := blk_cell J0.out 9 _ rfl
  have l0 := blk_cell L0.out 0 _ rfl
  have l1 := blk_cell L0.out 1 _ rfl
  have l2 := blk_cell L0.out 2 _ rfl
  go_wp2_with fail
  refine (HA.out _ u0.out).mono ?_
  rintro e w1 ⟨rfl, hb⟩
  have J1 := hid (blk_up J0.out hb)
  have L1 := hid (blk_up L0.out hb)
  have u1 := hid (up_trans u0.out hb)
  clear hb J0 L0 u0 HA
  clear z0 z1 z2 z3 z4 z5 z6 z7 z8 z9 l0 l1 l2
  have z0 := blk_cell J1.out 0 _ rfl
  have z1 := blk_cell J1.out 1 _ rfl
  have z2 := blk_cell J1.out 2 _ rfl
  have z3 := blk_cell J1.out 3 _ rfl
  have z4 := blk_cell J1.out 4 _ rfl
  have z5 := blk_cell J1.out 5 _ rfl
  have z6 := blk_cell J1.out 6 _ rfl
  have z7 := blk_cell J1.out 7 _ rfl
  have z8 := blk_cell J1.out 8 _ rfl
  have z9 := blk_cell J1.out 9 _ rfl
  have l0 := blk_cell L1.out 0 _ rfl
  have l1 := blk_cell L1.out 1 _ rfl
  have l2 := blk_cell L1.out 2 _ rfl
  go_wp2_with fail
  refine (H1.out _ u1.out).mono ?_
  rintro e w2 ⟨rfl, hb⟩
  have J2 := hid (blk_up (blk_up J1.out hb) (up_alloc w2 (.cells #[.int .i64 d0, .string d1, .string d2, .string d3, .int .i64 d4, .int .i64 d5, .int .i64 d6, .int .i64 d7, .int .i64 d8, .int .i64 d9] 27)))
  have L2 := hid (blk_up (blk_up L1.out hb) (up_alloc w2 (.cells #[.int .i64 d0, .string d1, .string d2, .string d3, .int .i64 d4, .int .i64 d5, .int .i64 d6, .int .i64 d7, .int .i64 d8, .int .i64 d9] 27)))
  have R2_2 := hid (blk_new w2 (.cells #[.int .i64 d0, .string d1, .string d2, .string d3, .int .i64 d4, .int .i64 d5, .int .i64 d6, .int .i64 d7, .int .i64 d8, .int .i64 d9] 27))
  have u2 := hid (up_al (up_trans u1.out hb) (.cells #[.int .i64 d0, .string d1, .string d2, .string d3, .int .i64 d4, .int .i64 d5, .int .i64 d6, .int .i64 d7, .int .i64 d8, .int .i64 d9] 27))
  clear hb J1 L1 u1 H1 
  clear z0 z1 z2 z3 z4 z5 z6 z7 z8 z9 l0 l1 l2
  have z0 := blk_cell J2.out 0 _ rfl
  have z1 := blk_cell J2.out 1 _ rfl
  have z2 := blk_cell J2.out 2 _ rfl
  have z3 := blk_cell J2.out 3 _ rfl
  have z4 := blk_cell J2.out 4 _ rfl
  have z5 := blk_cell J2.out 5 _ rfl
  have z6 := blk_cell J2.out 6 _ rfl
  have z7 := blk_cell J2.out 7 _ rfl
  have z8 := blk_cell J2.out 8 _ rfl
  have z9 := blk_cell J2.out 9 _ rfl
  have l0 := blk_cell L2.out 0 _ rfl
  have l1 := blk_cell L2.out 1 _ rfl
  have l2 := blk_cell L2.out 2 _ rfl
  go_wp2_with fail
  refine (H2.out _ u2.out).mono ?_
  rintro e w3 ⟨rfl, hb⟩
  have J3 := hid (blk_up (blk_up J2.out hb) (up_alloc w3 (.cells #[.int .i64 f0, .string f1, .string f2, .string f3, .int .i64 f4, .int .i64 f5, .int .i64 f6, .int .i64 f7, .int .i64 f8, .int .i64 f9] 27)))
  have L3 := hid (blk_up (blk_up L2.out hb) (up_alloc w3 (.cells #[.int .i64 f0, .string f1, .string f2, .string f3, .int .i64 f4, .int .i64 f5, .int .i64 f6, .int .i64 f7, .int .i64 f8, .int .i64 f9] 27)))
  have R2_3 := hid (blk_up (blk_up R2_2.out hb) (up_alloc w3 (.cells #[.int .i64 f0, .string f1, .string f2, .string f3, .int .i64 f4, .int .i64 f5, .int .i64 f6, .int .i64 f7, .int .i64 f8, .int .i64 f9] 27)))
  have R3_3 := hid (blk_new w3 (.cells #[.int .i64 f0, .string f1, .string f2, .string f3, .int .i64 f4, .int .i64 f5, .int .i64 f6, .int .i64 f7, .int .i64 f8, .int .i64 f9] 27))
  have u3 := hid (up_al (up_trans u2.out hb) (.cells #[.int .i64 f0, .string f1, .string f2, .string f3, .int .i64 f4, .int .i64 f5, .int .i64 f6, .int .i64 f7, .int .i64 f8, .int .i64 f9] 27))
  clear hb J2 L2 u2 H2 R2_2
  clear z0 z1 z2 z3 z4 z5 z6 z7 z8 z9 l0 l1 l2
  have z0 := blk_cell J3.out 0 _ rfl
  have z1 := blk_cell J3.out 1 _ rfl
  have z2 := blk_cell J3.out 2 _ rfl
  have z3 := blk_cell J3.out 3 _ rfl
  have z4 := blk_cell J3.out 4 _ rfl
  have z5 := blk_cell J3.out 5 _ rfl
  have z6 := blk_cell J3.out 6 _ rfl
  have z7 := blk_cell J3.out 7 _ rfl
  have z8 := blk_cell J3.out 8 _ rfl
  have z9 := blk_cell J3.out 9 _ rfl
  have l0 := blk_cell L3.out 0 _ rfl
  have l1 := blk_cell L3.out 1 _ rfl
  have l2 := blk_cell L3.out 2 _ rfl
  go_wp2_with fail
  refine (H3.out _ u3.out).mono ?_
  rintro e w4 ⟨rfl, hb⟩
  have J4 := hid (blk_up (blk_up J3.out hb) (up_alloc w4 (.cells #[.int .i64 g0, .string g1, .string g2, .string g3, .int .i64 g4, .int .i64 g5, .int .i64 g6, .int .i64 g7, .int .i64 g8, .int .i64 g9] 27)))
  have L4 := hid (blk_up (blk_up L3.out hb) (up_alloc w4 (.cells #[.int .i64 g0, .string g1, .string g2, .string g3, .int .i64 g4, .int .i64 g5, .int .i64 g6, .int .i64 g7, .int .i64 g8, .int .i64 g9] 27)))
  have R2_4 := hid (blk_up (blk_up R2_3.out hb) (up_alloc w4 (.cells #[.int .i64 g0, .string g1, .string g2, .string g3, .int .i64 g4, .int .i64 g5, .int .i64 g6, .int .i64 g7, .int .i64 g8, .int .i64 g9] 27)))
  have R3_4 := hid (blk_up (blk_up R3_3.out hb) (up_alloc w4 (.cells #[.int .i64 g0, .string g1, .string g2, .string g3, .int .i64 g4, .int .i64 g5, .int .i64 g6, .int .i64 g7, .int .i64 g8, .int .i64 g9] 27)))
  have R4_4 := hid (blk_new w4 (.cells #[.int .i64 g0, .string g1, .string g2, .string g3, .int .i64 g4, .int .i64 g5, .int .i64 g6, .int .i64 g7, .int .i64 g8, .int .i64 g9] 27))
  have u4 := hid (up_al (up_trans u3.out hb) (.cells #[.int .i64 g0, .string g1, .string g2, .string g3, .int .i64 g4, .int .i64 g5, .int .i64 g6, .int .i64 g7, .int .i64 g8, .int .i64 g9] 27))
  clear hb J3 L3 u3 H3 R2_3 R3_3
  clear z0 z1 z2 z3 z4 z5 z6 z7 z8 z9 l0 l1 l2
  have z0 := blk_cell J4.out 0 _ rfl
  have z1 := blk_cell J4.out 1 _ rfl
  have z2 := blk_cell J4.out 2 _ rfl
  have z3 := blk_cell J4.out 3 _ rfl
  have z4 := blk_cell J4.out 4 _ rfl
  have z5 := blk_cell J4.out 5 _ rfl
  have z6 := blk_cell J4.out 6 _ rfl
  have z7 := blk_cell J4.out 7 _ rfl
  have z8 := blk_cell J4.out 8 _ rfl
  have z9 := blk_cell J4.out 9 _ rfl
  have l0 := blk_cell L4.out 0 _ rfl
  have l1 := blk_cell L4.out 1 _ rfl
  have l2 := blk_cell L4.out 2 _ rfl
  have k'0 := blk_cell R2_4.out 0 _ rfl
  have k'1 := blk_cell R2_4.out 1 _ rfl
  have k'2 := blk_cell R2_4.out 2 _ rfl
  have k'3 := blk_cell R2_4.out 3 _ rfl
  have k'4 := blk_cell R2_4.out 4 _ rfl
  have k'5 := blk_cell R2_4.out 5 _ rfl
  have k'6 := blk_cell R2_4.out 6 _ rfl
  have k'7 := blk_cell R2_4.out 7 _ rfl
  have k'8 := blk_cell R2_4.out 8 _ rfl
  have k'9 := blk_cell R2_4.out 9 _ rfl
  have m'0 := blk_cell R3_4.out 0 _ rfl
  have m'1 := blk_cell R3_4.out 1 _ rfl
  have m'2 := blk_cell R3_4.out 2 _ rfl
  have m'3 := blk_cell R3_4.out 3 _ rfl
  have m'4 := blk_cell R3_4.out 4 _ rfl
  have m'5 := blk_cell R3_4.out 5 _ rfl
  have m'6 := blk_cell R3_4.out 6 _ rfl
  have m'7 := blk_cell R3_4.out 7 _ rfl
  have m'8 := blk_cell R3_4.out 8 _ rfl
  have m'9 := blk_cell R3_4.out 9 _ rfl
  have n'0 := blk_cell R4_4.out 0 _ rfl
  have n'1 := blk_cell R4_4.out 1 _ rfl
  have n'2 := blk_cell R4_4.out 2 _ rfl
  have n'3 := blk_cell R4_4.out 3 _ rfl
  have n'4 := blk_cell R4_4.out 4 _ rfl
  have n'5 := blk_cell R4_4.out 5 _ rfl
  have n'6 := blk_cell R4_4.out 6 _ rfl
  have n'7 := blk_cell R4_4.out 7 _ rfl
  have n'8 := blk_cell R4_4.out 8 _ rfl
  have n'9 := blk_cell R4_4.out 9 _ rfl
  clear l0 l1 l2 L4
  go_wp2_with fail
  refine (num_any _ _).mono ?_
  rintro e w9 ⟨rfl, rfl⟩
  by_cases c1 : e1 = 0
  · subst c1
    obtain ⟨⟨rfl, rfl, rfl, rfl, rfl⟩, CA⟩ := K1.out rfl
    clear K1
    go_wp2_with fail
    refine (CA.out _ u4.out).mono ?_
    rintro e w5 ⟨rfl, hb⟩
    have J5 := hid (blk_up J4.out hb)
    have R2_5 := hid (blk_up R2_4.out hb)
    have R3_5 := hid (blk_up R3_4.out hb)
    have R4_5 := hid (blk_up R4_4.out hb)
    have u5 := hid (up_trans u4.out hb)
    clear hb J4 u4 R2_4 R3_4 R4_4
    clear z0 z1 z2 z3 z4 z5 z6 z7 z8 z9 k'0 k'1 k'2 k'3 k'4 k'5 k'6 k'7 k'8 k'9 m'0 m'1 m'2 m'3 m'4 m'5 m'6 m'7 m'8 m'9 n'0 n'1 n'2 n'3 n'4 n'5 n'6 n'7 n'8 n'9
    have z0 := blk_cell J5.out 0 _ rfl
    have z1 := blk_cell J5.out 1 _ rfl
    have z2 := blk_cell J5.out 2 _ rfl
    have z3 := blk_cell J5.out 3 _ rfl
    have z4 := blk_cell J5.out 4 _ rfl
    have z5 := blk_cell J5.out 5 _ rfl
    have z6 := blk_cell J5.out 6 _ rfl
    have z7 := blk_cell J5.out 7 _ rfl
    have z8 := blk_cell J5.out 8 _ rfl
    have z9 := blk_cell J5.out 9 _ rfl
    have k'0 := blk_cell R2_5.out 0 _ rfl
    have k'1 := blk_cell R2_5.out 1 _ rfl
    have k'2 := blk_cell R2_5.out 2 _ rfl
    have k'3 := blk_cell R2_5.out 3 _ rfl
    have k'4 := blk_cell R2_5.out 4 _ rfl
    have k'5 := blk_cell R2_5.out 5 _ rfl
    have k'6 := blk_cell R2_5.out 6 _ rfl
    have k'7 := blk_cell R2_5.out 7 _ rfl
    have k'8 := blk_cell R2_5.out 8 _ rfl
    have k'9 := blk_cell R2_5.out 9 _ rfl
    have m'0 := blk_cell R3_5.out 0 _ rfl
    have m'1 := blk_cell R3_5.out 1 _ rfl
    have m'2 := blk_cell R3_5.out 2 _ rfl
    have m'3 := blk_cell R3_5.out 3 _ rfl
    have m'4 := blk_cell R3_5.out 4 _ rfl
    have m'5 := blk_cell R3_5.out 5 _ rfl
    have m'6 := blk_cell R3_5.out 6 _ rfl
    have m'7 := blk_cell R3_5.out 7 _ rfl
    have m'8 := blk_cell R3_5.out 8 _ rfl
    have m'9 := blk_cell R3_5.out 9 _ rfl
    have n'0 := blk_cell R4_5.out 0 _ rfl
    have n'1 := blk_cell R4_5.out 1 _ rfl
    have n'2 := blk_cell R4_5.out 2 _ rfl
    have n'3 := blk_cell R4_5.out 3 _ rfl
    have n'4 := blk_cell R4_5.out 4 _ rfl
    have n'5 := blk_cell R4_5.out 5 _ rfl
    have n'6 := blk_cell R4_5.out 6 _ rfl
    have n'7 := blk_cell R4_5.out 7 _ rfl
    have n'8 := blk_cell R4_5.out 8 _ rfl
    have n'9 := blk_cell R4_5.out 9 _ rfl
    clear CA
    go_wp2_with fail
    refine (num_any _ _).mono ?_
    rintro e w9 ⟨rfl, rfl⟩
    go_wp2_with fail
    refine (num_any _ _).mono ?_
    rintro e w9 ⟨rfl, rfl⟩
    by_cases c2 : e2 = 0
    · subst c2
      obtain ⟨⟨rfl, rfl, rfl, n2⟩, CB⟩ := K2.out rfl
      clear K2
      go_wp2_with fail
      refine (CB.out _ u5.out).mono ?_
      rintro e w6 ⟨rfl, hb⟩
      have J6 := hid (blk_up J5.out hb)
      have R2_6 := hid (blk_up R2_5.out hb)
      have R3_6 := hid (blk_up R3_5.out hb)
      have R4_6 := hid (blk_up R4_5.out hb)
      have u6 := hid (up_trans u5.out hb)
      clear hb J5 u5 R2_5 R3_5 R4_5
      clear z0 z1 z2 z3 z4 z5 z6 z7 z8 z9 k'0 k'1 k'2 k'3 k'4 k'5 k'6 k'7 k'8 k'9 m'0 m'1 m'2 m'3 m'4 m'5 m'6 m'7 m'8 m'9 n'0 n'1 n'2 n'3 n'4 n'5 n'6 n'7 n'8 n'9
      have z0 := blk_cell J6.out 0 _ rfl
      have z1 := blk_cell J6.out 1 _ rfl
      have z2 := blk_cell J6.out 2 _ rfl
      have z3 := blk_cell J6.out 3 _ rfl
      have z4 := blk_cell J6.out 4 _ rfl
      have z5 := blk_cell J6.out 5 _ rfl
      have z6 := blk_cell J6.out 6 _ rfl
      have z7 := blk_cell J6.out 7 _ rfl
      have z8 := blk_cell J6.out 8 _ rfl
      have z9 := blk_cell J6.out 9 _ rfl
      have k'0 := blk_cell R2_6.out 0 _ rfl
      have k'1 := blk_cell R2_6.out 1 _ rfl
      have k'2 := blk_cell R2_6.out 2 _ rfl
      have k'3 := blk_cell R2_6.out 3 _ rfl
      have k'4 := blk_cell R2_6.out 4 _ rfl
      have k'5 := blk_cell R2_6.out 5 _ rfl
      have k'6 := blk_cell R2_6.out 6 _ rfl
      have k'7 := blk_cell R2_6.out 7 _ rfl
      have k'8 := blk_cell R2_6.out 8 _ rfl
      have k'9 := blk_cell R2_6.out 9 _ rfl
      have m'0 := blk_cell R3_6.out 0 _ rfl
      have m'1 := blk_cell R3_6.out 1 _ rfl
      have m'2 := blk_cell R3_6.out 2 _ rfl
      have m'3 := blk_cell R3_6.out 3 _ rfl
      have m'4 := blk_cell R3_6.out 4 _ rfl
      have m'5 := blk_cell R3_6.out 5 _ rfl
      have m'6 := blk_cell R3_6.out 6 _ rfl
      have m'7 := blk_cell R3_6.out 7 _ rfl
      have m'8 := blk_cell R3_6.out 8 _ rfl
      have m'9 := blk_cell R3_6.out 9 _ rfl
      have n'0 := blk_cell R4_6.out 0 _ rfl
      have n'1 := blk_cell R4_6.out 1 _ rfl
      have n'2 := blk_cell R4_6.out 2 _ rfl
      have n'3 := blk_cell R4_6.out 3 _ rfl
      have n'4 := blk_cell R4_6.out 4 _ rfl
      have n'5 := blk_cell R4_6.out 5 _ rfl
      have n'6 := blk_cell R4_6.out 6 _ rfl
      have n'7 := blk_cell R4_6.out 7 _ rfl
      have n'8 := blk_cell R4_6.out 8 _ rfl
      have n'9 := blk_cell R4_6.out 9 _ rfl
      clear CB
      go_wp2_with fail
      refine (num_any _ _).mono ?_
      rintro e w9 ⟨rfl, rfl⟩
      go_wp2_with fail
      refine (num_any _ _).mono ?_
      rintro e w9 ⟨rfl, rfl⟩
      by_cases c3 : e3 = 0
      · subst c3
        obtain ⟨q1, q2⟩ := K3.out rfl
        clear K3
        cases is
        · obtain ⟨rfl, n1⟩ := q2 rfl
          clear q1 q2
          go_wp2_with fail
          go_ret
          exact ⟨by first | rfl | (simp; done), u6.out⟩
        · obtain ⟨⟨rfl, rfl, rfl⟩, CC⟩ := q1 rfl
          clear q1 q2
          go_wp2_with fail
          refine (CC.out _ u6.out).mono ?_
          rintro e w7 ⟨rfl, hb⟩
          have J7 := hid (blk_up J6.out hb)
          have R2_7 := hid (blk_up R2_6.out hb)
          have R3_7 := hid (blk_up R3_6.out hb)
          have R4_7 := hid (blk_up R4_6.out hb)
          have u7 := hid (up_trans u6.out hb)
          clear hb J6 u6 R2_6 R3_6 R4_6
          clear z0 z1 z2 z3 z4 z5 z6 z7 z8 z9 k'0 k'1 k'2 k'3 k'4 k'5 k'6 k'7 k'8 k'9 m'0 m'1 m'2 m'3 m'4 m'5 m'6 m'7 m'8 m'9 n'0 n'1 n'2 n'3 n'4 n'5 n'6 n'7 n'8 n'9
          have z0 := blk_cell J7.out 0 _ rfl
          have z1 := blk_cell J7.out 1 _ rfl
          have z2 := blk_cell J7.out 2 _ rfl
          have z3 := blk_cell J7.out 3 _ rfl
          have z4 := blk_cell J7.out 4 _ rfl
          have z5 := blk_cell J7.out 5 _ rfl
          have z6 := blk_cell J7.out 6 _ rfl
          have z7 := blk_cell J7.out 7 _ rfl
          have z8 := blk_cell J7.out 8 _ rfl
          have z9 := blk_cell J7.out 9 _ rfl
          have k'0 := blk_cell R2_7.out 0 _ rfl
          have k'1 := blk_cell R2_7.out 1 _ rfl
          have k'2 := blk_cell R2_7.out 2 _ rfl
          have k'3 := blk_cell R2_7.out 3 _ rfl
          have k'4 := blk_cell R2_7.out 4 _ rfl
          have k'5 := blk_cell R2_7.out 5 _ rfl
          have k'6 := blk_cell R2_7.out 6 _ rfl
          have k'7 := blk_cell R2_7.out 7 _ rfl
          have k'8 := blk_cell R2_7.out 8 _ rfl
          have k'9 := blk_cell R2_7.out 9 _ rfl
          have m'0 := blk_cell R3_7.out 0 _ rfl
          have m'1 := blk_cell R3_7.out 1 _ rfl
          have m'2 := blk_cell R3_7.out 2 _ rfl
          have m'3 := blk_cell R3_7.out 3 _ rfl
          have m'4 := blk_cell R3_7.out 4 _ rfl
          have m'5 := blk_cell R3_7.out 5 _ rfl
          have m'6 := blk_cell R3_7.out 6 _ rfl
          have m'7 := blk_cell R3_7.out 7 _ rfl
          have m'8 := blk_cell R3_7.out 8 _ rfl
          have m'9 := blk_cell R3_7.out 9 _ rfl
          have n'0 := blk_cell R4_7.out 0 _ rfl
          have n'1 := blk_cell R4_7.out 1 _ rfl
          have n'2 := blk_cell R4_7.out 2 _ rfl
          have n'3 := blk_cell R4_7.out 3 _ rfl
          have n'4 := blk_cell R4_7.out 4 _ rfl
          have n'5 := blk_cell R4_7.out 5 _ rfl
          have n'6 := blk_cell R4_7.out 6 _ rfl
          have n'7 := blk_cell R4_7.out 7 _ rfl
          have n'8 := blk_cell R4_7.out 8 _ rfl
          have n'9 := blk_cell R4_7.out 9 _ rfl
          go_wp2_with fail
          refine (num_any _ _).mono ?_
          rintro e w9 ⟨rfl, rfl⟩
          go_wp2_with fail
          go_ret
          exact ⟨by first | rfl | (simp; done), u7.out⟩
      · have n1 : (e3 != 0) = true := by simpa using c3
        clear K3 c3
        go_wp2_with fail
        go_ret
        exact ⟨by first | rfl | (simp; done), u6.out⟩
    · have n2 : (e2 == 0) = false := by simpa using c2
      clear K2 c2
      go_wp2_with fail
      refine (num_any _ _).mono ?_
      rintro e w9 ⟨rfl, rfl⟩
      by_cases c3 : e3 = 0
      · subst c3
        obtain ⟨q1, q2⟩ := K3.out rfl
        clear K3
        cases is
        · obtain ⟨rfl, n1⟩ := q2 rfl
          clear q1 q2
          go_wp2_with fail
          go_ret
          exact ⟨by first | rfl | (simp; done), u5.out⟩
        · obtain ⟨⟨rfl, rfl, rfl⟩, CC⟩ := q1 rfl
          clear q1 q2
          go_wp2_with fail
          refine (CC.out _ u5.out).mono ?_
          rintro e w6 ⟨rfl, hb⟩
          have J6 := hid (blk_up J5.out hb)
          have R2_6 := hid (blk_up R2_5.out hb)
          have R3_6 := hid (blk_up R3_5.out hb)
          have R4_6 := hid (blk_up R4_5.out hb)
          have u6 := hid (up_trans u5.out hb)
          clear hb J5 u5 R2_5 R3_5 R4_5
          clear z0 z1 z2 z3 z4 z5 z6 z7 z8 z9 k'0 k'1 k'2 k'3 k'4 k'5 k'6 k'7 k'8 k'9 m'0 m'1 m'2 m'3 m'4 m'5 m'6 m'7 m'8 m'9 n'0 n'1 n'2 n'3 n'4 n'5 n'6 n'7 n'8 n'9
          have z0 := blk_cell J6.out 0 _ rfl
          have z1 := blk_cell J6.out 1 _ rfl
          have z2 := blk_cell J6.out 2 _ rfl
          have z3 := blk_cell J6.out 3 _ rfl
          have z4 := blk_cell J6.out 4 _ rfl
          have z5 := blk_cell J6.out 5 _ rfl
          have z6 := blk_cell J6.out 6 _ rfl
          have z7 := blk_cell J6.out 7 _ rfl
          have z8 := blk_cell J6.out 8 _ rfl
          have z9 := blk_cell J6.out 9 _ rfl
          have k'0 := blk_cell R2_6.out 0 _ rfl
          have k'1 := blk_cell R2_6.out 1 _ rfl
          have k'2 := blk_cell R2_6.out 2 _ rfl
          have k'3 := blk_cell R2_6.out 3 _ rfl
          have k'4 := blk_cell R2_6.out 4 _ rfl
          have k'5 := blk_cell R2_6.out 5 _ rfl
          have k'6 := blk_cell R2_6.out 6 _ rfl
          have k'7 := blk_cell R2_6.out 7 _ rfl
          have k'8 := blk_cell R2_6.out 8 _ rfl
          have k'9 := blk_cell R2_6.out 9 _ rfl
          have m'0 := blk_cell R3_6.out 0 _ rfl
          have m'1 := blk_cell R3_6.out 1 _ rfl
          have m'2 := blk_cell R3_6.out 2 _ rfl
          have m'3 := blk_cell R3_6.out 3 _ rfl
          have m'4 := blk_cell R3_6.out 4 _ rfl
          have m'5 := blk_cell R3_6.out 5 _ rfl
          have m'6 := blk_cell R3_6.out 6 _ rfl
          have m'7 := blk_cell R3_6.out 7 _ rfl
          have m'8 := blk_cell R3_6.out 8 _ rfl
          have m'9 := blk_cell R3_6.out 9 _ rfl
          have n'0 := blk_cell R4_6.out 0 _ rfl
          have n'1 := blk_cell R4_6.out 1 _ rfl
          have n'2 := blk_cell R4_6.out 2 _ rfl
          have n'3 := blk_cell R4_6.out 3 _ rfl
          have n'4 := blk_cell R4_6.out 4 _ rfl
          have n'5 := blk_cell R4_6.out 5 _ rfl
          have n'6 := blk_cell R4_6.out 6 _ rfl
          have n'7 := blk_cell R4_6.out 7 _ rfl
          have n'8 := blk_cell R4_6.out 8 _ rfl
          have n'9 := blk_cell R4_6.out 9 _ rfl
          go_wp2_with fail
          refine (num_any _ _).mono ?_
          rintro e w9 ⟨rfl, rfl⟩
          go_wp2_with fail
          go_ret
          exact ⟨by first | rfl | (simp; done), u6.out⟩
      · have n1 : (e3 != 0) = true := by simpa using c3
        clear K3 c3
        go_wp2_with fail
        go_ret
        exact ⟨by first | rfl | (simp; done), u5.out⟩
  · have n0 : (e1 == 0) = false := by simpa using c1
    clear K1 c1
    go_wp2_with fail
    refine (num_any _ _).mono ?_
    rintro e w9 ⟨rfl, rfl⟩
    by_cases c2 : e2 = 0
    · subst c2
      obtain ⟨⟨rfl, rfl, rfl, n2⟩, CB⟩ := K2.out rfl
      clear K2
      go_wp2_with fail
      refine (CB.out _ u4.out).mono ?_
      rintro e w5 ⟨rfl, hb⟩
      have J5 := hid (blk_up J4.out hb)
      have R2_5 := hid (blk_up R2_4.out hb)
      have R3_5 := hid (blk_up R3_4.out hb)
      have R4_5 := hid (blk_up R4_4.out hb)
      have u5 := hid (up_trans u4.out hb)
      clear hb J4 u4 R2_4 R3_4 R4_4
      clear z0 z1 z2 z3 z4 z5 z6 z7 z8 z9 k'0 k'1 k'2 k'3 k'4 k'5 k'6 k'7 k'8 k'9 m'0 m'1 m'2 m'3 m'4 m'5 m'6 m'7 m'8 m'9 n'0 n'1 n'2 n'3 n'4 n'5 n'6 n'7 n'8 n'9
      have z0 := blk_cell J5.out 0 _ rfl
      have z1 := blk_cell J5.out 1 _ rfl
      have z2 := blk_cell J5.out 2 _ rfl
      have z3 := blk_cell J5.out 3 _ rfl
      have z4 := blk_cell J5.out 4 _ rfl
      have z5 := blk_cell J5.out 5 _ rfl
      have z6 := blk_cell J5.out 6 _ rfl
      have z7 := blk_cell J5.out 7 _ rfl
      have z8 := blk_cell J5.out 8 _ rfl
      have z9 := blk_cell J5.out 9 _ rfl
      have k'0 := blk_cell R2_5.out 0 _ rfl
      have k'1 := blk_cell R2_5.out 1 _ rfl
      have k'2 := blk_cell R2_5.out 2 _ rfl
      have k'3 := blk_cell R2_5.out 3 _ rfl
      have k'4 := blk_cell R2_5.out 4 _ rfl
      have k'5 := blk_cell R2_5.out 5 _ rfl
      have k'6 := blk_cell R2_5.out 6 _ rfl
      have k'7 := blk_cell R2_5.out 7 _ rfl
      have k'8 := blk_cell R2_5.out 8 _ rfl
      have k'9 := blk_cell R2_5.out 9 _ rfl
      have m'0 := blk_cell R3_5.out 0 _ rfl
      have m'1 := blk_cell R3_5.out 1 _ rfl
      have m'2 := blk_cell R3_5.out 2 _ rfl
      have m'3 := blk_cell R3_5.out 3 _ rfl
      have m'4 := blk_cell R3_5.out 4 _ rfl
      have m'5 := blk_cell R3_5.out 5 _ rfl
      have m'6 := blk_cell R3_5.out 6 _ rfl
      have m'7 := blk_cell R3_5.out 7 _ rfl
      have m'8 := blk_cell R3_5.out 8 _ rfl
      have m'9 := blk_cell R3_5.out 9 _ rfl
      have n'0 := blk_cell R4_5.out 0 _ rfl
      have n'1 := blk_cell R4_5.out 1 _ rfl
      have n'2 := blk_cell R4_5.out 2 _ rfl
      have n'3 := blk_cell R4_5.out 3 _ rfl
      have n'4 := blk_cell R4_5.out 4 _ rfl
      have n'5 := blk_cell R4_5.out 5 _ rfl
      have n'6 := blk_cell R4_5.out 6 _ rfl
      have n'7 := blk_cell R4_5.out 7 _ rfl
      have n'8 := blk_cell R4_5.out 8 _ rfl
      have n'9 := blk_cell R4_5.out 9 _ rfl
      clear CB
      go_wp2_with fail
      refine (num_any _ _).mono ?_
      rintro e w9 ⟨rfl, rfl⟩
      go_wp2_with fail
      refine (num_any _ _).mono ?_
      rintro e w9 ⟨rfl, rfl⟩
      by_cases c3 : e3 = 0
      · subst c3
        obtain ⟨q1, q2⟩ := K3.out rfl
        clear K3
        cases is
        · obtain ⟨rfl, n1⟩ := q2 rfl
          clear q1 q2
          go_wp2_with fail
          go_ret
          exact ⟨by first | rfl | (simp; done), u5.out⟩
        · obtain ⟨⟨rfl, rfl, rfl⟩, CC⟩ := q1 rfl
          clear q1 q2
          go_wp2_with fail
          refine (CC.out _ u5.out).mono ?_
          rintro e w6 ⟨rfl, hb⟩
          have J6 := hid (blk_up J5.out hb)
          have R2_6 := hid (blk_up R2_5.out hb)
          have R3_6 := hid (blk_up R3_5.out hb)
          have R4_6 := hid (blk_up R4_5.out hb)
          have u6 := hid (up_trans u5.out hb)
          clear hb J5 u5 R2_5 R3_5 R4_5
          clear z0 z1 z2 z3 z4 z5 z6 z7 z8 z9 k'0 k'1 k'2 k'3 k'4 k'5 k'6 k'7 k'8 k'9 m'0 m'1 m'2 m'3 m'4 m'5 m'6 m'7 m'8 m'9 n'0 n'1 n'2 n'3 n'4 n'5 n'6 n'7 n'8 n'9
          have z0 := blk_cell J6.out 0 _ rfl
          have z1 := blk_cell J6.out 1 _ rfl
          have z2 := blk_cell J6.out 2 _ rfl
          have z3 := blk_cell J6.out 3 _ rfl
          have z4 := blk_cell J6.out 4 _ rfl
          have z5 := blk_cell J6.out 5 _ rfl
          have z6 := blk_cell J6.out 6 _ rfl
          have z7 := blk_cell J6.out 7 _ rfl
          have z8 := blk_cell J6.out 8 _ rfl
          have z9 := blk_cell J6.out 9 _ rfl
          have k'0 := blk_cell R2_6.out 0 _ rfl
          have k'1 := blk_cell R2_6.out 1 _ rfl
          have k'2 := blk_cell R2_6.out 2 _ rfl
          have k'3 := blk_cell R2_6.out 3 _ rfl
          have k'4 := blk_cell R2_6.out 4 _ rfl
          have k'5 := blk_cell R2_6.out 5 _ rfl
          have k'6 := blk_cell R2_6.out 6 _ rfl
          have k'7 := blk_cell R2_6.out 7 _ rfl
          have k'8 := blk_cell R2_6.out 8 _ rfl
          have k'9 := blk_cell R2_6.out 9 _ rfl
          have m'0 := blk_cell R3_6.out 0 _ rfl
          have m'1 := blk_cell R3_6.out 1 _ rfl
          have m'2 := blk_cell R3_6.out 2 _ rfl
          have m'3 := blk_cell R3_6.out 3 _ rfl
          have m'4 := blk_cell R3_6.out 4 _ rfl
          have m'5 := blk_cell R3_6.out 5 _ rfl
          have m'6 := blk_cell R3_6.out 6 _ rfl
          have m'7 := blk_cell R3_6.out 7 _ rfl
          have m'8 := blk_cell R3_6.out 8 _ rfl
          have m'9 := blk_cell R3_6.out 9 _ rfl
          have n'0 := blk_cell R4_6.out 0 _ rfl
          have n'1 := blk_cell R4_6.out 1 _ rfl
          have n'2 := blk_cell R4_6.out 2 _ rfl
          have n'3 := blk_cell R4_6.out 3 _ rfl
          have n'4 := blk_cell R4_6.out 4 _ rfl
          have n'5 := blk_cell R4_6.out 5 _ rfl
          have n'6 := blk_cell R4_6.out 6 _ rfl
          have n'7 := blk_cell R4_6.out 7 _ rfl
          have n'8 := blk_cell R4_6.out 8 _ rfl
          have n'9 := blk_cell R4_6.out 9 _ rfl
          go_wp2_with fail
          refine (num_any _ _).mono ?_
          rintro e w9 ⟨rfl, rfl⟩
          go_wp2_with fail
          go_ret
          exact ⟨by first | rfl | (simp; done), u6.out⟩
      · have n1 : (e3 != 0) = true := by simpa using c3
        clear K3 c3
        go_wp2_with fail
        go_ret
        exact ⟨by first | rfl | (simp; done), u5.out⟩
    · have n2 : (e2 == 0) = false := by simpa using c2
      clear K2 c2
      go_wp2_with fail
      refine (num_any _ _).mono ?_
      rintro e w9 ⟨rfl, rfl⟩
      by_cases c3 : e3 = 0
      · subst c3
        obtain ⟨q1, q2⟩ := K3.out rfl
        clear K3
        cases is
        · obtain ⟨rfl, n1⟩ := q2 rfl
          clear q1 q2
          go_wp2_with fail
          go_ret
          exact ⟨by first | rfl | (simp; done), u4.out⟩
        · obtain ⟨⟨rfl, rfl, rfl⟩, CC⟩ := q1 rfl
          clear q1 q2
          go_wp2_with fail
          refine (CC.out _ u4.out).mono ?_
          rintro e w5 ⟨rfl, hb⟩
          have J5 := hid (blk_up J4.out hb)
          have R2_5 := hid (blk_up R2_4.out hb)
          have R3_5 := hid (blk_up R3_4.out hb)
          have R4_5 := hid (blk_up R4_4.out hb)
          have u5 := hid (up_trans u4.out hb)
          clear hb J4 u4 R2_4 R3_4 R4_4
          clear z0 z1 z2 z3 z4 z5 z6 z7 z8 z9 k'0 k'1 k'2 k'3 k'4 k'5 k'6 k'7 k'8 k'9 m'0 m'1 m'2 m'3 m'4 m'5 m'6 m'7 m'8 m'9 n'0 n'1 n'2 n'3 n'4 n'5 n'6 n'7 n'8 n'9
          have z0 := blk_cell J5.out 0 _ rfl
          have z1 := blk_cell J5.out 1 _ rfl
          have z2 := blk_cell J5.out 2 _ rfl
          have z3 := blk_cell J5.out 3 _ rfl
          have z4 := blk_cell J5.out 4 _ rfl
          have z5 := blk_cell J5.out 5 _ rfl
          have z6 := blk_cell J5.out 6 _ rfl
          have z7 := blk_cell J5.out 7 _ rfl
          have z8 := blk_cell J5.out 8 _ rfl
          have z9 := blk_cell J5.out 9 _ rfl
          have k'0 := blk_cell R2_5.out 0 _ rfl
          have k'1 := blk_cell R2_5.out 1 _ rfl
          have k'2 := blk_cell R2_5.out 2 _ rfl
          have k'3 := blk_cell R2_5.out 3 _ rfl
          have k'4 := blk_cell R2_5.out 4 _ rfl
          have k'5 := blk_cell R2_5.out 5 _ rfl
          have k'6 := blk_cell R2_5.out 6 _ rfl
          have k'7 := blk_cell R2_5.out 7 _ rfl
          have k'8 := blk_cell R2_5.out 8 _ rfl
          have k'9 := blk_cell R2_5.out 9 _ rfl
          have m'0 := blk_cell R3_5.out 0 _ rfl
          have m'1 := blk_cell R3_5.out 1 _ rfl
          have m'2 := blk_cell R3_5.out 2 _ rfl
          have m'3 := blk_cell R3_5.out 3 _ rfl
          have m'4 := blk_cell R3_5.out 4 _ rfl
          have m'5 := blk_cell R3_5.out 5 _ rfl
          have m'6 := blk_cell R3_5.out 6 _ rfl
          have m'7 := blk_cell R3_5.out 7 _ rfl
          have m'8 := blk_cell R3_5.out 8 _ rfl
          have m'9 := blk_cell R3_5.out 9 _ rfl
          have n'0 := blk_cell R4_5.out 0 _ rfl
          have n'1 := blk_cell R4_5.out 1 _ rfl
          have n'2 := blk_cell R4_5.out 2 _ rfl
          have n'3 := blk_cell R4_5.out 3 _ rfl
          have n'4 := blk_cell R4_5.out 4 _ rfl
          have n'5 := blk_cell R4_5.out 5 _ rfl
          have n'6 := blk_cell R4_5.out 6 _ rfl
          have n'7 := blk_cell R4_5.out 7 _ rfl
          have n'8 := blk_cell R4_5.out 8 _ rfl
          have n'9 := blk_cell R4_5.out 9 _ rfl
          go_wp2_with fail
          refine (num_any _ _).mono ?_
          rintro e w9 ⟨rfl, rfl⟩
          go_wp2_with fail
          go_ret
          exact ⟨by first | rfl | (simp; done), u5.out⟩
      · have n1 : (e3 != 0) = true := by simpa using c3
        clear K3 c3
        go_wp2_with fail
        go_ret
        exact ⟨by first | rfl | (simp; done), u4.out⟩
end Go.Proofs.YtpjmieiajhhbaaaDoor
