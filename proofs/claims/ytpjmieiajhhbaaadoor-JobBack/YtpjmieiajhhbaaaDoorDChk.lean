/- The program's Check. -/
import Derived.Test.YtpjmieiajhhbaaaDoorDFits
namespace Go.Proofs.YtpjmieiajhhbaaaDoor
open Go.RowKit
set_option linter.unusedVariables false
set_option linter.unusedSimpArgs false

theorem bne_beq (a b : Nat) : ((a : Int) != (b : Int)) = !(a == b) := bne_nat a b
set_option maxHeartbeats 4000000 in
set_option maxRecDepth 20000 in
theorem check_any (r : Ru) (hr : r.ok) (w : World) (he : Env w) : Calls Tryd.prog 80 #[ruV r] w fun e w' => e = .returned (.int .i64 (checkP r)) ∧ Below w.heap.size w w' := by
  have HA : Hid (∀ w', Calls Tryd.prog 90 #[ruV r] w' fun e w'' => e = .returned (.agg #[.bool false, .bool false, .bool r.ad, .bool false, .bool r.aw]) ∧ Below w'.heap.size w' w'') := fun w' => anyOf_any r w'
  have HS : Hid (∀ w', Calls Tryd.prog 91 #[ruV r] w' fun e w'' => e = .returned (.agg #[.int .u64 (r.mi : Int), .int .u64 (r.ho : Int), .int .u64 (r.da : Int), .int .u64 (r.mo : Int), .int .u64 (r.we : Int)]) ∧ Below w'.heap.size w' w'') := fun w' => setsOf_any r w'
  rw [ruV_form] at HA HS
  rw [ruV_form]
  have A0 : Hid (∀ w', Below w.heap.size w w' → Calls Tryd.prog 92 #[.int .i64 0] w' fun e w'' => e = .returned (.int .u64 ((allN 0 59) : Int)) ∧ Below w'.heap.size w' w'') := fun w' hb => whole_any 0 (by omega) w' (he.up hb)
  have s0 : r.mi < 18446744073709551616 := hr _ (by simp [Ru.sets])
  have an0 := andNot_nat r.mi (allN 0 59) s0 (setN_lt 64 _)
  have zz0 := beq_nat r.mi 0
  have uu0 := bne_beq r.mi (allN 0 59)
  have A1 : Hid (∀ w', Below w.heap.size w w' → Calls Tryd.prog 92 #[.int .i64 1] w' fun e w'' => e = .returned (.int .u64 ((allN 0 23) : Int)) ∧ Below w'.heap.size w' w'') := fun w' hb => whole_any 1 (by omega) w' (he.up hb)
  have s1 : r.ho < 18446744073709551616 := hr _ (by simp [Ru.sets])
  have an1 := andNot_nat r.ho (allN 0 23) s1 (setN_lt 64 _)
  have zz1 := beq_nat r.ho 0
  have uu1 := bne_beq r.ho (allN 0 23)
  have A2 : Hid (∀ w', Below w.heap.size w w' → Calls Tryd.prog 92 #[.int .i64 2] w' fun e w'' => e = .returned (.int .u64 ((allN 1 31) : Int)) ∧ Below w'.heap.size w' w'') := fun w' hb => whole_any 2 (by omega) w' (he.up hb)
  have s2 : r.da < 18446744073709551616 := hr _ (by simp [Ru.sets])
  have an2 := andNot_nat r.da (allN 1 31) s2 (setN_lt 64 _)
  have zz2 := beq_nat r.da 0
  have uu2 := bne_beq r.da (allN 1 31)
  have A3 : Hid (∀ w', Below w.heap.size w w' → Calls Tryd.prog 92 #[.int .i64 3] w' fun e w'' => e = .returned (.int .u64 ((allN 1 12) : Int)) ∧ Below w'.heap.size w' w'') := fun w' hb => whole_any 3 (by omega) w' (he.up hb)
  have s3 : r.mo < 18446744073709551616 := hr _ (by simp [Ru.sets])
  have an3 := andNot_nat r.mo (allN 1 12) s3 (setN_lt 64 _)
  have zz3 := beq_nat r.mo 0
  have uu3 := bne_beq r.mo (allN 1 12)
  have A4 : Hid (∀ w', Below w.heap.size w w' → Calls Tryd.prog 92 #[.int .i64 4] w' fun e w'' => e = .returned (.int .u64 ((allN 0 6) : Int)) ∧ Below w'.heap.size w' w'') := fun w' hb => whole_any 4 (by omega) w' (he.up hb)
  have s4 : r.we < 18446744073709551616 := hr _ (by simp [Ru.sets])
  have an4 := andNot_nat r.we (allN 0 6) s4 (setN_lt 64 _)
  have zz4 := beq_nat r.we 0
  have uu4 := bne_beq r.we (allN 0 6)
  have HC : Hid (checkP r = if okAll r && (!(r.ad && r.da != allN 1 31) && !(r.aw && r.we != allN 0 6)) then 0 else 9) := rfl
  unfold okAll okS at HC
  have e2 : (r.da != allN 1 31) = !(r.da == allN 1 31) := rfl
  have e4 : (r.we != allN 0 6) = !(r.we == allN 0 6) := rfl
  rw [e2, e4] at HC
  generalize checkP r = C at *
  generalize hW0 : (r.mi &&& (18446744073709551615 - (allN 0 59)) == 0) = v0 at *
  generalize (r.mi == (allN 0 59)) = u0 at *
  generalize (r.mi == 0) = z0 at *
  generalize hW1 : (r.ho &&& (18446744073709551615 - (allN 0 23)) == 0) = v1 at *
  generalize (r.ho == (allN 0 23)) = u1 at *
  generalize (r.ho == 0) = z1 at *
  generalize hW2 : (r.da &&& (18446744073709551615 - (allN 1 31)) == 0) = v2 at *
  generalize (r.da == (allN 1 31)) = u2 at *
  generalize (r.da == 0) = z2 at *
  generalize hW3 : (r.mo &&& (18446744073709551615 - (allN 1 12)) == 0) = v3 at *
  generalize (r.mo == (allN 1 12)) = u3 at *
  generalize (r.mo == 0) = z3 at *
  generalize hW4 : (r.we &&& (18446744073709551615 - (allN 0 6)) == 0) = v4 at *
  generalize (r.we == (allN 0 6)) = u4 at *
  generalize (r.we == 0) = z4 at *
  generalize (allN 0 59) = W0 at *
  generalize (allN 0 23) = W1 at *
  generalize (allN 1 31) = W2 at *
  generalize (allN 1 12) = W3 at *
  generalize (allN 0 6) = W4 at *
  generalize r.mi = S0 at *
  generalize r.ho = S1 at *
  generalize r.da = S2 at *
  generalize r.mo = S3 at *
  generalize r.we = S4 at *
  generalize r.ad = ad at *
  generalize r.aw = aw at *
  clear hr he e2 e4 hW0 hW1 hW2 hW3 hW4 s0 s1 s2 s3 s4
  have zz0 : ((S0 : Int) == 0) = z0 := zz0
  have zz1 : ((S1 : Int) == 0) = z1 := zz1
  have zz2 : ((S2 : Int) == 0) = z2 := zz2
  have zz3 : ((S3 : Int) == 0) = z3 := zz3
  have zz4 : ((S4 : Int) == 0) = z4 := zz4
  have ix0 : ∀ w, (Instr.index 138 (.agg #[.int .u64 (S0 : Int), .int .u64 (S1 : Int), .int .u64 (S2 : Int), .int .u64 (S3 : Int), .int .u64 (S4 : Int)]) (.int .i64 0)).run Tryd.prog w = .ok (.int .u64 (S0 : Int)) w := fun w => at_u64 _ _ _ _ _ 0 _ rfl w
  have ix1 : ∀ w, (Instr.index 138 (.agg #[.int .u64 (S0 : Int), .int .u64 (S1 : Int), .int .u64 (S2 : Int), .int .u64 (S3 : Int), .int .u64 (S4 : Int)]) (.int .i64 1)).run Tryd.prog w = .ok (.int .u64 (S1 : Int)) w := fun w => at_u64 _ _ _ _ _ 1 _ rfl w
  have ix2 : ∀ w, (Instr.index 138 (.agg #[.int .u64 (S0 : Int), .int .u64 (S1 : Int), .int .u64 (S2 : Int), .int .u64 (S3 : Int), .int .u64 (S4 : Int)]) (.int .i64 2)).run Tryd.prog w = .ok (.int .u64 (S2 : Int)) w := fun w => at_u64 _ _ _ _ _ 2 _ rfl w
  have ix3 : ∀ w, (Instr.index 138 (.agg #[.int .u64 (S0 : Int), .int .u64 (S1 : Int), .int .u64 (S2 : Int), .int .u64 (S3 : Int), .int .u64 (S4 : Int)]) (.int .i64 3)).run Tryd.prog w = .ok (.int .u64 (S3 : Int)) w := fun w => at_u64 _ _ _ _ _ 3 _ rfl w
  have ix4 : ∀ w, (Instr.index 138 (.agg #[.int .u64 (S0 : Int), .int .u64 (S1 : Int), .int .u64 (S2 : Int), .int .u64 (S3 : Int), .int .u64 (S4 : Int)]) (.int .i64 4)).run Tryd.prog w = .ok (.int .u64 (S4 : Int)) w := fun w => at_u64 _ _ _ _ _ 4 _ rfl w
  have U0 := hid (up_alloc w (.cells #[.int .u64 (S0 : Int), .int .u64 (S1 : Int), .int .u64 (S2 : Int), .int .u64 (S3 : Int), .int .u64 (S4 : Int), .bool ad, .bool aw] 117))
  have b0 := hid (blk_new w (.cells #[.int .u64 (S0 : Int), .int .u64 (S1 : Int), .int .u64 (S2 : Int), .int .u64 (S3 : Int), .int .u64 (S4 : Int), .bool ad, .bool aw] 117))
  go_enter Tryd.func80, Tryd.ntmps80
  go_wp2_with fail
  refine (HA.out _).mono ?_
  rintro e w1 ⟨rfl, hb1⟩
  have U1 := hid (up_al (up_trans U0.out hb1) (.cells #[.bool false, .bool false, .bool ad, .bool false, .bool aw] 152))
  have k1 := hid (blk_new w1 (.cells #[.bool false, .bool false, .bool ad, .bool false, .bool aw] 152))
  have r1 := blk_up (blk_up b0.out hb1) (up_alloc w1 (.cells #[.bool false, .bool false, .bool ad, .bool false, .bool aw] 152))
  have y0 := blk_cell r1 0 _ rfl
  have y1 := blk_cell r1 1 _ rfl
  have y2 := blk_cell r1 2 _ rfl
  have y3 := blk_cell r1 3 _ rfl
  have y4 := blk_cell r1 4 _ rfl
  have y5 := blk_cell r1 5 _ rfl
  have y6 := blk_cell r1 6 _ rfl
  clear r1 hb1 b0
  go_wp2_with fail
  refine (HS.out _).mono ?_
  rintro e w2 ⟨rfl, hb2⟩
  have U2 := hid (up_trans U1.out hb2)
  have K2 := hid (blk_up k1.out hb2)
  clear y0 y1 y2 y3 y4 y5 y6 hb2 k1 U1 HS HA U0
  go_wp2_with fail
  refine wp_loop_rounds 6 ?_

  rw [rounds_succ]
  cases z0
  rotate_left
  · have E9 : Hid (C = 9) := by unfold Hid; rw [HC.out]; simp
    go_wp2_with fail
    go_ret
    exact ⟨by rw [E9.out]; rfl, U2.out⟩
  have x0 := blk_cell K2.out 0 _ rfl
  go_wp2_with fail
  refine (A0.out _ U2.out).mono ?_
  rintro e w3 ⟨rfl, hb3⟩
  have U3 := hid (up_trans U2.out hb3)
  have K3 := hid (blk_up K2.out hb3)
  clear hb3 x0 U2 K2
  have x0 := blk_cell K3.out 0 _ rfl
  cases v0
  · have E9 : Hid (C = 9) := by unfold Hid; rw [HC.out]; simp
    go_wp2_with fail
    go_ret
    exact ⟨by rw [E9.out]; rfl, U3.out⟩
  go_wp2_with fail
  clear x0
  rw [rounds_succ]
  cases z1
  rotate_left
  · have E9 : Hid (C = 9) := by unfold Hid; rw [HC.out]; simp
    go_wp2_with fail
    go_ret
    exact ⟨by rw [E9.out]; rfl, U3.out⟩
  have x1 := blk_cell K3.out 1 _ rfl
  go_wp2_with fail
  refine (A1.out _ U3.out).mono ?_
  rintro e w4 ⟨rfl, hb4⟩
  have U4 := hid (up_trans U3.out hb4)
  have K4 := hid (blk_up K3.out hb4)
  clear hb4 x1 U3 K3
  have x1 := blk_cell K4.out 1 _ rfl
  cases v1
  · have E9 : Hid (C = 9) := by unfold Hid; rw [HC.out]; simp
    go_wp2_with fail
    go_ret
    exact ⟨by rw [E9.out]; rfl, U4.out⟩
  go_wp2_with fail
  clear x1
  rw [rounds_succ]
  cases z2
  rotate_left
  · have E9 : Hid (C = 9) := by unfold Hid; rw [HC.out]; simp
    go_wp2_with fail
    go_ret
    exact ⟨by rw [E9.out]; rfl, U4.out⟩
  have x2 := blk_cell K4.out 2 _ rfl
  go_wp2_with fail
  refine (A2.out _ U4.out).mono ?_
  rintro e w5 ⟨rfl, hb5⟩
  have U5 := hid (up_trans U4.out hb5)
  have K5 := hid (blk_up K4.out hb5)
  clear hb5 x2 U4 K4
  have x2 := blk_cell K5.out 2 _ rfl
  cases v2
  · have E9 : Hid (C = 9) := by unfold Hid; rw [HC.out]; simp
    go_wp2_with fail
    go_ret
    exact ⟨by rw [E9.out]; rfl, U5.out⟩
  cases ad
  · go_wp2_with fail
    clear x2
    rw [rounds_succ]
    cases z3
    rotate_left
    · have E9 : Hid (C = 9) := by unfold Hid; rw [HC.out]; simp
      go_wp2_with fail
      go_ret
      exact ⟨by rw [E9.out]; rfl, U5.out⟩
    have x3 := blk_cell K5.out 3 _ rfl
    go_wp2_with fail
    refine (A3.out _ U5.out).mono ?_
    rintro e w6 ⟨rfl, hb6⟩
    have U6 := hid (up_trans U5.out hb6)
    have K6 := hid (blk_up K5.out hb6)
    clear hb6 x3 U5 K5
    have x3 := blk_cell K6.out 3 _ rfl
    cases v3
    · have E9 : Hid (C = 9) := by unfold Hid; rw [HC.out]; simp
      go_wp2_with fail
      go_ret
      exact ⟨by rw [E9.out]; rfl, U6.out⟩
    go_wp2_with fail
    clear x3
    rw [rounds_succ]
    cases z4
    rotate_left
    · have E9 : Hid (C = 9) := by unfold Hid; rw [HC.out]; simp
      go_wp2_with fail
      go_ret
      exact ⟨by rw [E9.out]; rfl, U6.out⟩
    have x4 := blk_cell K6.out 4 _ rfl
    go_wp2_with fail
    refine (A4.out _ U6.out).mono ?_
    rintro e w7 ⟨rfl, hb7⟩
    have U7 := hid (up_trans U6.out hb7)
    have K7 := hid (blk_up K6.out hb7)
    clear hb7 x4 U6 K6
    have x4 := blk_cell K7.out 4 _ rfl
    cases v4
    · have E9 : Hid (C = 9) := by unfold Hid; rw [HC.out]; simp
      go_wp2_with fail
      go_ret
      exact ⟨by rw [E9.out]; rfl, U7.out⟩
    cases aw
    · go_wp2_with fail
      clear x4
      rw [rounds_succ]
      have E0 : Hid (C = 0) := by unfold Hid; rw [HC.out]; rfl
      go_wp2_with fail
      go_ret
      exact ⟨by rw [E0.out]; rfl, U7.out⟩
    · go_wp2_with fail
      refine (A4.out _ U7.out).mono ?_
      rintro e w8 ⟨rfl, hb8⟩
      have U8 := hid (up_trans U7.out hb8)
      have K8 := hid (blk_up K7.out hb8)
      clear hb8 x4 U7 K7
      have x4 := blk_cell K8.out 4 _ rfl
      cases u4
      · have E9 : Hid (C = 9) := by unfold Hid; rw [HC.out]; simp
        go_wp2_with fail
        go_ret
        exact ⟨by rw [E9.out]; rfl, U8.out⟩
      go_wp2_with fail
      clear x4
      rw [rounds_succ]
      have E0 : Hid (C = 0) := by unfold Hid; rw [HC.out]; rfl
      go_wp2_with fail
      go_ret
      exact ⟨by rw [E0.out]; rfl, U8.out⟩
  · go_wp2_with fail
    refine (A2.out _ U5.out).mono ?_
    rintro e w6 ⟨rfl, hb6⟩
    have U6 := hid (up_trans U5.out hb6)
    have K6 := hid (blk_up K5.out hb6)
    clear hb6 x2 U5 K5
    have x2 := blk_cell K6.out 2 _ rfl
    cases u2
    · have E9 : Hid (C = 9) := by unfold Hid; rw [HC.out]; simp
      go_wp2_with fail
      go_ret
      exact ⟨by rw [E9.out]; rfl, U6.out⟩
    go_wp2_with fail
    clear x2
    rw [rounds_succ]
    cases z3
    rotate_left
    · have E9 : Hid (C = 9) := by unfold Hid; rw [HC.out]; simp
      go_wp2_with fail
      go_ret
      exact ⟨by rw [E9.out]; rfl, U6.out⟩
    have x3 := blk_cell K6.out 3 _ rfl
    go_wp2_with fail
    refine (A3.out _ U6.out).mono ?_
    rintro e w7 ⟨rfl, hb7⟩
    have U7 := hid (up_trans U6.out hb7)
    have K7 := hid (blk_up K6.out hb7)
    clear hb7 x3 U6 K6
    have x3 := blk_cell K7.out 3 _ rfl
    cases v3
    · have E9 : Hid (C = 9) := by unfold Hid; rw [HC.out]; simp
      go_wp2_with fail
      go_ret
      exact ⟨by rw [E9.out]; rfl, U7.out⟩
    go_wp2_with fail
    clear x3
    rw [rounds_succ]
    cases z4
    rotate_left
    · have E9 : Hid (C = 9) := by unfold Hid; rw [HC.out]; simp
      go_wp2_with fail
      go_ret
      exact ⟨by rw [E9.out]; rfl, U7.out⟩
    have x4 := blk_cell K7.out 4 _ rfl
    go_wp2_with fail
    refine (A4.out _ U7.out).mono ?_
    rintro e w8 ⟨rfl, hb8⟩
    have U8 := hid (up_trans U7.out hb8)
    have K8 := hid (blk_up K7.out hb8)
    clear hb8 x4 U7 K7
    have x4 := blk_cell K8.out 4 _ rfl
    cases v4
    · have E9 : Hid (C = 9) := by unfold Hid; rw [HC.out]; simp
      go_wp2_with fail
      go_ret
      exact ⟨by rw [E9.out]; rfl, U8.out⟩
    cases aw
    · go_wp2_with fail
      clear x4
      rw [rounds_succ]
      have E0 : Hid (C = 0) := by unfold Hid; rw [HC.out]; rfl
      go_wp2_with fail
      go_ret
      exact ⟨by rw [E0.out]; rfl, U8.out⟩
    · go_wp2_with fail
      refine (A4.out _ U8.out).mono ?_
      rintro e w9 ⟨rfl, hb9⟩
      have U9 := hid (up_trans U8.out hb9)
      have K9 := hid (blk_up K8.out hb9)
      clear hb9 x4 U8 K8
      have x4 := blk_cell K9.out 4 _ rfl
      cases u4
      · have E9 : Hid (C = 9) := by unfold Hid; rw [HC.out]; simp
        go_wp2_with fail
        go_ret
        exact ⟨by rw [E9.out]; rfl, U9.out⟩
      go_wp2_with fail
      clear x4
      rw [rounds_succ]
      have E0 : Hid (C = 0) := by unfold Hid; rw [HC.out]; rfl
      go_wp2_with fail
      go_ret
      exact ⟨by rw [E0.out]; rfl, U9.out⟩
end Go.Proofs.YtpjmieiajhhbaaaDoor
