/- The document's Print. -/
import Derived.Test.YtbnghhmmanleaaaDoorNList
namespace Go.Proofs.YtbnghhmmanleaaaDoor
open Go.RowKit
set_option linter.unusedVariables false
set_option linter.unusedSimpArgs false

theorem all_up (a b : Nat) (hb : b < 64) (w : World) : Calls Tryd.prog 30 #[.int .i64 (a : Int), .int .i64 (b : Int)] w fun e w' => e = .returned (.int .u64 (allN a b : Int)) ∧ Below w.heap.size w w' :=
  (all_any a b hb w).mono fun e w' h => ⟨h.1, by rw [h.2]; exact Below.refl _ _⟩
set_option maxHeartbeats 4000000 in
set_option maxRecDepth 20000 in
theorem printR_any (r : Ru) (hr : r.ok) (w : World) :
    Calls Tryd.prog 11 #[ruV r] w fun e w' => e = .returned (.tuple #[.string (strOfNums (printP r).1), .int .i64 (printP r).2]) ∧ Below w.heap.size w w' := by
  have HC : Hid (∀ w', Calls Tryd.prog 14 #[ruV r] w' fun e w'' => e = .returned (.int .i64 (checkP r)) ∧ Below w'.heap.size w' w'') := fun w' => checkR_any r hr w'
  have b0 := hid (blk_new w (.cells #[.int .u64 (r.mi : Int), .int .u64 (r.ho : Int), .int .u64 (r.da : Int), .int .u64 (r.mo : Int), .int .u64 (r.we : Int), .bool r.ad, .bool r.aw] 24))
  have hb0 := hid (up_alloc w (.cells #[.int .u64 (r.mi : Int), .int .u64 (r.ho : Int), .int .u64 (r.da : Int), .int .u64 (r.mo : Int), .int .u64 (r.we : Int), .bool r.ad, .bool r.aw] 24))
  rw [ruV_form] at HC
  rcases checkP_two r with hc | hc
  · have E : printP r = (printL r, 0) := if_neg (by rw [hc]; simp)
    rw [hc] at HC
    rw [E, ← printL_cat]
    have A0 : Hid (∀ w', Calls Tryd.prog 30 #[.int .i64 0, .int .i64 59] w' fun e w'' => e = .returned (.int .u64 (allN 0 59 : Int)) ∧ Below w'.heap.size w' w'') := fun w' => all_up 0 59 (by omega) w'
    have A1 : Hid (∀ w', Calls Tryd.prog 30 #[.int .i64 0, .int .i64 23] w' fun e w'' => e = .returned (.int .u64 (allN 0 23 : Int)) ∧ Below w'.heap.size w' w'') := fun w' => all_up 0 23 (by omega) w'
    have A2 : Hid (∀ w', Calls Tryd.prog 30 #[.int .i64 1, .int .i64 31] w' fun e w'' => e = .returned (.int .u64 (allN 1 31 : Int)) ∧ Below w'.heap.size w' w'') := fun w' => all_up 1 31 (by omega) w'
    have A3 : Hid (∀ w', Calls Tryd.prog 30 #[.int .i64 1, .int .i64 12] w' fun e w'' => e = .returned (.int .u64 (allN 1 12 : Int)) ∧ Below w'.heap.size w' w'') := fun w' => all_up 1 12 (by omega) w'
    have A4 : Hid (∀ w', Calls Tryd.prog 30 #[.int .i64 0, .int .i64 6] w' fun e w'' => e = .returned (.int .u64 (allN 0 6 : Int)) ∧ Below w'.heap.size w' w'') := fun w' => all_up 0 6 (by omega) w'
    have L0 := hid (listR_any r.mi (allN 0 59) true (hr _ (by simp [Ru.sets])))
    have L1 := hid (listR_any r.ho (allN 0 23) true (hr _ (by simp [Ru.sets])))
    have L2 := hid (listR_any r.da (allN 1 31) r.ad (hr _ (by simp [Ru.sets])))
    have L3 := hid (listR_any r.mo (allN 1 12) true (hr _ (by simp [Ru.sets])))
    have L4 := hid (listR_any r.we (allN 0 6) r.aw (hr _ (by simp [Ru.sets])))
    have s0 : (strOfNums (listL r.mi (allN 0 59) true)).size ≤ 192 := by rw [strOfNums_size]; exact listL_len _ _ _
    have s1 : (strOfNums (listL r.ho (allN 0 23) true)).size ≤ 192 := by rw [strOfNums_size]; exact listL_len _ _ _
    have s2 : (strOfNums (listL r.da (allN 1 31) r.ad)).size ≤ 192 := by rw [strOfNums_size]; exact listL_len _ _ _
    have s3 : (strOfNums (listL r.mo (allN 1 12) true)).size ≤ 192 := by rw [strOfNums_size]; exact listL_len _ _ _
    have s4 : (strOfNums (listL r.we (allN 0 6) r.aw)).size ≤ 192 := by rw [strOfNums_size]; exact listL_len _ _ _
    clear hc E hr
    generalize strOfNums (listL r.mi (allN 0 59) true) = S0 at *
    generalize strOfNums (listL r.ho (allN 0 23) true) = S1 at *
    generalize strOfNums (listL r.da (allN 1 31) r.ad) = S2 at *
    generalize strOfNums (listL r.mo (allN 1 12) true) = S3 at *
    generalize strOfNums (listL r.we (allN 0 6) r.aw) = S4 at *
    generalize (allN 0 59 : Int) = a0 at *
    generalize (allN 0 23 : Int) = a1 at *
    generalize (allN 1 31 : Int) = a2 at *
    generalize (allN 1 12 : Int) = a3 at *
    generalize (allN 0 6 : Int) = a4 at *
    rw [ruV_form]
    go_enter Tryd.func11, Tryd.ntmps11
    go_wp2_with fail
    refine (HC.out _).mono ?_
    rintro e w1 ⟨rfl, hb1⟩
    have k1 := blk_up b0.out hb1
    have u1 := hid (up_trans hb0.out hb1)
    have z0 : ∀ p : UpW w1, p.val.cell? ⟨w.heap.size, 0, none⟩ = some (.int .u64 (r.mi : Int)) := fun p => cell_up (blk_cell k1 0 _ rfl) p
    have z1 : ∀ p : UpW w1, p.val.cell? ⟨w.heap.size, 1, none⟩ = some (.int .u64 (r.ho : Int)) := fun p => cell_up (blk_cell k1 1 _ rfl) p
    have z2 : ∀ p : UpW w1, p.val.cell? ⟨w.heap.size, 2, none⟩ = some (.int .u64 (r.da : Int)) := fun p => cell_up (blk_cell k1 2 _ rfl) p
    have z3 : ∀ p : UpW w1, p.val.cell? ⟨w.heap.size, 3, none⟩ = some (.int .u64 (r.mo : Int)) := fun p => cell_up (blk_cell k1 3 _ rfl) p
    have z4 : ∀ p : UpW w1, p.val.cell? ⟨w.heap.size, 4, none⟩ = some (.int .u64 (r.we : Int)) := fun p => cell_up (blk_cell k1 4 _ rfl) p
    have z5 : ∀ p : UpW w1, p.val.cell? ⟨w.heap.size, 5, none⟩ = some (.bool r.ad) := fun p => cell_up (blk_cell k1 5 _ rfl) p
    have z6 : ∀ p : UpW w1, p.val.cell? ⟨w.heap.size, 6, none⟩ = some (.bool r.aw) := fun p => cell_up (blk_cell k1 6 _ rfl) p
    clear k1 hb1 b0 hb0 HC
    have g0 : (9223372036854775807 < S0.size + 1) = False := eq_false (by omega)
    have g1 : (9223372036854775807 < S0.size + 1 + S1.size) = False := eq_false (by omega)
    have g2 : (9223372036854775807 < S0.size + 1 + S1.size + 1) = False := eq_false (by omega)
    have g3 : (9223372036854775807 < S0.size + 1 + S1.size + 1 + S2.size) = False := eq_false (by omega)
    have g4 : (9223372036854775807 < S0.size + 1 + S1.size + 1 + S2.size + 1) = False := eq_false (by omega)
    have g5 : (9223372036854775807 < S0.size + 1 + S1.size + 1 + S2.size + 1 + S3.size) = False := eq_false (by omega)
    have g6 : (9223372036854775807 < S0.size + 1 + S1.size + 1 + S2.size + 1 + S3.size + 1) = False := eq_false (by omega)
    have g7 : (9223372036854775807 < S0.size + 1 + S1.size + 1 + S2.size + 1 + S3.size + 1 + S4.size) = False := eq_false (by omega)
    clear s0 s1 s2 s3 s4
    go_wp2_with fail
    refine wp_region_up (by kernel_rfl) (by kernel_rfl) ?_
    repeat (quiet_step (first
      | (go_at_call 30; with_reducible first | exact calls_up (A0.out _) | exact calls_up (A1.out _) | exact calls_up (A2.out _) | exact calls_up (A3.out _) | exact calls_up (A4.out _))
      | (go_at_call 29; with_reducible first | exact calls_up (L0.out _) | exact calls_up (L1.out _) | exact calls_up (L2.out _) | exact calls_up (L3.out _) | exact calls_up (L4.out _))))
    refine wpQuiet_nil ?_
    intro _ hw'
    obtain ⟨p, hw''⟩ := hw'
    subst hw''
    have UP : Hid (Below w.heap.size w p.val) := up_trans u1.out p.up
    go_wp2_with fail
    go_ret2
    exact ⟨rfl, UP⟩
  · have E : printP r = ([], 9) := if_pos (by rw [hc]; simp)
    rw [hc] at HC
    rw [E, ruV_form]
    clear hc hr E
    go_enter Tryd.func11, Tryd.ntmps11
    go_wp2_with fail
    refine (HC.out _).mono ?_
    rintro e w1 ⟨rfl, hb1⟩
    go_wp2_with fail
    go_ret2
    exact ⟨rfl, up_trans hb0.out hb1⟩
end Go.Proofs.YtbnghhmmanleaaaDoor
