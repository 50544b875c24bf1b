/- The statement on the rules' texts. -/
import Derived.Test.YtbnghhmmanleaaaDoorNParse
import Derived.Test.YtbnghhmmanleaaaDoorNPg
namespace Go.Proofs.YtbnghhmmanleaaaDoor
open Go.RowKit
set_option linter.unusedVariables false
set_option linter.unusedSimpArgs false

theorem up_num (x : Int) (w : World) (p : UpW w) : Calls Tryd.prog 12 #[.int .i64 x] p.val fun e w' => e = .returned (.int .i64 x) ∧ Below p.val.heap.size p.val w' :=
  (num_any x p.val).mono fun e w' h => ⟨h.1, by rw [h.2]; exact Below.refl _ _⟩
set_option maxHeartbeats 4000000 in
set_option maxRecDepth 20000 in
theorem parses_walk (l : List Int) (hx : ∀ x ∈ l, 0 ≤ x ∧ x ≤ 255) (hm : l.length ≤ 140737488355328) (r : Ru) (hr : r.ok) (w : World) (hp : Pg w) : Calls Tryd.prog 3 #[.string (strOfNums l), ruV r] w fun e w' => e = .returned (.bool true) ∧ Below w.heap.size w w' := by
  have H1 := hid (hp.parse l hx hm)
  have H2 : Hid (∀ w', Calls Tryd.prog 9 #[.string (strOfNums l)] w' fun e w'' => e = .returned (retR (parseR l)) ∧ Below w'.heap.size w' w'') := fun w' => parseR_any l hx hm w'
  have H3 := hid (hp.print r hr)
  have H4 : Hid (∀ w', Calls Tryd.prog 11 #[ruV r] w' fun e w'' => e = .returned (.tuple #[.string (strOfNums (printP r).1), .int .i64 (printP r).2]) ∧ Below w'.heap.size w' w'') := fun w' => printR_any r hr w'
  have H5 := hid (hp.check r hr)
  have H6 : Hid (∀ w', Calls Tryd.prog 14 #[ruV r] w' fun e w'' => e = .returned (.int .i64 (checkP r)) ∧ Below w'.heap.size w' w'') := fun w' => checkR_any r hr w'
  have H7 := hid (alive_any w hp)
  have RR : retR (parseR l) = .tuple #[.agg #[.int .u64 ((parseR l).1.mi : Int), .int .u64 ((parseR l).1.ho : Int), .int .u64 ((parseR l).1.da : Int), .int .u64 ((parseR l).1.mo : Int), .int .u64 ((parseR l).1.we : Int), .bool (parseR l).1.ad, .bool (parseR l).1.aw], .int .i64 (parseR l).2] := rfl
  rw [RR] at H1 H2
  have k0 := hid (blk_new w (.cells #[.int .u64 (r.mi : Int), .int .u64 (r.ho : Int), .int .u64 (r.da : Int), .int .u64 (r.mo : Int), .int .u64 (r.we : Int), .bool r.ad, .bool r.aw] 24))
  have u0 := hid (up_alloc w (.cells #[.int .u64 (r.mi : Int), .int .u64 (r.ho : Int), .int .u64 (r.da : Int), .int .u64 (r.mo : Int), .int .u64 (r.we : Int), .bool r.ad, .bool r.aw] 24))
  rw [ruV_form] at *
  clear RR hx hm hr hp
  generalize (parseR l).1.mi = x0 at *
  generalize (parseR l).1.ho = x1 at *
  generalize (parseR l).1.da = x2 at *
  generalize (parseR l).1.mo = x3 at *
  generalize (parseR l).1.we = x4 at *
  generalize (parseR l).1.ad = x5 at *
  generalize (parseR l).1.aw = x6 at *
  generalize (parseR l).2 = pe at *
  generalize strOfNums (printP r).1 = s1 at *
  generalize (printP r).2 = s2 at *
  generalize strOfNums l = sl at *
  generalize checkP r = cc at *
  go_enter Tryd.func3, Tryd.ntmps3
  go_wp2_with fail
  refine (H1.out _ u0.out).mono ?_
  rintro e w1 ⟨rfl, hb1⟩
  have k1 := hid (blk_up (blk_up k0.out hb1) (up_alloc w1 (.cells #[.int .u64 (x0 : Int), .int .u64 (x1 : Int), .int .u64 (x2 : Int), .int .u64 (x3 : Int), .int .u64 (x4 : Int), .bool x5, .bool x6] 25)))
  have q1 := hid (blk_new w1 (.cells #[.int .u64 (x0 : Int), .int .u64 (x1 : Int), .int .u64 (x2 : Int), .int .u64 (x3 : Int), .int .u64 (x4 : Int), .bool x5, .bool x6] 25))
  have u1 := hid (up_al (up_trans u0.out hb1) (.cells #[.int .u64 (x0 : Int), .int .u64 (x1 : Int), .int .u64 (x2 : Int), .int .u64 (x3 : Int), .int .u64 (x4 : Int), .bool x5, .bool x6] 25))
  clear hb1 k0 u0
  go_wp2_with fail
  refine (H2.out _).mono ?_
  rintro e w2 ⟨rfl, hb2⟩
  have k2 := hid (blk_up (blk_up k1.out hb2) (up_alloc w2 (.cells #[.int .u64 (x0 : Int), .int .u64 (x1 : Int), .int .u64 (x2 : Int), .int .u64 (x3 : Int), .int .u64 (x4 : Int), .bool x5, .bool x6] 24)))
  have q2 := hid (blk_up (blk_up q1.out hb2) (up_alloc w2 (.cells #[.int .u64 (x0 : Int), .int .u64 (x1 : Int), .int .u64 (x2 : Int), .int .u64 (x3 : Int), .int .u64 (x4 : Int), .bool x5, .bool x6] 24)))
  have y2 := hid (blk_new w2 (.cells #[.int .u64 (x0 : Int), .int .u64 (x1 : Int), .int .u64 (x2 : Int), .int .u64 (x3 : Int), .int .u64 (x4 : Int), .bool x5, .bool x6] 24))
  have u2 := hid (up_al (up_trans u1.out hb2) (.cells #[.int .u64 (x0 : Int), .int .u64 (x1 : Int), .int .u64 (x2 : Int), .int .u64 (x3 : Int), .int .u64 (x4 : Int), .bool x5, .bool x6] 24))
  clear hb2 k1 q1 u1
  have K2 := k2.out
  have z0 := blk_cell K2 0 _ rfl
  have z1 := blk_cell K2 1 _ rfl
  have z2 := blk_cell K2 2 _ rfl
  have z3 := blk_cell K2 3 _ rfl
  have z4 := blk_cell K2 4 _ rfl
  have z5 := blk_cell K2 5 _ rfl
  have z6 := blk_cell K2 6 _ rfl
  clear K2
  go_wp2_with fail
  refine (H3.out _ u2.out).mono ?_
  rintro e w3 ⟨rfl, hb3⟩
  have k3 := hid (blk_up k2.out hb3)
  have q3 := hid (blk_up q2.out hb3)
  have y3 := hid (blk_up y2.out hb3)
  have u3 := hid (up_trans u2.out hb3)
  clear hb3 k2 q2 y2 u2 z0 z1 z2 z3 z4 z5 z6
  have K3 := k3.out
  have z0 := blk_cell K3 0 _ rfl
  have z1 := blk_cell K3 1 _ rfl
  have z2 := blk_cell K3 2 _ rfl
  have z3 := blk_cell K3 3 _ rfl
  have z4 := blk_cell K3 4 _ rfl
  have z5 := blk_cell K3 5 _ rfl
  have z6 := blk_cell K3 6 _ rfl
  clear K3
  go_wp2_with fail
  refine (H4.out _).mono ?_
  rintro e w4 ⟨rfl, hb4⟩
  have k4 := blk_up k3.out hb4
  have q4 := blk_up q3.out hb4
  have y4 := blk_up y3.out hb4
  have u4 := hid (up_trans u3.out hb4)
  clear hb4 k3 q3 y3 u3 z0 z1 z2 z3 z4 z5 z6
  have z0 : ∀ p : UpW w4, p.val.cell? ⟨w.heap.size, 0, none⟩ = some (.int .u64 (r.mi : Int)) := fun p => cell_up (blk_cell k4 0 _ rfl) p
  have z1 : ∀ p : UpW w4, p.val.cell? ⟨w.heap.size, 1, none⟩ = some (.int .u64 (r.ho : Int)) := fun p => cell_up (blk_cell k4 1 _ rfl) p
  have z2 : ∀ p : UpW w4, p.val.cell? ⟨w.heap.size, 2, none⟩ = some (.int .u64 (r.da : Int)) := fun p => cell_up (blk_cell k4 2 _ rfl) p
  have z3 : ∀ p : UpW w4, p.val.cell? ⟨w.heap.size, 3, none⟩ = some (.int .u64 (r.mo : Int)) := fun p => cell_up (blk_cell k4 3 _ rfl) p
  have z4 : ∀ p : UpW w4, p.val.cell? ⟨w.heap.size, 4, none⟩ = some (.int .u64 (r.we : Int)) := fun p => cell_up (blk_cell k4 4 _ rfl) p
  have z5 : ∀ p : UpW w4, p.val.cell? ⟨w.heap.size, 5, none⟩ = some (.bool r.ad) := fun p => cell_up (blk_cell k4 5 _ rfl) p
  have z6 : ∀ p : UpW w4, p.val.cell? ⟨w.heap.size, 6, none⟩ = some (.bool r.aw) := fun p => cell_up (blk_cell k4 6 _ rfl) p
  have a0 : ∀ p : UpW w4, p.val.cell? ⟨w1.heap.size, 0, none⟩ = some (.int .u64 (x0 : Int)) := fun p => cell_up (blk_cell q4 0 _ rfl) p
  have a1 : ∀ p : UpW w4, p.val.cell? ⟨w1.heap.size, 1, none⟩ = some (.int .u64 (x1 : Int)) := fun p => cell_up (blk_cell q4 1 _ rfl) p
  have a2 : ∀ p : UpW w4, p.val.cell? ⟨w1.heap.size, 2, none⟩ = some (.int .u64 (x2 : Int)) := fun p => cell_up (blk_cell q4 2 _ rfl) p
  have a3 : ∀ p : UpW w4, p.val.cell? ⟨w1.heap.size, 3, none⟩ = some (.int .u64 (x3 : Int)) := fun p => cell_up (blk_cell q4 3 _ rfl) p
  have a4 : ∀ p : UpW w4, p.val.cell? ⟨w1.heap.size, 4, none⟩ = some (.int .u64 (x4 : Int)) := fun p => cell_up (blk_cell q4 4 _ rfl) p
  have a5 : ∀ p : UpW w4, p.val.cell? ⟨w1.heap.size, 5, none⟩ = some (.bool x5) := fun p => cell_up (blk_cell q4 5 _ rfl) p
  have a6 : ∀ p : UpW w4, p.val.cell? ⟨w1.heap.size, 6, none⟩ = some (.bool x6) := fun p => cell_up (blk_cell q4 6 _ rfl) p
  have b0 : ∀ p : UpW w4, p.val.cell? ⟨w2.heap.size, 0, none⟩ = some (.int .u64 (x0 : Int)) := fun p => cell_up (blk_cell y4 0 _ rfl) p
  have b1 : ∀ p : UpW w4, p.val.cell? ⟨w2.heap.size, 1, none⟩ = some (.int .u64 (x1 : Int)) := fun p => cell_up (blk_cell y4 1 _ rfl) p
  have b2 : ∀ p : UpW w4, p.val.cell? ⟨w2.heap.size, 2, none⟩ = some (.int .u64 (x2 : Int)) := fun p => cell_up (blk_cell y4 2 _ rfl) p
  have b3 : ∀ p : UpW w4, p.val.cell? ⟨w2.heap.size, 3, none⟩ = some (.int .u64 (x3 : Int)) := fun p => cell_up (blk_cell y4 3 _ rfl) p
  have b4 : ∀ p : UpW w4, p.val.cell? ⟨w2.heap.size, 4, none⟩ = some (.int .u64 (x4 : Int)) := fun p => cell_up (blk_cell y4 4 _ rfl) p
  have b5 : ∀ p : UpW w4, p.val.cell? ⟨w2.heap.size, 5, none⟩ = some (.bool x5) := fun p => cell_up (blk_cell y4 5 _ rfl) p
  have b6 : ∀ p : UpW w4, p.val.cell? ⟨w2.heap.size, 6, none⟩ = some (.bool x6) := fun p => cell_up (blk_cell y4 6 _ rfl) p
  clear k4 q4 y4
  have C1 : Hid (∀ p : UpW w4, Calls Tryd.prog 13 #[.agg #[.int .u64 (r.mi : Int), .int .u64 (r.ho : Int), .int .u64 (r.da : Int), .int .u64 (r.mo : Int), .int .u64 (r.we : Int), .bool r.ad, .bool r.aw]] p.val fun e w'' => e = .returned (.int .i64 cc) ∧ Below p.val.heap.size p.val w'') := fun p => H5.out _ (up_trans u4.out p.up)
  have C2 : Hid (∀ p : UpW w4, Calls Tryd.prog 14 #[.agg #[.int .u64 (r.mi : Int), .int .u64 (r.ho : Int), .int .u64 (r.da : Int), .int .u64 (r.mo : Int), .int .u64 (r.we : Int), .bool r.ad, .bool r.aw]] p.val fun e w'' => e = .returned (.int .i64 cc) ∧ Below p.val.heap.size p.val w'') := fun p => H6.out _
  have C3 : Hid (∀ p : UpW w4, Calls Tryd.prog 15 #[] p.val fun e w'' => e = .returned (.bool true) ∧ Below p.val.heap.size p.val w'') := fun p => H7.out _ (up_trans u4.out p.up)
  have N1 : Hid (∀ p : UpW w4, Calls Tryd.prog 12 #[.int .i64 pe] p.val fun e w'' => e = .returned (.int .i64 pe) ∧ Below p.val.heap.size p.val w'') := fun p => up_num _ _ p
  have N2 : Hid (∀ p : UpW w4, Calls Tryd.prog 12 #[.int .i64 s2] p.val fun e w'' => e = .returned (.int .i64 s2) ∧ Below p.val.heap.size p.val w'') := fun p => up_num _ _ p
  have N3 : Hid (∀ p : UpW w4, Calls Tryd.prog 12 #[.int .i64 cc] p.val fun e w'' => e = .returned (.int .i64 cc) ∧ Below p.val.heap.size p.val w'') := fun p => up_num _ _ p
  clear H1 H2 H3 H4 H5 H6 H7
  go_wp2_with fail
  refine wp_region_up (by kernel_rfl) (by kernel_rfl) ?_
  repeat (quiet_step (first
    | (go_at_call 12; with_reducible first | exact calls_up (N1.out _) | exact calls_up (N2.out _) | exact calls_up (N3.out _))
    | (go_at_call 13; with_reducible exact calls_up (C1.out _))
    | (go_at_call 14; with_reducible exact calls_up (C2.out _))
    | (go_at_call 15; with_reducible exact calls_up (C3.out _))))
  refine wpQuiet_nil ?_
  intro _ hw'
  obtain ⟨p, hw''⟩ := hw'
  subst hw''
  have UP : Hid (Below w.heap.size w p.val) := up_trans u4.out p.up
  go_wp2_with fail
  go_ret
  exact ⟨by first | rfl | simp, UP⟩
end Go.Proofs.YtbnghhmmanleaaaDoor
