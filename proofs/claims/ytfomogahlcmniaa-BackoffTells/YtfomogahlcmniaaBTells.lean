/- The statement on what all calls tell. -/
import Derived.Test.YtfomogahlcmniaaBPb
namespace Go.Proofs.Ytfomogahlcmniaa
open Go.RowKit
set_option linter.unusedVariables false
set_option linter.unusedSimpArgs false

theorem up_num (x : Int) (w : World) (p : UpW w) : Calls Try.prog 14 #[.int .i64 x] p.val fun e w' => e = .returned (.int .i64 x) ∧ Below p.val.heap.size p.val w' :=
  (num_any x p.val).mono fun e w' h => ⟨h.1, by rw [h.2]; exact Below.refl _ _⟩
set_option maxHeartbeats 4000000 in
set_option maxRecDepth 20000 in
theorem tells_walk (b c n now k : Int) (hk : k ≤ 9223372036854775807) (w : World) (hp : Pb w) : Calls Try.prog 3 #[limV b c n, .int .i64 now, .int .i64 k] w fun e w' => e = .returned (.bool true) ∧ Below w.heap.size w w' := by
  have H1 := hid (fun w' => hp.delay b c n k w' hk)
  have H2 : Hid (∀ w', Calls Try.prog 9 #[limV b c n, .int .i64 k] w' fun e w'' => e = .returned (retD (delayP b c n k)) ∧ Below w'.heap.size w' w'') := fun w' => delayB_any b c n k w'
  have H3 := hid (fun w' => hp.due b c n now k w' hk)
  have H4 : Hid (∀ w', Calls Try.prog 11 #[limV b c n, .int .i64 now, .int .i64 k] w' fun e w'' => e = .returned (retD (dueP b c n now k)) ∧ Below w'.heap.size w' w'') := fun w' => dueB_any b c n now k w'
  have H5 := hid (hp.total b c n)
  have H6 : Hid (∀ w', Calls Try.prog 13 #[limV b c n] w' fun e w'' => e = .returned (retD (totalP b c n)) ∧ Below w'.heap.size w' w'') := fun w' => totalB_any b c n w'
  have H7 := hid (hp.check b c n)
  have H8 : Hid (∀ w', Calls Try.prog 16 #[limV b c n] w' fun e w'' => e = .returned (.int .i64 (chkP b c n)) ∧ Below w'.heap.size w' w'') := fun w' => checkB_any b c n w'
  have H9 := hid (alive_any w hp)
  unfold retD at H2 H4 H6
  unfold limV at *
  clear hp hk
  generalize (delayP b c n k).1 = a1 at *
  generalize (delayP b c n k).2 = a2 at *
  generalize (dueP b c n now k).1 = d1 at *
  generalize (dueP b c n now k).2 = d2 at *
  generalize (totalP b c n).1 = t1 at *
  generalize (totalP b c n).2 = t2 at *
  generalize chkP b c n = cc at *
  have k0 := hid (blk_up (blk_new w (.cells #[.int .i64 b, .int .i64 c, .int .i64 n] 23)) (up_alloc (w.alloc (.cells #[.int .i64 b, .int .i64 c, .int .i64 n] 23)) (.cells #[.int .i64 b, .int .i64 c, .int .i64 n] 24)))
  have q0 : Hid (((w.alloc (.cells #[.int .i64 b, .int .i64 c, .int .i64 n] 23)).alloc (.cells #[.int .i64 b, .int .i64 c, .int .i64 n] 24)).heap[w.heap.size + 1]? = some (.cells #[.int .i64 b, .int .i64 c, .int .i64 n] 24)) := by
    have h := blk_new (w.alloc (.cells #[.int .i64 b, .int .i64 c, .int .i64 n] 23)) (.cells #[.int .i64 b, .int .i64 c, .int .i64 n] 24)
    rw [show (w.alloc (.cells #[.int .i64 b, .int .i64 c, .int .i64 n] 23)).heap.size = w.heap.size + 1 from Array.size_push _] at h
    exact h
  have u0 := hid (up_al (up_alloc w (.cells #[.int .i64 b, .int .i64 c, .int .i64 n] 23)) (.cells #[.int .i64 b, .int .i64 c, .int .i64 n] 24))
  go_enter Try.func3, Try.ntmps3
  have kk := k0.out
  have qq := q0.out
  have z0 := blk_cell kk 0 _ rfl
  have z1 := blk_cell kk 1 _ rfl
  have z2 := blk_cell kk 2 _ rfl
  have y0 := blk_cell qq 0 _ rfl
  have y1 := blk_cell qq 1 _ rfl
  have y2 := blk_cell qq 2 _ rfl
  clear kk qq
  go_wp2_with fail
  refine (H1.out _ u0.out).mono ?_
  rintro e w1 ⟨rfl, hb⟩
  have k1 := hid (blk_up k0.out hb)
  have q1 := hid (blk_up q0.out hb)
  have u1 := hid (up_trans u0.out hb)
  clear hb k0 q0 u0 z0 z1 z2 y0 y1 y2
  have kk := k1.out
  have qq := q1.out
  have z0 := blk_cell kk 0 _ rfl
  have z1 := blk_cell kk 1 _ rfl
  have z2 := blk_cell kk 2 _ rfl
  have y0 := blk_cell qq 0 _ rfl
  have y1 := blk_cell qq 1 _ rfl
  have y2 := blk_cell qq 2 _ rfl
  clear kk qq
  go_wp2_with fail
  refine (H2.out _).mono ?_
  rintro e w2 ⟨rfl, hb⟩
  have k2 := hid (blk_up k1.out hb)
  have q2 := hid (blk_up q1.out hb)
  have u2 := hid (up_trans u1.out hb)
  clear hb k1 q1 u1 z0 z1 z2 y0 y1 y2
  have kk := k2.out
  have qq := q2.out
  have z0 := blk_cell kk 0 _ rfl
  have z1 := blk_cell kk 1 _ rfl
  have z2 := blk_cell kk 2 _ rfl
  have y0 := blk_cell qq 0 _ rfl
  have y1 := blk_cell qq 1 _ rfl
  have y2 := blk_cell qq 2 _ rfl
  clear kk qq
  go_wp2_with fail
  refine (H3.out _ u2.out).mono ?_
  rintro e w3 ⟨rfl, hb⟩
  have k3 := hid (blk_up k2.out hb)
  have q3 := hid (blk_up q2.out hb)
  have u3 := hid (up_trans u2.out hb)
  clear hb k2 q2 u2 z0 z1 z2 y0 y1 y2
  have kk := k3.out
  have qq := q3.out
  have z0 := blk_cell kk 0 _ rfl
  have z1 := blk_cell kk 1 _ rfl
  have z2 := blk_cell kk 2 _ rfl
  have y0 := blk_cell qq 0 _ rfl
  have y1 := blk_cell qq 1 _ rfl
  have y2 := blk_cell qq 2 _ rfl
  clear kk qq
  go_wp2_with fail
  refine (H4.out _).mono ?_
  rintro e w4 ⟨rfl, hb⟩
  have k4 := hid (blk_up k3.out hb)
  have q4 := hid (blk_up q3.out hb)
  have u4 := hid (up_trans u3.out hb)
  clear hb k3 q3 u3 z0 z1 z2 y0 y1 y2
  have kk := k4.out
  have qq := q4.out
  have z0 := blk_cell kk 0 _ rfl
  have z1 := blk_cell kk 1 _ rfl
  have z2 := blk_cell kk 2 _ rfl
  have y0 := blk_cell qq 0 _ rfl
  have y1 := blk_cell qq 1 _ rfl
  have y2 := blk_cell qq 2 _ rfl
  clear kk qq
  go_wp2_with fail
  refine (H5.out _ u4.out).mono ?_
  rintro e w5 ⟨rfl, hb⟩
  have k5 := hid (blk_up k4.out hb)
  have q5 := hid (blk_up q4.out hb)
  have u5 := hid (up_trans u4.out hb)
  clear hb k4 q4 u4 z0 z1 z2 y0 y1 y2
  have kk := k5.out
  have qq := q5.out
  have z0 := blk_cell kk 0 _ rfl
  have z1 := blk_cell kk 1 _ rfl
  have z2 := blk_cell kk 2 _ rfl
  have y0 := blk_cell qq 0 _ rfl
  have y1 := blk_cell qq 1 _ rfl
  have y2 := blk_cell qq 2 _ rfl
  clear kk qq
  go_wp2_with fail
  refine (H6.out _).mono ?_
  rintro e w6 ⟨rfl, hb⟩
  have k6 := hid (blk_up k5.out hb)
  have q6 := hid (blk_up q5.out hb)
  have u6 := hid (up_trans u5.out hb)
  clear hb k5 q5 u5 z0 z1 z2 y0 y1 y2
  have z0 : ∀ p : UpW w6, p.val.cell? ⟨w.heap.size, 0, none⟩ = some (.int .i64 b) := fun p => cell_up (blk_cell k6.out 0 _ rfl) p
  have z1 : ∀ p : UpW w6, p.val.cell? ⟨w.heap.size, 1, none⟩ = some (.int .i64 c) := fun p => cell_up (blk_cell k6.out 1 _ rfl) p
  have z2 : ∀ p : UpW w6, p.val.cell? ⟨w.heap.size, 2, none⟩ = some (.int .i64 n) := fun p => cell_up (blk_cell k6.out 2 _ rfl) p
  have y0 : ∀ p : UpW w6, p.val.cell? ⟨w.heap.size + 1, 0, none⟩ = some (.int .i64 b) := fun p => cell_up (blk_cell q6.out 0 _ rfl) p
  have y1 : ∀ p : UpW w6, p.val.cell? ⟨w.heap.size + 1, 1, none⟩ = some (.int .i64 c) := fun p => cell_up (blk_cell q6.out 1 _ rfl) p
  have y2 : ∀ p : UpW w6, p.val.cell? ⟨w.heap.size + 1, 2, none⟩ = some (.int .i64 n) := fun p => cell_up (blk_cell q6.out 2 _ rfl) p
  have C1 : Hid (∀ p : UpW w6, Calls Try.prog 15 #[.agg #[.int .i64 b, .int .i64 c, .int .i64 n]] p.val fun e w'' => e = .returned (.int .i64 cc) ∧ Below p.val.heap.size p.val w'') := fun p => H7.out _ (up_trans u6.out p.up)
  have C2 : Hid (∀ p : UpW w6, Calls Try.prog 16 #[.agg #[.int .i64 b, .int .i64 c, .int .i64 n]] p.val fun e w'' => e = .returned (.int .i64 cc) ∧ Below p.val.heap.size p.val w'') := fun p => H8.out _
  have C3 : Hid (∀ p : UpW w6, Calls Try.prog 17 #[] p.val fun e w'' => e = .returned (.bool true) ∧ Below p.val.heap.size p.val w'') := fun p => H9.out _ (up_trans u6.out p.up)
  have N0 : Hid (∀ p : UpW w6, Calls Try.prog 14 #[.int .i64 a2] p.val fun e w'' => e = .returned (.int .i64 a2) ∧ Below p.val.heap.size p.val w'') := fun p => up_num _ _ p
  have N1 : Hid (∀ p : UpW w6, Calls Try.prog 14 #[.int .i64 d2] p.val fun e w'' => e = .returned (.int .i64 d2) ∧ Below p.val.heap.size p.val w'') := fun p => up_num _ _ p
  have N2 : Hid (∀ p : UpW w6, Calls Try.prog 14 #[.int .i64 t2] p.val fun e w'' => e = .returned (.int .i64 t2) ∧ Below p.val.heap.size p.val w'') := fun p => up_num _ _ p
  have N3 : Hid (∀ p : UpW w6, Calls Try.prog 14 #[.int .i64 cc] p.val fun e w'' => e = .returned (.int .i64 cc) ∧ Below p.val.heap.size p.val w'') := fun p => up_num _ _ p
  clear H1 H2 H3 H4 H5 H6 H7 H8 H9 k6 q6
  go_wp2_with fail
  refine wp_region_up (by kernel_rfl) (by kernel_rfl) ?_
  repeat (quiet_step (first
    | (go_at_call 14; with_reducible first | exact calls_up (N0.out _) | exact calls_up (N1.out _) | exact calls_up (N2.out _) | exact calls_up (N3.out _))
    | (go_at_call 15; with_reducible exact calls_up (C1.out _))
    | (go_at_call 16; with_reducible exact calls_up (C2.out _))
    | (go_at_call 17; with_reducible exact calls_up (C3.out _))))
  refine wpQuiet_nil ?_
  intro _ hw'
  obtain ⟨p, hw''⟩ := hw'
  subst hw''
  have UP : Hid (Below w.heap.size w p.val) := up_trans u6.out p.up
  go_wp2_with fail
  go_ret
  exact ⟨by first | rfl | simp, UP⟩
end Go.Proofs.Ytfomogahlcmniaa
