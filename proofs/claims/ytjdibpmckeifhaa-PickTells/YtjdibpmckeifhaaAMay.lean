/- The program's mayBe and follows. -/
import Derived.Test.YtjdibpmckeifhaaALeaf
import Derived.Deep.Cut
namespace Go.Proofs.Ytjdibpmckeifhaa
open Go.RowKit
set_option linter.unusedVariables false
set_option linter.unusedSimpArgs false

theorem idx87 (n0 n1 n2 : Int) (w : World) : (Instr.index 83 (.agg #[.int .i64 n0, .int .i64 n1, .int .i64 n2]) (.int .i64 0)).run Try.prog w = .ok (.int .i64 n0) w ∧ (Instr.index 83 (.agg #[.int .i64 n0, .int .i64 n1, .int .i64 n2]) (.int .i64 1)).run Try.prog w = .ok (.int .i64 n1) w ∧ (Instr.index 83 (.agg #[.int .i64 n0, .int .i64 n1, .int .i64 n2]) (.int .i64 2)).run Try.prog w = .ok (.int .i64 n2) w := ⟨by kernel_rfl, by kernel_rfl, by kernel_rfl⟩
theorem idx89 (s t : ByteArray) (w : World) : (Instr.index 85 (.agg #[.string s, .string t]) (.int .i64 0)).run Try.prog w = .ok (.string s) w ∧ (Instr.index 85 (.agg #[.string s, .string t]) (.int .i64 1)).run Try.prog w = .ok (.string t) w := ⟨by kernel_rfl, by kernel_rfl⟩
/-- The box of m stands in the block N. -/
def BoxM (W : World) (N : Nat) (m : Me) : Prop := W.heap[N]? = some (meBox m)
theorem BoxM.up {W W' : World} {N : Nat} {m : Me} (h : BoxM W N m) (hb : Below W.heap.size W W') : BoxM W' N m := blk_up h hb
theorem BoxM.cells {W : World} {N : Nat} {m : Me} (h : BoxM W N m) : W.cell? ⟨N, 0, none⟩ = some (.int .i64 m.id) ∧ W.cell? ⟨N, 1, none⟩ = some (.int .i64 m.lvl) ∧ W.cell? ⟨N, 2, none⟩ = some (.int .i64 m.cnt) ∧ W.cell? ⟨N, 3, none⟩ = some (.string m.low) ∧ W.cell? ⟨N, 4, none⟩ = some (.string m.high) :=
  ⟨blk_cell h 0 _ rfl, blk_cell h 1 _ rfl, blk_cell h 2 _ rfl, blk_cell h 3 _ rfl, blk_cell h 4 _ rfl⟩

def trip (a b c : Int) : Obj := .cells #[.int .i64 a, .int .i64 b, .int .i64 c] 83
theorem mayM_eq (m : Me) : mayM m = (decide (1 ≤ m.id ∧ m.id ≤ 2147483647) && (decide (0 ≤ m.lvl ∧ m.lvl ≤ 3) && (decide (1 ≤ m.cnt ∧ m.cnt ≤ 4096) && (decide (1 ≤ (m.low.size : Int) ∧ (m.low.size : Int) ≤ 96) && (decide (1 ≤ (m.high.size : Int) ∧ (m.high.size : Int) ≤ 96) && leM m.low m.high))))) := by
  unfold mayM keyM
  have e : decide (1 ≤ m.id ∧ m.id ≤ 2147483647 ∧ 0 ≤ m.lvl ∧ m.lvl ≤ 3 ∧ 1 ≤ m.cnt ∧ m.cnt ≤ 4096) = (decide (1 ≤ m.id ∧ m.id ≤ 2147483647) && (decide (0 ≤ m.lvl ∧ m.lvl ≤ 3) && decide (1 ≤ m.cnt ∧ m.cnt ≤ 4096))) := by
    rw [Bool.eq_iff_iff]; simp; omega
  rw [e]
  simp only [Bool.and_assoc]

set_option maxHeartbeats 4000000 in
set_option maxRecDepth 100000 in
theorem mayBe_any (m : Me) (w : World) :
    Calls Try.prog 39 #[meV m] w fun e w' => e = .returned (.bool (mayM m)) ∧ Hid (Below w.heap.size w w') := by
  rw [mayM_eq]
  obtain ⟨i, l, c, lo, hi⟩ := m
  simp only
  have ix0 := fun w => (idx87 i l c w).1
  have ix1 := fun w => (idx87 i l c w).2.1
  have ix2 := fun w => (idx87 i l c w).2.2
  have iy0 := fun w => (idx89 lo hi w).1
  have iy1 := fun w => (idx89 lo hi w).2
  have HNO : Hid (∀ w, Calls Try.prog 49 #[.agg #[.int .i64 i, .int .i64 l, .int .i64 c, .string lo, .string hi]] w fun e w' => e = .returned (.agg #[.int .i64 i, .int .i64 l, .int .i64 c]) ∧ Hid (Below w.heap.size w w')) := fun w => numbersOf_any ⟨i, l, c, lo, hi⟩ w
  have HTO : Hid (∀ w, Calls Try.prog 50 #[.agg #[.int .i64 i, .int .i64 l, .int .i64 c, .string lo, .string hi]] w fun e w' => e = .returned (.agg #[.string lo, .string hi]) ∧ Hid (Below w.heap.size w w')) := fun w => textsOf_any ⟨i, l, c, lo, hi⟩ w
  have HLE : Hid (∀ b, leM lo hi = b → (Op.bytesLess lo.toList hi.toList || (lo.toList == hi.toList)) = b) := fun b h => h
  have H0 : Hid (∀ w, Calls Try.prog 38 #[.int .i64 i, .int .i64 1, .int .i64 2147483647] w fun e w' => e = .returned (.bool (decide (1 ≤ i ∧ i ≤ 2147483647))) ∧ w' = w) := fun w => within_any _ _ _ _
  have H1 : Hid (∀ w, Calls Try.prog 38 #[.int .i64 l, .int .i64 0, .int .i64 3] w fun e w' => e = .returned (.bool (decide (0 ≤ l ∧ l ≤ 3))) ∧ w' = w) := fun w => within_any _ _ _ _
  have H2 : Hid (∀ w, Calls Try.prog 38 #[.int .i64 c, .int .i64 1, .int .i64 4096] w fun e w' => e = .returned (.bool (decide (1 ≤ c ∧ c ≤ 4096))) ∧ w' = w) := fun w => within_any _ _ _ _
  have H3 : Hid (∀ w, Calls Try.prog 38 #[.int .i64 (lo.size : Int), .int .i64 1, .int .i64 96] w fun e w' => e = .returned (.bool (decide (1 ≤ (lo.size : Int) ∧ (lo.size : Int) ≤ 96))) ∧ w' = w) := fun w => within_any _ _ _ _
  have H4 : Hid (∀ w, Calls Try.prog 38 #[.int .i64 (hi.size : Int), .int .i64 1, .int .i64 96] w fun e w' => e = .returned (.bool (decide (1 ≤ (hi.size : Int) ∧ (hi.size : Int) ≤ 96))) ∧ w' = w) := fun w => within_any _ _ _ _
  generalize decide (1 ≤ i ∧ i ≤ 2147483647) = b0 at H0 ⊢
  generalize decide (0 ≤ l ∧ l ≤ 3) = b1 at H1 ⊢
  generalize decide (1 ≤ c ∧ c ≤ 4096) = b2 at H2 ⊢
  generalize decide (1 ≤ (lo.size : Int) ∧ (lo.size : Int) ≤ 96) = b3 at H3 ⊢
  generalize decide (1 ≤ (hi.size : Int) ∧ (hi.size : Int) ≤ 96) = b4 at H4 ⊢
  generalize hb5 : leM lo hi = b5 at HLE ⊢
  have E5 := HLE.out b5 rfl
  clear HLE hb5
  unfold meV
  simp only
  obtain ⟨w3, hw3⟩ : ∃ w3, w3 = ((w.alloc (.cells #[.int .i64 i, .int .i64 l, .int .i64 c, .string lo, .string hi] 70)).alloc (trip 1 0 1)).alloc (trip 2147483647 3 4096) := ⟨_, rfl⟩
  have HW3 : Hid (((w.alloc (.cells #[.int .i64 i, .int .i64 l, .int .i64 c, .string lo, .string hi] 70)).alloc (.cells #[.int .i64 1, .int .i64 0, .int .i64 1] 83)).alloc (.cells #[.int .i64 2147483647, .int .i64 3, .int .i64 4096] 83) = w3) := hw3.symm
  have U3 : Hid (Below w.heap.size w w3) := by rw [hw3]; exact up_al (up_al (up_alloc _ _) _) _
  have BX : Hid (w3.heap[w.heap.size]? = some (.cells #[.int .i64 i, .int .i64 l, .int .i64 c, .string lo, .string hi] 70)) := by
    rw [hw3]; exact blk_up (blk_up (blk_new _ _) (up_alloc _ _)) (up_alloc _ _)
  have BA : Hid (w3.heap[w.heap.size + 1]? = some (trip 1 0 1)) := by
    rw [hw3]
    have := blk_new (w.alloc (.cells #[.int .i64 i, .int .i64 l, .int .i64 c, .string lo, .string hi] 70)) (trip 1 0 1)
    rw [show (w.alloc (.cells #[.int .i64 i, .int .i64 l, .int .i64 c, .string lo, .string hi] 70)).heap.size = w.heap.size + 1 by simp] at this
    exact blk_up this (up_alloc _ _)
  have BB : Hid (w3.heap[w.heap.size + 1 + 1]? = some (trip 2147483647 3 4096)) := by
    rw [hw3]
    have := blk_new ((w.alloc (.cells #[.int .i64 i, .int .i64 l, .int .i64 c, .string lo, .string hi] 70)).alloc (trip 1 0 1)) (trip 2147483647 3 4096)
    rw [show ((w.alloc (.cells #[.int .i64 i, .int .i64 l, .int .i64 c, .string lo, .string hi] 70)).alloc (trip 1 0 1)).heap.size = w.heap.size + 1 + 1 by simp] at this
    exact this
  clear hw3
  have x0 := blk_cell BX.out 0 _ rfl
  have x1 := blk_cell BX.out 1 _ rfl
  have x2 := blk_cell BX.out 2 _ rfl
  have x3 := blk_cell BX.out 3 _ rfl
  have x4 := blk_cell BX.out 4 _ rfl
  go_enter Try.func39, Try.ntmps39
  go_upto_region 3 with fail
  rw [HW3.out]
  go_wp2_with fail
  refine (HNO.out _).mono ?_
  rintro e w4 ⟨rfl, u4⟩
  have U : Hid (Below w.heap.size w w4) := up_trans U3.out u4.out
  have BX4 := hid (blk_up BX.out u4.out)
  have BA4 := hid (blk_up BA.out u4.out)
  have BB4 := hid (blk_up BB.out u4.out)
  unfold trip at BA4 BB4
  clear u4 U3 BX BA BB x0 x1 x2 x3 x4 HW3
  generalize w.heap.size + 1 + 1 = NB at *
  generalize w.heap.size + 1 = NA at *
  go_wp2_with fail
  refine wp_loop_rounds 4 ?_
  rw [rounds_succ]
  have a0 := blk_cell BA4.out 0 _ rfl
  have c0 := blk_cell BB4.out 0 _ rfl
  cases b0
  · go_wp2_with fail
    go_quiet ((go_at_call 38; refine Calls.quiet_of_same (H0.out _)))
    go_wp2_with fail
    go_ret
    exact ⟨rfl, up_trans U.out (up_drewN _ _)⟩
  go_wp2_with fail
  go_quiet ((go_at_call 38; refine Calls.quiet_of_same (H0.out _)))
  replace U := hid (up_trans U.out (up_drewN w4 nq))
  replace BX4 := hid (blk_up BX4.out (up_drewN w4 nq))
  replace BA4 := hid (blk_up BA4.out (up_drewN w4 nq))
  replace BB4 := hid (blk_up BB4.out (up_drewN w4 nq))
  clear a0 c0
  generalize w4.drewN nq = w5 at *
  clear nq w4
  go_wp2_with fail
  rw [rounds_succ]
  have a1 := blk_cell BA4.out 1 _ rfl
  have c1 := blk_cell BB4.out 1 _ rfl
  cases b1
  · go_wp2_with fail
    go_quiet ((go_at_call 38; refine Calls.quiet_of_same (H1.out _)))
    go_wp2_with fail
    go_ret
    exact ⟨rfl, up_trans U.out (up_drewN _ _)⟩
  go_wp2_with fail
  go_quiet ((go_at_call 38; refine Calls.quiet_of_same (H1.out _)))
  replace U := hid (up_trans U.out (up_drewN w5 nq))
  replace BX4 := hid (blk_up BX4.out (up_drewN w5 nq))
  replace BA4 := hid (blk_up BA4.out (up_drewN w5 nq))
  replace BB4 := hid (blk_up BB4.out (up_drewN w5 nq))
  clear a1 c1
  generalize w5.drewN nq = w6 at *
  clear nq w5
  go_wp2_with fail
  rw [rounds_succ]
  have a2 := blk_cell BA4.out 2 _ rfl
  have c2 := blk_cell BB4.out 2 _ rfl
  cases b2
  · go_wp2_with fail
    go_quiet ((go_at_call 38; refine Calls.quiet_of_same (H2.out _)))
    go_wp2_with fail
    go_ret
    exact ⟨rfl, up_trans U.out (up_drewN _ _)⟩
  go_wp2_with fail
  go_quiet ((go_at_call 38; refine Calls.quiet_of_same (H2.out _)))
  replace U := hid (up_trans U.out (up_drewN w6 nq))
  replace BX4 := hid (blk_up BX4.out (up_drewN w6 nq))
  replace BA4 := hid (blk_up BA4.out (up_drewN w6 nq))
  replace BB4 := hid (blk_up BB4.out (up_drewN w6 nq))
  clear a2 c2
  generalize w6.drewN nq = w7 at *
  clear nq w6
  go_wp2_with fail
  rw [rounds_succ]
  have x0 := blk_cell BX4.out 0 _ rfl
  have x1 := blk_cell BX4.out 1 _ rfl
  have x2 := blk_cell BX4.out 2 _ rfl
  have x3 := blk_cell BX4.out 3 _ rfl
  have x4 := blk_cell BX4.out 4 _ rfl
  go_wp2_with fail
  refine (HTO.out _).mono ?_
  rintro e w8 ⟨rfl, u8⟩
  replace U := hid (up_trans U.out u8.out)
  replace BX4 := hid (blk_up BX4.out u8.out)
  clear x0 x1 x2 x3 x4 u8 BA4 BB4
  have x3 := blk_cell BX4.out 3 _ rfl
  have x4 := blk_cell BX4.out 4 _ rfl
  go_wp2_with fail
  refine wp_loop_rounds 3 ?_
  rw [rounds_succ]
  cases b3
  · go_wp2_with fail
    refine (H3.out _).mono ?_
    rintro e w9 ⟨rfl, rfl⟩
    go_wp2_with fail
    go_ret
    exact ⟨rfl, U⟩
  go_wp2_with fail
  refine (H3.out _).mono ?_
  rintro e w9 ⟨rfl, hw9⟩
  subst hw9
  go_wp2_with fail
  rw [rounds_succ]
  cases b4
  · go_wp2_with fail
    refine (H4.out _).mono ?_
    rintro e w9 ⟨rfl, rfl⟩
    go_wp2_with fail
    go_ret
    exact ⟨rfl, U⟩
  go_wp2_with fail
  refine (H4.out _).mono ?_
  rintro e w9 ⟨rfl, hw9⟩
  subst hw9
  go_wp2_with fail
  rw [rounds_succ]
  go_wp2_with fail
  go_ret
  exact ⟨rfl, U⟩
end Go.Proofs.Ytjdibpmckeifhaa
