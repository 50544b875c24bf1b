/- The document's Lease and Finish. -/
import Derived.Test.YtpjmieiajhhbaaaDoorJTurn
namespace Go.Proofs.YtpjmieiajhhbaaaDoor
open Go.RowKit
set_option linter.unusedVariables false
set_option linter.unusedSimpArgs false

def leaseP (j : Jb) (wk tk un : Int) : Jb × Int := if chkJ j ≠ 0 then (jb0, 9) else if j.st ≠ 1 then (jb0, 81) else if inB wk 1 2147483648 && (inB tk 1 1099511627776 && inB un 0 32503680000) then ({ j with st := 2, du := 0, wk := wk, tk := tk, un := un }, 0) else (jb0, 4)
noncomputable def finishP (j : Jb) (now : Int) : Jb × Bool × Int := if chkJ j ≠ 0 then (jb0, false, 9) else if j.st ≠ 2 then (jb0, false, 81) else if inB now 0 32503679999 then (if (againP j now).2 then ((againP j now).1, true, 0) else (jb0, false, 0)) else (jb0, false, 4)
theorem jobV_zero : jobV jb0 = .agg #[.int .i64 0, .string { data := #[] }, .string { data := #[] }, .string { data := #[] }, .int .i64 0, .int .i64 0, .int .i64 0, .int .i64 0, .int .i64 0, .int .i64 0] := rfl
/-- The boxes of a job and of a result, as they are laid. -/
theorem boxes2 (w : World) (a b : Array Value) (s t : TypeId) : ((w.alloc (.cells a s)).alloc (.cells b t)).heap[w.heap.size]? = some (.cells a s) ∧ ((w.alloc (.cells a s)).alloc (.cells b t)).heap[w.heap.size + 1]? = some (.cells b t) ∧ Below w.heap.size w ((w.alloc (.cells a s)).alloc (.cells b t)) := by
  refine ⟨blk_up (blk_new w _) (up_alloc _ _), ?_, up_al (up_alloc w _) _⟩
  have h : (w.alloc (.cells a s)).heap.size = w.heap.size + 1 := by simp
  rw [← h]
  exact blk_new _ _
set_option maxHeartbeats 4000000 in
set_option maxRecDepth 20000 in
theorem lease_any (j : Jb) (hj : j.ok) (wk tk un : Int) (w : World) : Calls Tryd.prog 18 #[jobV j, .int .i64 wk, .int .i64 tk, .int .i64 un] w fun e w' => e = .returned (.tuple #[jobV (leaseP j wk tk un).1, .int .i64 (leaseP j wk tk un).2]) ∧ Below w.heap.size w w' := by
  have HC := hid (checkJ_any j hj)
  have H7 := hid (within_any wk 1 2147483648)
  have H8 := hid (within_any tk 1 1099511627776)
  have H9 := hid (within_any un 0 32503680000)
  have LP : Hid (leaseP j wk tk un = if chkJ j ≠ 0 then (jb0, 9) else if j.st ≠ 1 then (jb0, 81) else if inB wk 1 2147483648 && (inB tk 1 1099511627776 && inB un 0 32503680000) then ({ j with st := 2, du := 0, wk := wk, tk := tk, un := un }, 0) else (jb0, 4)) := rfl
  obtain ⟨q0, q1, q2⟩ := boxes2 w (jobC j) (jobC jb0) 23 23
  have B0 := hid q0
  have R0 := hid q1
  have U0 := hid q2
  unfold jobC jb0 at U0 B0 R0
  clear q0 q1 q2 hj
  unfold jobV at HC
  obtain ⟨L, hL⟩ : ∃ L, L = leaseP j wk tk un := ⟨_, rfl⟩
  rw [← hL] at LP ⊢
  clear hL
  rcases chkJ_two j with hc | hc
  rotate_left
  · rw [hc] at HC
    have E : Hid (L = (jb0, 9)) := LP.out.trans (if_pos (by rw [hc]; simp))
    rw [jobV_form]
    unfold jobC
    go_enter Tryd.func18, Tryd.ntmps18
    go_wp2_with fail
    refine (HC.out _).mono ?_
    rintro e w1 ⟨rfl, hb1⟩
    have R1 := hid (blk_up R0.out hb1)
    have B1 := hid (blk_up B0.out hb1)
    have U1 := hid (up_trans U0.out hb1)
    clear hb1 R0 B0 U0
    have rf0 := blk_frozen R1.out 0
    have rf1 := blk_frozen R1.out 1
    have rf2 := blk_frozen R1.out 2
    have rf3 := blk_frozen R1.out 3
    have rf4 := blk_frozen R1.out 4
    have rf5 := blk_frozen R1.out 5
    have rf6 := blk_frozen R1.out 6
    have rf7 := blk_frozen R1.out 7
    have rf8 := blk_frozen R1.out 8
    have rf9 := blk_frozen R1.out 9
    have ry0 := blk_cell R1.out 0 _ rfl
    have ry1 := blk_cell R1.out 1 _ rfl
    have ry2 := blk_cell R1.out 2 _ rfl
    have ry3 := blk_cell R1.out 3 _ rfl
    have ry4 := blk_cell R1.out 4 _ rfl
    have ry5 := blk_cell R1.out 5 _ rfl
    have ry6 := blk_cell R1.out 6 _ rfl
    have ry7 := blk_cell R1.out 7 _ rfl
    have ry8 := blk_cell R1.out 8 _ rfl
    have ry9 := blk_cell R1.out 9 _ rfl
    have FB := hid (set10_blk R1.out (.int .i64 0) (.string { data := #[] }) (.string { data := #[] }) (.string { data := #[] }) (.int .i64 0) (.int .i64 0) (.int .i64 0) (.int .i64 0) (.int .i64 0) (.int .i64 0))
    have FG := hid (set10_grown w1 (w.heap.size + 1) (.int .i64 0) (.string { data := #[] }) (.string { data := #[] }) (.string { data := #[] }) (.int .i64 0) (.int .i64 0) (.int .i64 0) (.int .i64 0) (.int .i64 0) (.int .i64 0))
    go_wp2_with fail
    refine bodyPost_ret (results_job2 rfl _ _ rfl FB.out) rfl ?_
    exact ⟨by rw [E.out]; rfl, U1.out.grown FG.out U1.out.size (fun k hk => by simp at hk; omega)⟩
  rw [hc] at HC
  have LP2 : Hid (L = if j.st ≠ 1 then (jb0, 81) else if inB wk 1 2147483648 && (inB tk 1 1099511627776 && inB un 0 32503680000) then ({ j with st := 2, du := 0, wk := wk, tk := tk, un := un }, 0) else (jb0, 4)) := LP.out.trans (if_neg (by rw [hc]; simp))
  clear LP hc
  by_cases hs : j.st = 1
  rotate_left
  · have hs1 : (j.st != 1) = true := by simpa using hs
    have E : Hid (L = (jb0, 81)) := LP2.out.trans (if_pos hs)
    rw [jobV_form]
    unfold jobC
    go_enter Tryd.func18, Tryd.ntmps18
    go_wp2_with fail
    refine (HC.out _).mono ?_
    rintro e w1 ⟨rfl, hb1⟩
    have R1 := hid (blk_up R0.out hb1)
    have B1 := hid (blk_up B0.out hb1)
    have U1 := hid (up_trans U0.out hb1)
    clear hb1 R0 B0 U0
    clear hs
    have x0 := blk_cell B1.out 0 _ rfl
    have x1 := blk_cell B1.out 1 _ rfl
    have x2 := blk_cell B1.out 2 _ rfl
    have x3 := blk_cell B1.out 3 _ rfl
    have x4 := blk_cell B1.out 4 _ rfl
    have x5 := blk_cell B1.out 5 _ rfl
    have x6 := blk_cell B1.out 6 _ rfl
    have x7 := blk_cell B1.out 7 _ rfl
    have x8 := blk_cell B1.out 8 _ rfl
    have x9 := blk_cell B1.out 9 _ rfl
    have rf0 := blk_frozen R1.out 0
    have rf1 := blk_frozen R1.out 1
    have rf2 := blk_frozen R1.out 2
    have rf3 := blk_frozen R1.out 3
    have rf4 := blk_frozen R1.out 4
    have rf5 := blk_frozen R1.out 5
    have rf6 := blk_frozen R1.out 6
    have rf7 := blk_frozen R1.out 7
    have rf8 := blk_frozen R1.out 8
    have rf9 := blk_frozen R1.out 9
    have ry0 := blk_cell R1.out 0 _ rfl
    have ry1 := blk_cell R1.out 1 _ rfl
    have ry2 := blk_cell R1.out 2 _ rfl
    have ry3 := blk_cell R1.out 3 _ rfl
    have ry4 := blk_cell R1.out 4 _ rfl
    have ry5 := blk_cell R1.out 5 _ rfl
    have ry6 := blk_cell R1.out 6 _ rfl
    have ry7 := blk_cell R1.out 7 _ rfl
    have ry8 := blk_cell R1.out 8 _ rfl
    have ry9 := blk_cell R1.out 9 _ rfl
    have FB := hid (set10_blk R1.out (.int .i64 0) (.string { data := #[] }) (.string { data := #[] }) (.string { data := #[] }) (.int .i64 0) (.int .i64 0) (.int .i64 0) (.int .i64 0) (.int .i64 0) (.int .i64 0))
    have FG := hid (set10_grown w1 (w.heap.size + 1) (.int .i64 0) (.string { data := #[] }) (.string { data := #[] }) (.string { data := #[] }) (.int .i64 0) (.int .i64 0) (.int .i64 0) (.int .i64 0) (.int .i64 0) (.int .i64 0))
    go_wp2_with fail
    refine bodyPost_ret (results_job2 rfl _ _ rfl FB.out) rfl ?_
    exact ⟨by rw [E.out]; rfl, U1.out.grown FG.out U1.out.size (fun k hk => by simp at hk; omega)⟩
  have hs1 : (j.st != 1) = false := by simpa using hs
  have LP3 : Hid (L = if inB wk 1 2147483648 && (inB tk 1 1099511627776 && inB un 0 32503680000) then ({ j with st := 2, du := 0, wk := wk, tk := tk, un := un }, 0) else (jb0, 4)) := LP2.out.trans (if_neg (by simpa using hs))
  clear LP2 hs
  generalize inB wk 1 2147483648 = a7 at *
  generalize inB tk 1 1099511627776 = a8 at *
  generalize inB un 0 32503680000 = a9 at *
  rw [jobV_form]
  unfold jobC
  go_enter Tryd.func18, Tryd.ntmps18
  go_wp2_with fail
  refine (HC.out _).mono ?_
  rintro e w1 ⟨rfl, hb1⟩
  have R1 := hid (blk_up R0.out hb1)
  have B1 := hid (blk_up B0.out hb1)
  have U1 := hid (up_trans U0.out hb1)
  clear hb1 R0 B0 U0
  have x0 := blk_cell B1.out 0 _ rfl
  have x1 := blk_cell B1.out 1 _ rfl
  have x2 := blk_cell B1.out 2 _ rfl
  have x3 := blk_cell B1.out 3 _ rfl
  have x4 := blk_cell B1.out 4 _ rfl
  have x5 := blk_cell B1.out 5 _ rfl
  have x6 := blk_cell B1.out 6 _ rfl
  have x7 := blk_cell B1.out 7 _ rfl
  have x8 := blk_cell B1.out 8 _ rfl
  have x9 := blk_cell B1.out 9 _ rfl
  go_wp2_with fail
  refine (H7.out _).mono ?_
  rintro e w2 ⟨rfl, rfl⟩
  cases a7
  · have E : Hid (L = (jb0, 4)) := LP3.out
    have rf0 := blk_frozen R1.out 0
    have rf1 := blk_frozen R1.out 1
    have rf2 := blk_frozen R1.out 2
    have rf3 := blk_frozen R1.out 3
    have rf4 := blk_frozen R1.out 4
    have rf5 := blk_frozen R1.out 5
    have rf6 := blk_frozen R1.out 6
    have rf7 := blk_frozen R1.out 7
    have rf8 := blk_frozen R1.out 8
    have rf9 := blk_frozen R1.out 9
    have ry0 := blk_cell R1.out 0 _ rfl
    have ry1 := blk_cell R1.out 1 _ rfl
    have ry2 := blk_cell R1.out 2 _ rfl
    have ry3 := blk_cell R1.out 3 _ rfl
    have ry4 := blk_cell R1.out 4 _ rfl
    have ry5 := blk_cell R1.out 5 _ rfl
    have ry6 := blk_cell R1.out 6 _ rfl
    have ry7 := blk_cell R1.out 7 _ rfl
    have ry8 := blk_cell R1.out 8 _ rfl
    have ry9 := blk_cell R1.out 9 _ rfl
    have FB := hid (set10_blk R1.out (.int .i64 0) (.string { data := #[] }) (.string { data := #[] }) (.string { data := #[] }) (.int .i64 0) (.int .i64 0) (.int .i64 0) (.int .i64 0) (.int .i64 0) (.int .i64 0))
    have FG := hid (set10_grown w2 (w.heap.size + 1) (.int .i64 0) (.string { data := #[] }) (.string { data := #[] }) (.string { data := #[] }) (.int .i64 0) (.int .i64 0) (.int .i64 0) (.int .i64 0) (.int .i64 0) (.int .i64 0))
    go_wp2_with fail
    refine bodyPost_ret (results_job2 rfl _ _ rfl FB.out) rfl ?_
    exact ⟨by rw [E.out]; rfl, U1.out.grown FG.out U1.out.size (fun k hk => by simp at hk; omega)⟩
  go_wp2_with fail
  refine (H8.out _).mono ?_
  rintro e w2 ⟨rfl, rfl⟩
  cases a8
  · have E : Hid (L = (jb0, 4)) := LP3.out
    have rf0 := blk_frozen R1.out 0
    have rf1 := blk_frozen R1.out 1
    have rf2 := blk_frozen R1.out 2
    have rf3 := blk_frozen R1.out 3
    have rf4 := blk_frozen R1.out 4
    have rf5 := blk_frozen R1.out 5
    have rf6 := blk_frozen R1.out 6
    have rf7 := blk_frozen R1.out 7
    have rf8 := blk_frozen R1.out 8
    have rf9 := blk_frozen R1.out 9
    have ry0 := blk_cell R1.out 0 _ rfl
    have ry1 := blk_cell R1.out 1 _ rfl
    have ry2 := blk_cell R1.out 2 _ rfl
    have ry3 := blk_cell R1.out 3 _ rfl
    have ry4 := blk_cell R1.out 4 _ rfl
    have ry5 := blk_cell R1.out 5 _ rfl
    have ry6 := blk_cell R1.out 6 _ rfl
    have ry7 := blk_cell R1.out 7 _ rfl
    have ry8 := blk_cell R1.out 8 _ rfl
    have ry9 := blk_cell R1.out 9 _ rfl
    have FB := hid (set10_blk R1.out (.int .i64 0) (.string { data := #[] }) (.string { data := #[] }) (.string { data := #[] }) (.int .i64 0) (.int .i64 0) (.int .i64 0) (.int .i64 0) (.int .i64 0) (.int .i64 0))
    have FG := hid (set10_grown w2 (w.heap.size + 1) (.int .i64 0) (.string { data := #[] }) (.string { data := #[] }) (.string { data := #[] }) (.int .i64 0) (.int .i64 0) (.int .i64 0) (.int .i64 0) (.int .i64 0) (.int .i64 0))
    go_wp2_with fail
    refine bodyPost_ret (results_job2 rfl _ _ rfl FB.out) rfl ?_
    exact ⟨by rw [E.out]; rfl, U1.out.grown FG.out U1.out.size (fun k hk => by simp at hk; omega)⟩
  go_wp2_with fail
  refine (H9.out _).mono ?_
  rintro e w2 ⟨rfl, rfl⟩
  cases a9
  · have E : Hid (L = (jb0, 4)) := LP3.out
    have rf0 := blk_frozen R1.out 0
    have rf1 := blk_frozen R1.out 1
    have rf2 := blk_frozen R1.out 2
    have rf3 := blk_frozen R1.out 3
    have rf4 := blk_frozen R1.out 4
    have rf5 := blk_frozen R1.out 5
    have rf6 := blk_frozen R1.out 6
    have rf7 := blk_frozen R1.out 7
    have rf8 := blk_frozen R1.out 8
    have rf9 := blk_frozen R1.out 9
    have ry0 := blk_cell R1.out 0 _ rfl
    have ry1 := blk_cell R1.out 1 _ rfl
    have ry2 := blk_cell R1.out 2 _ rfl
    have ry3 := blk_cell R1.out 3 _ rfl
    have ry4 := blk_cell R1.out 4 _ rfl
    have ry5 := blk_cell R1.out 5 _ rfl
    have ry6 := blk_cell R1.out 6 _ rfl
    have ry7 := blk_cell R1.out 7 _ rfl
    have ry8 := blk_cell R1.out 8 _ rfl
    have ry9 := blk_cell R1.out 9 _ rfl
    have FB := hid (set10_blk R1.out (.int .i64 0) (.string { data := #[] }) (.string { data := #[] }) (.string { data := #[] }) (.int .i64 0) (.int .i64 0) (.int .i64 0) (.int .i64 0) (.int .i64 0) (.int .i64 0))
    have FG := hid (set10_grown w2 (w.heap.size + 1) (.int .i64 0) (.string { data := #[] }) (.string { data := #[] }) (.string { data := #[] }) (.int .i64 0) (.int .i64 0) (.int .i64 0) (.int .i64 0) (.int .i64 0) (.int .i64 0))
    go_wp2_with fail
    refine bodyPost_ret (results_job2 rfl _ _ rfl FB.out) rfl ?_
    exact ⟨by rw [E.out]; rfl, U1.out.grown FG.out U1.out.size (fun k hk => by simp at hk; omega)⟩
  have E : Hid (L = ({ j with st := 2, du := 0, wk := wk, tk := tk, un := un }, 0)) := LP3.out
  have S5 := hid (set5j_blk B1.out (.int .i64 2) (.int .i64 0) (.int .i64 wk) (.int .i64 tk) (.int .i64 un))
  have G5 := hid (set5j_grown w2 w.heap.size (.int .i64 2) (.int .i64 0) (.int .i64 wk) (.int .i64 tk) (.int .i64 un))
  have f0 := blk_frozen B1.out 0
  have f1 := blk_frozen B1.out 1
  have f2 := blk_frozen B1.out 2
  have f3 := blk_frozen B1.out 3
  have f4 := blk_frozen B1.out 4
  have f5 := blk_frozen B1.out 5
  have f6 := blk_frozen B1.out 6
  have f7 := blk_frozen B1.out 7
  have f8 := blk_frozen B1.out 8
  have f9 := blk_frozen B1.out 9
  go_upto_region 8 with fail
  generalize hW5 : World.setCell _ _ _ = W5
  rw [hW5] at S5 G5
  have U5 : Hid (Below w.heap.size w W5) := U1.out.grown G5.out U1.out.size (fun k hk => by simp at hk; omega)
  have R5 := hid (blk_grown R1.out G5.out (by simp))
  clear x0 x1 x2 x3 x4 x5 x6 x7 x8 x9
  clear f0 f1 f2 f3 f4 f5 f6 f7 f8 f9 hW5 R1 U1 B1 G5
  have x0 := blk_cell S5.out 0 _ rfl
  have x1 := blk_cell S5.out 1 _ rfl
  have x2 := blk_cell S5.out 2 _ rfl
  have x3 := blk_cell S5.out 3 _ rfl
  have x4 := blk_cell S5.out 4 _ rfl
  have x5 := blk_cell S5.out 5 _ rfl
  have x6 := blk_cell S5.out 6 _ rfl
  have x7 := blk_cell S5.out 7 _ rfl
  have x8 := blk_cell S5.out 8 _ rfl
  have x9 := blk_cell S5.out 9 _ rfl
  have rf0 := blk_frozen R5.out 0
  have rf1 := blk_frozen R5.out 1
  have rf2 := blk_frozen R5.out 2
  have rf3 := blk_frozen R5.out 3
  have rf4 := blk_frozen R5.out 4
  have rf5 := blk_frozen R5.out 5
  have rf6 := blk_frozen R5.out 6
  have rf7 := blk_frozen R5.out 7
  have rf8 := blk_frozen R5.out 8
  have rf9 := blk_frozen R5.out 9
  have ry0 := blk_cell R5.out 0 _ rfl
  have ry1 := blk_cell R5.out 1 _ rfl
  have ry2 := blk_cell R5.out 2 _ rfl
  have ry3 := blk_cell R5.out 3 _ rfl
  have ry4 := blk_cell R5.out 4 _ rfl
  have ry5 := blk_cell R5.out 5 _ rfl
  have ry6 := blk_cell R5.out 6 _ rfl
  have ry7 := blk_cell R5.out 7 _ rfl
  have ry8 := blk_cell R5.out 8 _ rfl
  have ry9 := blk_cell R5.out 9 _ rfl
  have FB := hid (set10_blk R5.out (.int .i64 j.id) (.string (strOfNums j.na)) (.string (strOfNums j.ru)) (.string (strOfNums j.pa)) (.int .i64 2) (.int .i64 0) (.int .i64 j.tr) (.int .i64 wk) (.int .i64 tk) (.int .i64 un))
  have FG := hid (set10_grown W5 (w.heap.size + 1) (.int .i64 j.id) (.string (strOfNums j.na)) (.string (strOfNums j.ru)) (.string (strOfNums j.pa)) (.int .i64 2) (.int .i64 0) (.int .i64 j.tr) (.int .i64 wk) (.int .i64 tk) (.int .i64 un))
  go_wp2_with fail
  refine bodyPost_ret (results_job2 rfl _ _ rfl FB.out) rfl ?_
  exact ⟨by rw [E.out]; rfl, U5.out.grown FG.out U5.out.size (fun k hk => by simp at hk; omega)⟩
set_option maxHeartbeats 4000000 in
set_option maxRecDepth 20000 in
theorem finish_any (j : Jb) (hj : j.ok) (now : Int) (w : World) : Calls Tryd.prog 22 #[jobV j, .int .i64 now] w fun e w' => e = .returned (.tuple #[jobV (finishP j now).1, .bool (finishP j now).2.1, .int .i64 (finishP j now).2.2]) ∧ Below w.heap.size w w' := by
  have HC := hid (checkJ_any j hj)
  have H7 := hid (within_any now 0 32503679999)
  have HA := hid (again_any j hj.ru now)
  have LP : Hid (finishP j now = if chkJ j ≠ 0 then (jb0, false, 9) else if j.st ≠ 2 then (jb0, false, 81) else if inB now 0 32503679999 then (if (againP j now).2 then ((againP j now).1, true, 0) else (jb0, false, 0)) else (jb0, false, 4)) := rfl
  obtain ⟨q0, q1, q2⟩ := boxes2 w (jobC j) (jobC jb0) 23 23
  have B0 := hid q0
  have R0 := hid q1
  have U0 := hid q2
  unfold jobC jb0 at U0 B0 R0
  clear q0 q1 q2 hj
  have jf := jobV_form j
  unfold jobC at jf
  rw [jf] at HC HA
  obtain ⟨L, hL⟩ : ∃ L, L = finishP j now := ⟨_, rfl⟩
  rw [← hL] at LP ⊢
  clear hL
  rw [jf]
  clear jf
  rcases chkJ_two j with hc | hc
  rotate_left
  · rw [hc] at HC
    have E : Hid (L = (jb0, false, 9)) := LP.out.trans (if_pos (by rw [hc]; simp))
    go_enter Tryd.func22, Tryd.ntmps22
    go_wp2_with fail
    refine (HC.out _).mono ?_
    rintro e w1 ⟨rfl, hb1⟩
    have R1 := hid (blk_up R0.out hb1)
    have B1 := hid (blk_up B0.out hb1)
    have U1 := hid (up_trans U0.out hb1)
    clear hb1 R0 B0 U0
    have rf0 := blk_frozen R1.out 0
    have rf1 := blk_frozen R1.out 1
    have rf2 := blk_frozen R1.out 2
    have rf3 := blk_frozen R1.out 3
    have rf4 := blk_frozen R1.out 4
    have rf5 := blk_frozen R1.out 5
    have rf6 := blk_frozen R1.out 6
    have rf7 := blk_frozen R1.out 7
    have rf8 := blk_frozen R1.out 8
    have rf9 := blk_frozen R1.out 9
    have ry0 := blk_cell R1.out 0 _ rfl
    have ry1 := blk_cell R1.out 1 _ rfl
    have ry2 := blk_cell R1.out 2 _ rfl
    have ry3 := blk_cell R1.out 3 _ rfl
    have ry4 := blk_cell R1.out 4 _ rfl
    have ry5 := blk_cell R1.out 5 _ rfl
    have ry6 := blk_cell R1.out 6 _ rfl
    have ry7 := blk_cell R1.out 7 _ rfl
    have ry8 := blk_cell R1.out 8 _ rfl
    have ry9 := blk_cell R1.out 9 _ rfl
    have FB := hid (set10_blk R1.out (.int .i64 0) (.string { data := #[] }) (.string { data := #[] }) (.string { data := #[] }) (.int .i64 0) (.int .i64 0) (.int .i64 0) (.int .i64 0) (.int .i64 0) (.int .i64 0))
    have FG := hid (set10_grown w1 (w.heap.size + 1) (.int .i64 0) (.string { data := #[] }) (.string { data := #[] }) (.string { data := #[] }) (.int .i64 0) (.int .i64 0) (.int .i64 0) (.int .i64 0) (.int .i64 0) (.int .i64 0))
    go_wp2_with fail
    refine bodyPost_ret (results_job3 rfl _ _ rfl FB.out) rfl ?_
    exact ⟨by rw [E.out]; rfl, U1.out.grown FG.out U1.out.size (fun k hk => by simp at hk; omega)⟩
  rw [hc] at HC
  have LP2 : Hid (L = if j.st ≠ 2 then (jb0, false, 81) else if inB now 0 32503679999 then (if (againP j now).2 then ((againP j now).1, true, 0) else (jb0, false, 0)) else (jb0, false, 4)) := LP.out.trans (if_neg (by rw [hc]; simp))
  clear LP hc
  by_cases hs : j.st = 2
  rotate_left
  · have hs1 : (j.st != 2) = true := by simpa using hs
    have E : Hid (L = (jb0, false, 81)) := LP2.out.trans (if_pos hs)
    go_enter Tryd.func22, Tryd.ntmps22
    go_wp2_with fail
    refine (HC.out _).mono ?_
    rintro e w1 ⟨rfl, hb1⟩
    have R1 := hid (blk_up R0.out hb1)
    have B1 := hid (blk_up B0.out hb1)
    have U1 := hid (up_trans U0.out hb1)
    clear hb1 R0 B0 U0
    clear hs
    have x0 := blk_cell B1.out 0 _ rfl
    have x1 := blk_cell B1.out 1 _ rfl
    have x2 := blk_cell B1.out 2 _ rfl
    have x3 := blk_cell B1.out 3 _ rfl
    have x4 := blk_cell B1.out 4 _ rfl
    have x5 := blk_cell B1.out 5 _ rfl
    have x6 := blk_cell B1.out 6 _ rfl
    have x7 := blk_cell B1.out 7 _ rfl
    have x8 := blk_cell B1.out 8 _ rfl
    have x9 := blk_cell B1.out 9 _ rfl
    have rf0 := blk_frozen R1.out 0
    have rf1 := blk_frozen R1.out 1
    have rf2 := blk_frozen R1.out 2
    have rf3 := blk_frozen R1.out 3
    have rf4 := blk_frozen R1.out 4
    have rf5 := blk_frozen R1.out 5
    have rf6 := blk_frozen R1.out 6
    have rf7 := blk_frozen R1.out 7
    have rf8 := blk_frozen R1.out 8
    have rf9 := blk_frozen R1.out 9
    have ry0 := blk_cell R1.out 0 _ rfl
    have ry1 := blk_cell R1.out 1 _ rfl
    have ry2 := blk_cell R1.out 2 _ rfl
    have ry3 := blk_cell R1.out 3 _ rfl
    have ry4 := blk_cell R1.out 4 _ rfl
    have ry5 := blk_cell R1.out 5 _ rfl
    have ry6 := blk_cell R1.out 6 _ rfl
    have ry7 := blk_cell R1.out 7 _ rfl
    have ry8 := blk_cell R1.out 8 _ rfl
    have ry9 := blk_cell R1.out 9 _ rfl
    have FB := hid (set10_blk R1.out (.int .i64 0) (.string { data := #[] }) (.string { data := #[] }) (.string { data := #[] }) (.int .i64 0) (.int .i64 0) (.int .i64 0) (.int .i64 0) (.int .i64 0) (.int .i64 0))
    have FG := hid (set10_grown w1 (w.heap.size + 1) (.int .i64 0) (.string { data := #[] }) (.string { data := #[] }) (.string { data := #[] }) (.int .i64 0) (.int .i64 0) (.int .i64 0) (.int .i64 0) (.int .i64 0) (.int .i64 0))
    go_wp2_with fail
    refine bodyPost_ret (results_job3 rfl _ _ rfl FB.out) rfl ?_
    exact ⟨by rw [E.out]; rfl, U1.out.grown FG.out U1.out.size (fun k hk => by simp at hk; omega)⟩
  have hs1 : (j.st != 2) = false := by simpa using hs
  have LP3 : Hid (L = if inB now 0 32503679999 then (if (againP j now).2 then ((againP j now).1, true, 0) else (jb0, false, 0)) else (jb0, false, 4)) := LP2.out.trans (if_neg (by simpa using hs))
  clear LP2 hs
  generalize inB now 0 32503679999 = a7 at *
  obtain ⟨K, hK⟩ : ∃ K, K = (againP j now).1 := ⟨_, rfl⟩
  rw [← hK] at HA LP3
  clear hK
  generalize (againP j now).2 = is at *
  unfold jobV at HA
  go_enter Tryd.func22, Tryd.ntmps22
  go_wp2_with fail
  refine (HC.out _).mono ?_
  rintro e w1 ⟨rfl, hb1⟩
  have R1 := hid (blk_up R0.out hb1)
  have B1 := hid (blk_up B0.out hb1)
  have U1 := hid (up_trans U0.out hb1)
  clear hb1 R0 B0 U0
  have x0 := blk_cell B1.out 0 _ rfl
  have x1 := blk_cell B1.out 1 _ rfl
  have x2 := blk_cell B1.out 2 _ rfl
  have x3 := blk_cell B1.out 3 _ rfl
  have x4 := blk_cell B1.out 4 _ rfl
  have x5 := blk_cell B1.out 5 _ rfl
  have x6 := blk_cell B1.out 6 _ rfl
  have x7 := blk_cell B1.out 7 _ rfl
  have x8 := blk_cell B1.out 8 _ rfl
  have x9 := blk_cell B1.out 9 _ rfl
  go_wp2_with fail
  refine (H7.out _).mono ?_
  rintro e w2 ⟨rfl, rfl⟩
  cases a7
  · have E : Hid (L = (jb0, false, 4)) := LP3.out
    have rf0 := blk_frozen R1.out 0
    have rf1 := blk_frozen R1.out 1
    have rf2 := blk_frozen R1.out 2
    have rf3 := blk_frozen R1.out 3
    have rf4 := blk_frozen R1.out 4
    have rf5 := blk_frozen R1.out 5
    have rf6 := blk_frozen R1.out 6
    have rf7 := blk_frozen R1.out 7
    have rf8 := blk_frozen R1.out 8
    have rf9 := blk_frozen R1.out 9
    have ry0 := blk_cell R1.out 0 _ rfl
    have ry1 := blk_cell R1.out 1 _ rfl
    have ry2 := blk_cell R1.out 2 _ rfl
    have ry3 := blk_cell R1.out 3 _ rfl
    have ry4 := blk_cell R1.out 4 _ rfl
    have ry5 := blk_cell R1.out 5 _ rfl
    have ry6 := blk_cell R1.out 6 _ rfl
    have ry7 := blk_cell R1.out 7 _ rfl
    have ry8 := blk_cell R1.out 8 _ rfl
    have ry9 := blk_cell R1.out 9 _ rfl
    have FB := hid (set10_blk R1.out (.int .i64 0) (.string { data := #[] }) (.string { data := #[] }) (.string { data := #[] }) (.int .i64 0) (.int .i64 0) (.int .i64 0) (.int .i64 0) (.int .i64 0) (.int .i64 0))
    have FG := hid (set10_grown w2 (w.heap.size + 1) (.int .i64 0) (.string { data := #[] }) (.string { data := #[] }) (.string { data := #[] }) (.int .i64 0) (.int .i64 0) (.int .i64 0) (.int .i64 0) (.int .i64 0) (.int .i64 0))
    go_wp2_with fail
    refine bodyPost_ret (results_job3 rfl _ _ rfl FB.out) rfl ?_
    exact ⟨by rw [E.out]; rfl, U1.out.grown FG.out U1.out.size (fun k hk => by simp at hk; omega)⟩
  go_wp2_with fail
  refine (HA.out _).mono ?_
  rintro e w3 ⟨rfl, hb3⟩
  have NK := blk_new w3 (.cells (jobC K) 23)
  unfold jobC at NK
  have R3 := hid (blk_up (blk_up R1.out hb3) (up_alloc w3 (.cells (jobC K) 23)))
  have U3 := hid (up_al (up_trans U1.out hb3) (.cells (jobC K) 23))
  unfold jobC at R3 U3
  clear x0 x1 x2 x3 x4 x5 x6 x7 x8 x9 hb3 R1 U1 B1
  cases is
  · have E : Hid (L = (jb0, false, 0)) := LP3.out
    have rf0 := blk_frozen R3.out 0
    have rf1 := blk_frozen R3.out 1
    have rf2 := blk_frozen R3.out 2
    have rf3 := blk_frozen R3.out 3
    have rf4 := blk_frozen R3.out 4
    have rf5 := blk_frozen R3.out 5
    have rf6 := blk_frozen R3.out 6
    have rf7 := blk_frozen R3.out 7
    have rf8 := blk_frozen R3.out 8
    have rf9 := blk_frozen R3.out 9
    have ry0 := blk_cell R3.out 0 _ rfl
    have ry1 := blk_cell R3.out 1 _ rfl
    have ry2 := blk_cell R3.out 2 _ rfl
    have ry3 := blk_cell R3.out 3 _ rfl
    have ry4 := blk_cell R3.out 4 _ rfl
    have ry5 := blk_cell R3.out 5 _ rfl
    have ry6 := blk_cell R3.out 6 _ rfl
    have ry7 := blk_cell R3.out 7 _ rfl
    have ry8 := blk_cell R3.out 8 _ rfl
    have ry9 := blk_cell R3.out 9 _ rfl
    have FB := hid (set10_blk R3.out (.int .i64 0) (.string { data := #[] }) (.string { data := #[] }) (.string { data := #[] }) (.int .i64 0) (.int .i64 0) (.int .i64 0) (.int .i64 0) (.int .i64 0) (.int .i64 0))
    have FG := hid (set10_grown (w3.alloc (.cells #[.int .i64 K.id, .string (strOfNums K.na), .string (strOfNums K.ru), .string (strOfNums K.pa), .int .i64 K.st, .int .i64 K.du, .int .i64 K.tr, .int .i64 K.wk, .int .i64 K.tk, .int .i64 K.un] 23)) (w.heap.size + 1) (.int .i64 0) (.string { data := #[] }) (.string { data := #[] }) (.string { data := #[] }) (.int .i64 0) (.int .i64 0) (.int .i64 0) (.int .i64 0) (.int .i64 0) (.int .i64 0))
    go_wp2_with fail
    refine bodyPost_ret (results_job3 rfl _ _ rfl FB.out) rfl ?_
    exact ⟨by rw [E.out]; rfl, U3.out.grown FG.out U3.out.size (fun k hk => by simp at hk; omega)⟩
  · have E : Hid (L = (K, true, 0)) := LP3.out
    have x0 := blk_cell NK 0 _ rfl
    have x1 := blk_cell NK 1 _ rfl
    have x2 := blk_cell NK 2 _ rfl
    have x3 := blk_cell NK 3 _ rfl
    have x4 := blk_cell NK 4 _ rfl
    have x5 := blk_cell NK 5 _ rfl
    have x6 := blk_cell NK 6 _ rfl
    have x7 := blk_cell NK 7 _ rfl
    have x8 := blk_cell NK 8 _ rfl
    have x9 := blk_cell NK 9 _ rfl
    have rf0 := blk_frozen R3.out 0
    have rf1 := blk_frozen R3.out 1
    have rf2 := blk_frozen R3.out 2
    have rf3 := blk_frozen R3.out 3
    have rf4 := blk_frozen R3.out 4
    have rf5 := blk_frozen R3.out 5
    have rf6 := blk_frozen R3.out 6
    have rf7 := blk_frozen R3.out 7
    have rf8 := blk_frozen R3.out 8
    have rf9 := blk_frozen R3.out 9
    have ry0 := blk_cell R3.out 0 _ rfl
    have ry1 := blk_cell R3.out 1 _ rfl
    have ry2 := blk_cell R3.out 2 _ rfl
    have ry3 := blk_cell R3.out 3 _ rfl
    have ry4 := blk_cell R3.out 4 _ rfl
    have ry5 := blk_cell R3.out 5 _ rfl
    have ry6 := blk_cell R3.out 6 _ rfl
    have ry7 := blk_cell R3.out 7 _ rfl
    have ry8 := blk_cell R3.out 8 _ rfl
    have ry9 := blk_cell R3.out 9 _ rfl
    have FB := hid (set10_blk R3.out (.int .i64 K.id) (.string (strOfNums K.na)) (.string (strOfNums K.ru)) (.string (strOfNums K.pa)) (.int .i64 K.st) (.int .i64 K.du) (.int .i64 K.tr) (.int .i64 K.wk) (.int .i64 K.tk) (.int .i64 K.un))
    have FG := hid (set10_grown (w3.alloc (.cells #[.int .i64 K.id, .string (strOfNums K.na), .string (strOfNums K.ru), .string (strOfNums K.pa), .int .i64 K.st, .int .i64 K.du, .int .i64 K.tr, .int .i64 K.wk, .int .i64 K.tk, .int .i64 K.un] 23)) (w.heap.size + 1) (.int .i64 K.id) (.string (strOfNums K.na)) (.string (strOfNums K.ru)) (.string (strOfNums K.pa)) (.int .i64 K.st) (.int .i64 K.du) (.int .i64 K.tr) (.int .i64 K.wk) (.int .i64 K.tk) (.int .i64 K.un))
    go_wp2_with fail
    refine bodyPost_ret (results_job3 rfl _ _ rfl FB.out) rfl ?_
    exact ⟨by rw [E.out]; rfl, U3.out.grown FG.out U3.out.size (fun k hk => by simp at hk; omega)⟩
end Go.Proofs.YtpjmieiajhhbaaaDoor
