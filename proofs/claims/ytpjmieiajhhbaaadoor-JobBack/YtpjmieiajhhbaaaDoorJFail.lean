/- The document's Fail. -/
import Derived.Test.YtpjmieiajhhbaaaDoorJLea
namespace Go.Proofs.YtpjmieiajhhbaaaDoor
open Go.RowKit
set_option linter.unusedVariables false
set_option linter.unusedSimpArgs false

/-- What becomes of a leased job that failed so often. -/
noncomputable def failB (k : Jb) (b c n now : Int) : Jb × Int := if k.tr < n ∧ (dueP b c n now (k.tr - 1)).2 = 0 then (freeP k 1 (dueP b c n now (k.tr - 1)).1, 0) else if (againP k now).2 then ((againP k now).1, 0) else (freeP { k with ru := [] } 3 now, 0)
def upTr (t : Int) : Int := if t < 16 then t + 1 else 16
noncomputable def failP (j : Jb) (b c n now : Int) : Jb × Int := if chkJ j ≠ 0 then (jb0, 9) else if chkP b c n ≠ 0 then (jb0, 4) else if j.st ≠ 2 then (jb0, 81) else if inB now 0 32503679999 then failB { j with tr := upTr j.tr } b c n now else (jb0, 4)
theorem chkP_two (b c n : Int) : chkP b c n = 0 ∨ chkP b c n = 4 := by
  unfold chkP
  split
  · exact .inl rfl
  · exact .inr rfl
theorem chkJ_tr {j : Jb} (h : chkJ j = 0) : 0 ≤ j.tr ∧ j.tr ≤ 16 := by
  unfold chkJ at h
  have h : (chkA j && (chkR j && chkL j)) = true := Classical.byContradiction fun q => by rw [if_neg q] at h; cases h
  rw [Bool.and_eq_true] at h
  have h := h.1
  unfold chkA at h
  simp only [Bool.and_eq_true] at h
  exact inB_iff.1 h.2.2.2.2.2
/-- The boxes of a job, of limits, of a result, as they are laid. -/
theorem boxes3 (w : World) (a b c : Array Value) (s t u : TypeId) : (((w.alloc (.cells a s)).alloc (.cells b t)).alloc (.cells c u)).heap[w.heap.size]? = some (.cells a s) ∧ (((w.alloc (.cells a s)).alloc (.cells b t)).alloc (.cells c u)).heap[w.heap.size + 1]? = some (.cells b t) ∧ (((w.alloc (.cells a s)).alloc (.cells b t)).alloc (.cells c u)).heap[w.heap.size + 2]? = some (.cells c u) ∧ Below w.heap.size w (((w.alloc (.cells a s)).alloc (.cells b t)).alloc (.cells c u)) := by
  obtain ⟨h0, h1, h2⟩ := boxes2 w a b s t
  refine ⟨blk_up h0 (up_alloc _ _), blk_up h1 (up_alloc _ _), ?_, up_al h2 _⟩
  have h : ((w.alloc (.cells a s)).alloc (.cells b t)).heap.size = w.heap.size + 2 := by simp
  rw [← h]
  exact blk_new _ _
set_option maxHeartbeats 8000000 in
set_option maxRecDepth 20000 in
theorem fail_any (j : Jb) (hj : j.ok) (b c n now : Int) (w : World) : Calls Tryd.prog 20 #[jobV j, limV b c n, .int .i64 now] w fun e w' => e = .returned (.tuple #[jobV (failP j b c n now).1, .int .i64 (failP j b c n now).2]) ∧ Below w.heap.size w w' := by
  have HC := hid (checkJ_any j hj)
  have HB := hid (checkB_any b c n)
  have H7 := hid (within_any now 0 32503679999)
  have HD := hid (dueB_any b c n now (upTr j.tr - 1))
  have HA := hid (again_any { j with tr := upTr j.tr } hj.ru now)
  have HF1 := hid (free_any { j with tr := upTr j.tr } 1 (dueP b c n now (upTr j.tr - 1)).1)
  have HF3 := hid (free_any { j with tr := upTr j.tr, ru := [] } 3 now)
  have LP : Hid (failP j b c n now = if chkJ j ≠ 0 then (jb0, 9) else if chkP b c n ≠ 0 then (jb0, 4) else if j.st ≠ 2 then (jb0, 81) else if inB now 0 32503679999 then (if upTr j.tr < n ∧ (dueP b c n now (upTr j.tr - 1)).2 = 0 then (freeP { j with tr := upTr j.tr } 1 (dueP b c n now (upTr j.tr - 1)).1, 0) else if (againP { j with tr := upTr j.tr } now).2 then ((againP { j with tr := upTr j.tr } now).1, 0) else (freeP { j with tr := upTr j.tr, ru := [] } 3 now, 0)) else (jb0, 4)) := rfl
  obtain ⟨q0, q1, q2, q3⟩ := boxes3 w (jobC j) #[.int .i64 b, .int .i64 c, .int .i64 n] (jobC jb0) 23 40 23
  have B0 := hid q0
  have L0 := hid q1
  have R0 := hid q2
  have U0 := hid q3
  unfold jobC jb0 at U0 B0 R0 L0
  clear q0 q1 q2 q3 hj
  have jf := jobV_form j
  unfold jobC at jf
  have lf : limV b c n = .agg #[.int .i64 b, .int .i64 c, .int .i64 n] := rfl
  rw [jf] at HC
  rw [lf] at HB HD
  unfold retD at HD
  obtain ⟨F, hF⟩ : ∃ F, F = failP j b c n now := ⟨_, rfl⟩
  rw [← hF] at LP ⊢
  clear hF
  rw [jf, lf]
  clear jf lf
  have tr01 := fun h => chkJ_tr (j := j) h
  obtain ⟨K, hK⟩ : ∃ K, K = (againP { j with tr := upTr j.tr } now).1 := ⟨_, rfl⟩
  rw [← hK] at HA LP
  clear hK
  obtain ⟨is, hI⟩ : ∃ is, is = (againP { j with tr := upTr j.tr } now).2 := ⟨_, rfl⟩
  rw [← hI] at HA LP
  clear hI
  unfold jobV at HA HF1 HF3
  dsimp only at HA HF1 HF3
  obtain ⟨T, hT⟩ : ∃ T, T = upTr j.tr := ⟨_, rfl⟩
  rw [← hT] at HA HF1 HF3 HD LP
  generalize (dueP b c n now (T - 1)).1 = d1 at *
  generalize (dueP b c n now (T - 1)).2 = d2 at *
  go_enter Tryd.func20, Tryd.ntmps20
  go_wp2_with fail
  refine (HB.out _).mono ?_
  rintro e w1 ⟨rfl, hb1⟩
  have R1 := hid (blk_up R0.out hb1)
  have B1 := hid (blk_up B0.out hb1)
  have L1 := hid (blk_up L0.out hb1)
  have U1 := hid (up_trans U0.out hb1)
  clear hb1 R0 B0 U0 L0
  have x0 := blk_cell B1.out 0 _ rfl
  have x1 := blk_cell B1.out 1 _ rfl
  have x2 := blk_cell B1.out 2 _ rfl
  have x3 := blk_cell B1.out 3 _ rfl
  have x4 := blk_cell B1.out 4 _ rfl
  have x5 := blk_cell B1.out 5 _ rfl
  have x6 := blk_cell B1.out 6 _ rfl
  have x7 := blk_cell B1.out 7 _ rfl
  have x8 := blk_cell B1.out 8 _ rfl
  have x9 := blk_cell B1.out 9 _ rfl
  go_wp2_with fail
  refine (HC.out _).mono ?_
  rintro e w2 ⟨rfl, hb2⟩
  have R2 := hid (blk_up R1.out hb2)
  have B2 := hid (blk_up B1.out hb2)
  have L2 := hid (blk_up L1.out hb2)
  have U2 := hid (up_trans U1.out hb2)
  clear hb2 R1 B1 U1 L1
  clear x0 x1 x2 x3 x4 x5 x6 x7 x8 x9
  rcases chkJ_two j with hc | hc
  rotate_left
  · have E : Hid (F = (jb0, 9)) := LP.out.trans (if_pos (by rw [hc]; simp))
    rw [hc]
    clear tr01
    have rf0 := blk_frozen R2.out 0
    have rf1 := blk_frozen R2.out 1
    have rf2 := blk_frozen R2.out 2
    have rf3 := blk_frozen R2.out 3
    have rf4 := blk_frozen R2.out 4
    have rf5 := blk_frozen R2.out 5
    have rf6 := blk_frozen R2.out 6
    have rf7 := blk_frozen R2.out 7
    have rf8 := blk_frozen R2.out 8
    have rf9 := blk_frozen R2.out 9
    have ry0 := blk_cell R2.out 0 _ rfl
    have ry1 := blk_cell R2.out 1 _ rfl
    have ry2 := blk_cell R2.out 2 _ rfl
    have ry3 := blk_cell R2.out 3 _ rfl
    have ry4 := blk_cell R2.out 4 _ rfl
    have ry5 := blk_cell R2.out 5 _ rfl
    have ry6 := blk_cell R2.out 6 _ rfl
    have ry7 := blk_cell R2.out 7 _ rfl
    have ry8 := blk_cell R2.out 8 _ rfl
    have ry9 := blk_cell R2.out 9 _ rfl
    have FB := hid (set10_blk R2.out (.int .i64 0) (.string { data := #[] }) (.string { data := #[] }) (.string { data := #[] }) (.int .i64 0) (.int .i64 0) (.int .i64 0) (.int .i64 0) (.int .i64 0) (.int .i64 0))
    have FG := hid (set10_grown w2 (w.heap.size + 2) (.int .i64 0) (.string { data := #[] }) (.string { data := #[] }) (.string { data := #[] }) (.int .i64 0) (.int .i64 0) (.int .i64 0) (.int .i64 0) (.int .i64 0) (.int .i64 0))
    go_wp2_with fail
    refine bodyPost_ret (results_job2 rfl _ _ rfl FB.out) rfl ?_
    exact ⟨by rw [E.out]; rfl, U2.out.grown FG.out U2.out.size (fun k hk => by simp at hk; omega)⟩
  rw [hc]
  obtain ⟨tr0, tr1⟩ := tr01 hc
  have LP1 := hid (LP.out.trans (if_neg (by rw [hc]; simp)))
  clear LP hc tr01
  rcases chkP_two b c n with hc | hc
  rotate_left
  · have E : Hid (F = (jb0, 4)) := LP1.out.trans (if_pos (by rw [hc]; simp))
    rw [hc]
    have rf0 := blk_frozen R2.out 0
    have rf1 := blk_frozen R2.out 1
    have rf2 := blk_frozen R2.out 2
    have rf3 := blk_frozen R2.out 3
    have rf4 := blk_frozen R2.out 4
    have rf5 := blk_frozen R2.out 5
    have rf6 := blk_frozen R2.out 6
    have rf7 := blk_frozen R2.out 7
    have rf8 := blk_frozen R2.out 8
    have rf9 := blk_frozen R2.out 9
    have ry0 := blk_cell R2.out 0 _ rfl
    have ry1 := blk_cell R2.out 1 _ rfl
    have ry2 := blk_cell R2.out 2 _ rfl
    have ry3 := blk_cell R2.out 3 _ rfl
    have ry4 := blk_cell R2.out 4 _ rfl
    have ry5 := blk_cell R2.out 5 _ rfl
    have ry6 := blk_cell R2.out 6 _ rfl
    have ry7 := blk_cell R2.out 7 _ rfl
    have ry8 := blk_cell R2.out 8 _ rfl
    have ry9 := blk_cell R2.out 9 _ rfl
    have FB := hid (set10_blk R2.out (.int .i64 0) (.string { data := #[] }) (.string { data := #[] }) (.string { data := #[] }) (.int .i64 0) (.int .i64 0) (.int .i64 0) (.int .i64 0) (.int .i64 0) (.int .i64 0))
    have FG := hid (set10_grown w2 (w.heap.size + 2) (.int .i64 0) (.string { data := #[] }) (.string { data := #[] }) (.string { data := #[] }) (.int .i64 0) (.int .i64 0) (.int .i64 0) (.int .i64 0) (.int .i64 0) (.int .i64 0))
    go_wp2_with fail
    refine bodyPost_ret (results_job2 rfl _ _ rfl FB.out) rfl ?_
    exact ⟨by rw [E.out]; rfl, U2.out.grown FG.out U2.out.size (fun k hk => by simp at hk; omega)⟩
  rw [hc]
  have LP2 := hid (LP1.out.trans (if_neg (by rw [hc]; simp)))
  clear LP1 hc
  by_cases hs : j.st = 2
  rotate_left
  · have hs1 : (j.st != 2) = true := by simpa using hs
    have E : Hid (F = (jb0, 81)) := LP2.out.trans (if_pos hs)
    clear hs
    have x0 := blk_cell B2.out 0 _ rfl
    have x1 := blk_cell B2.out 1 _ rfl
    have x2 := blk_cell B2.out 2 _ rfl
    have x3 := blk_cell B2.out 3 _ rfl
    have x4 := blk_cell B2.out 4 _ rfl
    have x5 := blk_cell B2.out 5 _ rfl
    have x6 := blk_cell B2.out 6 _ rfl
    have x7 := blk_cell B2.out 7 _ rfl
    have x8 := blk_cell B2.out 8 _ rfl
    have x9 := blk_cell B2.out 9 _ rfl
    have rf0 := blk_frozen R2.out 0
    have rf1 := blk_frozen R2.out 1
    have rf2 := blk_frozen R2.out 2
    have rf3 := blk_frozen R2.out 3
    have rf4 := blk_frozen R2.out 4
    have rf5 := blk_frozen R2.out 5
    have rf6 := blk_frozen R2.out 6
    have rf7 := blk_frozen R2.out 7
    have rf8 := blk_frozen R2.out 8
    have rf9 := blk_frozen R2.out 9
    have ry0 := blk_cell R2.out 0 _ rfl
    have ry1 := blk_cell R2.out 1 _ rfl
    have ry2 := blk_cell R2.out 2 _ rfl
    have ry3 := blk_cell R2.out 3 _ rfl
    have ry4 := blk_cell R2.out 4 _ rfl
    have ry5 := blk_cell R2.out 5 _ rfl
    have ry6 := blk_cell R2.out 6 _ rfl
    have ry7 := blk_cell R2.out 7 _ rfl
    have ry8 := blk_cell R2.out 8 _ rfl
    have ry9 := blk_cell R2.out 9 _ rfl
    have FB := hid (set10_blk R2.out (.int .i64 0) (.string { data := #[] }) (.string { data := #[] }) (.string { data := #[] }) (.int .i64 0) (.int .i64 0) (.int .i64 0) (.int .i64 0) (.int .i64 0) (.int .i64 0))
    have FG := hid (set10_grown w2 (w.heap.size + 2) (.int .i64 0) (.string { data := #[] }) (.string { data := #[] }) (.string { data := #[] }) (.int .i64 0) (.int .i64 0) (.int .i64 0) (.int .i64 0) (.int .i64 0) (.int .i64 0))
    go_wp2_with fail
    refine bodyPost_ret (results_job2 rfl _ _ rfl FB.out) rfl ?_
    exact ⟨by rw [E.out]; rfl, U2.out.grown FG.out U2.out.size (fun k hk => by simp at hk; omega)⟩
  have hs1 : (j.st != 2) = false := by simpa using hs
  have LP3 := hid (LP2.out.trans (if_neg (by simpa using hs)))
  clear LP2 hs
  have x0 := blk_cell B2.out 0 _ rfl
  have x1 := blk_cell B2.out 1 _ rfl
  have x2 := blk_cell B2.out 2 _ rfl
  have x3 := blk_cell B2.out 3 _ rfl
  have x4 := blk_cell B2.out 4 _ rfl
  have x5 := blk_cell B2.out 5 _ rfl
  have x6 := blk_cell B2.out 6 _ rfl
  have x7 := blk_cell B2.out 7 _ rfl
  have x8 := blk_cell B2.out 8 _ rfl
  have x9 := blk_cell B2.out 9 _ rfl
  generalize inB now 0 32503679999 = a7 at *
  go_wp2_with fail
  refine (H7.out _).mono ?_
  rintro e w3 ⟨rfl, rfl⟩
  cases a7
  · have E : Hid (F = (jb0, 4)) := LP3.out
    have rf0 := blk_frozen R2.out 0
    have rf1 := blk_frozen R2.out 1
    have rf2 := blk_frozen R2.out 2
    have rf3 := blk_frozen R2.out 3
    have rf4 := blk_frozen R2.out 4
    have rf5 := blk_frozen R2.out 5
    have rf6 := blk_frozen R2.out 6
    have rf7 := blk_frozen R2.out 7
    have rf8 := blk_frozen R2.out 8
    have rf9 := blk_frozen R2.out 9
    have ry0 := blk_cell R2.out 0 _ rfl
    have ry1 := blk_cell R2.out 1 _ rfl
    have ry2 := blk_cell R2.out 2 _ rfl
    have ry3 := blk_cell R2.out 3 _ rfl
    have ry4 := blk_cell R2.out 4 _ rfl
    have ry5 := blk_cell R2.out 5 _ rfl
    have ry6 := blk_cell R2.out 6 _ rfl
    have ry7 := blk_cell R2.out 7 _ rfl
    have ry8 := blk_cell R2.out 8 _ rfl
    have ry9 := blk_cell R2.out 9 _ rfl
    have FB := hid (set10_blk R2.out (.int .i64 0) (.string { data := #[] }) (.string { data := #[] }) (.string { data := #[] }) (.int .i64 0) (.int .i64 0) (.int .i64 0) (.int .i64 0) (.int .i64 0) (.int .i64 0))
    have FG := hid (set10_grown w3 (w.heap.size + 2) (.int .i64 0) (.string { data := #[] }) (.string { data := #[] }) (.string { data := #[] }) (.int .i64 0) (.int .i64 0) (.int .i64 0) (.int .i64 0) (.int .i64 0) (.int .i64 0))
    go_wp2_with fail
    refine bodyPost_ret (results_job2 rfl _ _ rfl FB.out) rfl ?_
    exact ⟨by rw [E.out]; rfl, U2.out.grown FG.out U2.out.size (fun k hk => by simp at hk; omega)⟩
  have LP4 : Hid (F = if T < n ∧ d2 = 0 then (freeP { j with tr := T } 1 d1, 0) else if is then (K, 0) else (freeP { j with tr := T, ru := [] } 3 now, 0)) := LP3.out
  clear LP3
  have f6 := blk_frozen B2.out 6
  have S6 := hid (blk_set B2.out 6 (.int .i64 T))
  have G6 := hid (grown_set w3 ⟨w.heap.size, 6, none⟩ (.int .i64 T))
  have T0 : 1 ≤ T ∧ T ≤ 16 := by
    rw [hT]
    unfold upTr
    split <;> omega
  go_upto_region 10 with fail
  go_cut [] from 13 (fun wx => wx = w3.setCell ⟨w.heap.size, 6, none⟩ (.int .i64 T))
  case first =>
    by_cases ht : j.tr < 16
    · have hT2 : T = j.tr + 1 := by rw [hT]; exact if_pos ht
      subst hT2
      have m1 : ¬ 16 < j.tr + 1 := by omega
      have m2 : j.tr + 1 ≤ 16 := by omega
      clear hT
      go_wp2_with fail
      go_meet
      case rel => rfl
    · have hT2 : T = 16 := by rw [hT]; exact if_neg ht
      subst hT2
      have m1 : 16 < j.tr + 1 := by omega
      have m2 : ¬ j.tr + 1 ≤ 16 := by omega
      clear hT
      go_wp2_with fail
      go_meet
      case rel => rfl
  case rest =>
  subst hcut
  clear hT
  generalize hW5 : World.setCell _ _ _ = W5
  rw [hW5] at S6 G6
  have U5 : Hid (Below w.heap.size w W5) := U2.out.grown G6.out U2.out.size (fun k hk => by simp at hk; omega)
  have R5 := hid (blk_grown R2.out G6.out (by simp))
  have L5 := hid (blk_grown L2.out G6.out (by simp))
  have b5 := S6.out
  simp only [List.setIfInBounds_toArray, List.set_cons_zero, List.set_cons_succ] at b5
  have B5 := hid b5

  clear b5 S6 G6 hW5 f6 B2 R2 U2 L2 x0 x1 x2 x3 x4 x5 x6 x7 x8 x9
  clear HC HB H7 hs1
  have x0 := blk_cell B5.out 0 _ rfl
  have x1 := blk_cell B5.out 1 _ rfl
  have x2 := blk_cell B5.out 2 _ rfl
  have x3 := blk_cell B5.out 3 _ rfl
  have x4 := blk_cell B5.out 4 _ rfl
  have x5 := blk_cell B5.out 5 _ rfl
  have x6 := blk_cell B5.out 6 _ rfl
  have x7 := blk_cell B5.out 7 _ rfl
  have x8 := blk_cell B5.out 8 _ rfl
  have x9 := blk_cell B5.out 9 _ rfl
  have l0 := blk_cell L5.out 0 _ rfl
  have l1 := blk_cell L5.out 1 _ rfl
  have l2 := blk_cell L5.out 2 _ rfl
  go_wp2_with fail
  refine (HD.out _).mono ?_
  rintro e w6 ⟨rfl, hb6⟩
  have R6 := hid (blk_up R5.out hb6)
  have B6 := hid (blk_up B5.out hb6)
  have L6 := hid (blk_up L5.out hb6)
  have U6 := hid (up_trans U5.out hb6)
  clear hb6 R5 B5 L5 U5 l0 l1 l2 HD
  clear x0 x1 x2 x3 x4 x5 x6 x7 x8 x9
  have x0 := blk_cell B6.out 0 _ rfl
  have x1 := blk_cell B6.out 1 _ rfl
  have x2 := blk_cell B6.out 2 _ rfl
  have x3 := blk_cell B6.out 3 _ rfl
  have x4 := blk_cell B6.out 4 _ rfl
  have x5 := blk_cell B6.out 5 _ rfl
  have x6 := blk_cell B6.out 6 _ rfl
  have x7 := blk_cell B6.out 7 _ rfl
  have x8 := blk_cell B6.out 8 _ rfl
  have x9 := blk_cell B6.out 9 _ rfl
  have l0 := blk_cell L6.out 0 _ rfl
  have l1 := blk_cell L6.out 1 _ rfl
  have l2 := blk_cell L6.out 2 _ rfl
  by_cases hg : T < n ∧ d2 = 0
  · obtain ⟨hg1, hg2⟩ := hg
    have E : Hid (F = (freeP { j with tr := T } 1 d1, 0)) := LP4.out.trans (if_pos ⟨hg1, hg2⟩)
    have hg3 : (d2 == 0) = true := by simpa using hg2
    clear LP4 hg2 HA HF3
    go_wp2_with fail
    refine (HF1.out _).mono ?_
    rintro e w7 ⟨rfl, hb7⟩
    have R7 := hid (blk_up R6.out hb7)
    have U7 := hid (up_trans U6.out hb7)
    clear hb7 R6 U6 B6 L6 l0 l1 l2
    unfold freeP
    dsimp only
    clear x0 x1 x2 x3 x4 x5 x6 x7 x8 x9
    have rf0 := blk_frozen R7.out 0
    have rf1 := blk_frozen R7.out 1
    have rf2 := blk_frozen R7.out 2
    have rf3 := blk_frozen R7.out 3
    have rf4 := blk_frozen R7.out 4
    have rf5 := blk_frozen R7.out 5
    have rf6 := blk_frozen R7.out 6
    have rf7 := blk_frozen R7.out 7
    have rf8 := blk_frozen R7.out 8
    have rf9 := blk_frozen R7.out 9
    have ry0 := blk_cell R7.out 0 _ rfl
    have ry1 := blk_cell R7.out 1 _ rfl
    have ry2 := blk_cell R7.out 2 _ rfl
    have ry3 := blk_cell R7.out 3 _ rfl
    have ry4 := blk_cell R7.out 4 _ rfl
    have ry5 := blk_cell R7.out 5 _ rfl
    have ry6 := blk_cell R7.out 6 _ rfl
    have ry7 := blk_cell R7.out 7 _ rfl
    have ry8 := blk_cell R7.out 8 _ rfl
    have ry9 := blk_cell R7.out 9 _ rfl
    have FB := hid (set10_blk R7.out (.int .i64 j.id) (.string (strOfNums j.na)) (.string (strOfNums j.ru)) (.string (strOfNums j.pa)) (.int .i64 1) (.int .i64 d1) (.int .i64 T) (.int .i64 0) (.int .i64 0) (.int .i64 0))
    have FG := hid (set10_grown w7 (w.heap.size + 2) (.int .i64 j.id) (.string (strOfNums j.na)) (.string (strOfNums j.ru)) (.string (strOfNums j.pa)) (.int .i64 1) (.int .i64 d1) (.int .i64 T) (.int .i64 0) (.int .i64 0) (.int .i64 0))
    go_wp2_with fail
    refine bodyPost_ret (results_job2 rfl _ _ rfl FB.out) rfl ?_
    exact ⟨by rw [E.out]; rfl, U7.out.grown FG.out U7.out.size (fun k hk => by simp at hk; omega)⟩
  have E0 := hid (LP4.out.trans (if_neg hg))
  clear LP4 HF1
  go_upto_region 12 with fail
  go_cut [57] from 13 (fun v wx => v = .bool false ∧ w6 = wx)
  case first =>
    by_cases h1 : T < n
    · have h2 : (d2 == 0) = false := by
        have : ¬ d2 = 0 := fun q => hg ⟨h1, q⟩
        simpa using this
      clear hg
      go_wp2_with fail
      go_meet
      case rel => exact ⟨rfl, rfl⟩
    · clear hg
      go_wp2_with fail
      go_meet
      case rel => exact ⟨rfl, rfl⟩
  case rest =>
  obtain ⟨rfl, rfl⟩ := hcut
  clear hg l0 l1 l2 L6
  go_wp2_with fail
  refine (HA.out _).mono ?_
  rintro e w7 ⟨rfl, hb7⟩
  have NK := blk_new w7 (.cells (jobC K) 23)
  have R7 := hid (blk_up (blk_up R6.out hb7) (up_alloc w7 (.cells (jobC K) 23)))
  have B7 := hid (blk_up (blk_up B6.out hb7) (up_alloc w7 (.cells (jobC K) 23)))
  have U7 := hid (up_al (up_trans U6.out hb7) (.cells (jobC K) 23))
  unfold jobC at NK R7 B7 U7
  clear x0 x1 x2 x3 x4 x5 x6 x7 x8 x9 hb7 R6 B6 U6
  cases is
  rotate_left
  · have E : Hid (F = (K, 0)) := E0.out
    have x0 := blk_cell NK 0 _ rfl
    have x1 := blk_cell NK 1 _ rfl
    have x2 := blk_cell NK 2 _ rfl
    have x3 := blk_cell NK 3 _ rfl
    have x4 := blk_cell NK 4 _ rfl
    have x5 := blk_cell NK 5 _ rfl
    have x6 := blk_cell NK 6 _ rfl
    have x7 := blk_cell NK 7 _ rfl
    have x8 := blk_cell NK 8 _ rfl
    have x9 := blk_cell NK 9 _ rfl
    have rf0 := blk_frozen R7.out 0
    have rf1 := blk_frozen R7.out 1
    have rf2 := blk_frozen R7.out 2
    have rf3 := blk_frozen R7.out 3
    have rf4 := blk_frozen R7.out 4
    have rf5 := blk_frozen R7.out 5
    have rf6 := blk_frozen R7.out 6
    have rf7 := blk_frozen R7.out 7
    have rf8 := blk_frozen R7.out 8
    have rf9 := blk_frozen R7.out 9
    have ry0 := blk_cell R7.out 0 _ rfl
    have ry1 := blk_cell R7.out 1 _ rfl
    have ry2 := blk_cell R7.out 2 _ rfl
    have ry3 := blk_cell R7.out 3 _ rfl
    have ry4 := blk_cell R7.out 4 _ rfl
    have ry5 := blk_cell R7.out 5 _ rfl
    have ry6 := blk_cell R7.out 6 _ rfl
    have ry7 := blk_cell R7.out 7 _ rfl
    have ry8 := blk_cell R7.out 8 _ rfl
    have ry9 := blk_cell R7.out 9 _ rfl
    have FB := hid (set10_blk R7.out (.int .i64 K.id) (.string (strOfNums K.na)) (.string (strOfNums K.ru)) (.string (strOfNums K.pa)) (.int .i64 K.st) (.int .i64 K.du) (.int .i64 K.tr) (.int .i64 K.wk) (.int .i64 K.tk) (.int .i64 K.un))
    have FG := hid (set10_grown (w7.alloc (.cells #[.int .i64 K.id, .string (strOfNums K.na), .string (strOfNums K.ru), .string (strOfNums K.pa), .int .i64 K.st, .int .i64 K.du, .int .i64 K.tr, .int .i64 K.wk, .int .i64 K.tk, .int .i64 K.un] 23)) (w.heap.size + 2) (.int .i64 K.id) (.string (strOfNums K.na)) (.string (strOfNums K.ru)) (.string (strOfNums K.pa)) (.int .i64 K.st) (.int .i64 K.du) (.int .i64 K.tr) (.int .i64 K.wk) (.int .i64 K.tk) (.int .i64 K.un))
    go_wp2_with fail
    refine bodyPost_ret (results_job2 rfl _ _ rfl FB.out) rfl ?_
    exact ⟨by rw [E.out]; rfl, U7.out.grown FG.out U7.out.size (fun k hk => by simp at hk; omega)⟩
  have E : Hid (F = (freeP { j with tr := T, ru := [] } 3 now, 0)) := E0.out
  clear E0 HA NK
  have x0 := blk_cell B7.out 0 _ rfl
  have x1 := blk_cell B7.out 1 _ rfl
  have x2 := blk_cell B7.out 2 _ rfl
  have x3 := blk_cell B7.out 3 _ rfl
  have x4 := blk_cell B7.out 4 _ rfl
  have x5 := blk_cell B7.out 5 _ rfl
  have x6 := blk_cell B7.out 6 _ rfl
  have x7 := blk_cell B7.out 7 _ rfl
  have x8 := blk_cell B7.out 8 _ rfl
  have x9 := blk_cell B7.out 9 _ rfl
  have f2 := blk_frozen B7.out 2
  have S8 := hid (blk_set B7.out 2 (.string { data := #[] }))
  have G8 := hid (grown_set (w7.alloc (.cells #[.int .i64 K.id, .string (strOfNums K.na), .string (strOfNums K.ru), .string (strOfNums K.pa), .int .i64 K.st, .int .i64 K.du, .int .i64 K.tr, .int .i64 K.wk, .int .i64 K.tk, .int .i64 K.un] 23)) ⟨w.heap.size, 2, none⟩ (.string { data := #[] }))
  go_upto_region 18 with fail
  generalize hW8 : World.setCell _ _ _ = W8
  rw [hW8] at S8 G8
  have U8 : Hid (Below w.heap.size w W8) := U7.out.grown G8.out U7.out.size (fun k hk => by simp at hk; omega)
  have R8 := hid (blk_grown R7.out G8.out (by simp))
  have b8 := S8.out
  simp only [List.setIfInBounds_toArray, List.set_cons_zero, List.set_cons_succ] at b8
  have B8 := hid b8
  clear b8 S8 G8 hW8 f2 R7 U7 B7
  clear x0 x1 x2 x3 x4 x5 x6 x7 x8 x9
  have x0 := blk_cell B8.out 0 _ rfl
  have x1 := blk_cell B8.out 1 _ rfl
  have x2 := blk_cell B8.out 2 _ rfl
  have x3 := blk_cell B8.out 3 _ rfl
  have x4 := blk_cell B8.out 4 _ rfl
  have x5 := blk_cell B8.out 5 _ rfl
  have x6 := blk_cell B8.out 6 _ rfl
  have x7 := blk_cell B8.out 7 _ rfl
  have x8 := blk_cell B8.out 8 _ rfl
  have x9 := blk_cell B8.out 9 _ rfl
  go_wp2_with fail
  refine (HF3.out _).mono ?_
  rintro e w9 ⟨rfl, hb9⟩
  have R9 := hid (blk_up R8.out hb9)
  have U9 := hid (up_trans U8.out hb9)
  unfold freeP
  dsimp only
  clear x0 x1 x2 x3 x4 x5 x6 x7 x8 x9 hb9 R8 U8 B8
  have rf0 := blk_frozen R9.out 0
  have rf1 := blk_frozen R9.out 1
  have rf2 := blk_frozen R9.out 2
  have rf3 := blk_frozen R9.out 3
  have rf4 := blk_frozen R9.out 4
  have rf5 := blk_frozen R9.out 5
  have rf6 := blk_frozen R9.out 6
  have rf7 := blk_frozen R9.out 7
  have rf8 := blk_frozen R9.out 8
  have rf9 := blk_frozen R9.out 9
  have ry0 := blk_cell R9.out 0 _ rfl
  have ry1 := blk_cell R9.out 1 _ rfl
  have ry2 := blk_cell R9.out 2 _ rfl
  have ry3 := blk_cell R9.out 3 _ rfl
  have ry4 := blk_cell R9.out 4 _ rfl
  have ry5 := blk_cell R9.out 5 _ rfl
  have ry6 := blk_cell R9.out 6 _ rfl
  have ry7 := blk_cell R9.out 7 _ rfl
  have ry8 := blk_cell R9.out 8 _ rfl
  have ry9 := blk_cell R9.out 9 _ rfl
  have FB := hid (set10_blk R9.out (.int .i64 j.id) (.string (strOfNums j.na)) (.string { data := #[] }) (.string (strOfNums j.pa)) (.int .i64 3) (.int .i64 now) (.int .i64 T) (.int .i64 0) (.int .i64 0) (.int .i64 0))
  have FG := hid (set10_grown w9 (w.heap.size + 2) (.int .i64 j.id) (.string (strOfNums j.na)) (.string { data := #[] }) (.string (strOfNums j.pa)) (.int .i64 3) (.int .i64 now) (.int .i64 T) (.int .i64 0) (.int .i64 0) (.int .i64 0))
  go_wp2_with fail
  refine bodyPost_ret (results_job2 rfl _ _ rfl FB.out) rfl ?_
  exact ⟨by rw [E.out]; rfl, U9.out.grown FG.out U9.out.size (fun k hk => by simp at hk; omega)⟩
end Go.Proofs.YtpjmieiajhhbaaaDoor
