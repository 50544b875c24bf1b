/- Jobs: the program's Fail; all that is wanted of the program for the statements but one. -/
import Derived.Test.YtpjmieiajhhbaaaDoorQTurn
import Derived.Test.YtpjmieiajhhbaaaDoorJFail
import Derived.Test.YtpjmieiajhhbaaaDoorJPj
namespace Go.Proofs.YtpjmieiajhhbaaaDoor
open Go.RowKit
set_option linter.unusedVariables false
set_option linter.unusedSimpArgs false

theorem again_tr (j : Jb) (t now : Int) : (againP { j with tr := t } now).2 = (againP j now).2 ∧ ((againP j now).2 = true → (againP { j with tr := t } now).1 = (againP j now).1) := by
  unfold againP
  dsimp only
  by_cases hr : j.ru = []
  · rw [if_pos hr, if_pos hr]
    exact ⟨rfl, fun h => by cases h⟩
  rw [if_neg hr, if_neg hr]
  cases (nextP (parseR j.ru).1 now).2.1
  · exact ⟨rfl, fun h => by cases h⟩
  · exact ⟨rfl, fun _ => rfl⟩
theorem failP_recur (j : Jb) (b c n now : Int) : failP j b c n now = if chkJ j ≠ 0 then (jb0, 9) else if chkP b c n ≠ 0 then (jb0, 4) else if mayP j now ≠ 0 then (jb0, mayP j now) else
    if (dueP b c n now (upTr j.tr - 1)).2 = 0 then (if upTr j.tr < n then (becP j 1 (dueP b c n now (upTr j.tr - 1)).1 (upTr j.tr) 0 0 0, 0) else if (recurP j now).2 then ((recurP j now).1, 0) else (becP { j with ru := [] } 3 now (upTr j.tr) 0 0 0, 0)) else if (recurP j now).2 then ((recurP j now).1, 0) else (becP { j with ru := [] } 3 now (upTr j.tr) 0 0 0, 0) := by
  by_cases h : chkJ j = 0
  · have e := recur_again h now
    obtain ⟨a1, a2⟩ := again_tr j (upTr j.tr) now
    unfold failP mayP
    rw [e]
    by_cases hb : chkP b c n = 0
    · by_cases hs : j.st = 2
      · cases inB now 0 32503679999
        · simp [h, hs, hb]
        · unfold failB
          dsimp only
          rw [a1]
          have e1 : freeP { j with tr := upTr j.tr } 1 (dueP b c n now (upTr j.tr - 1)).1 = becP j 1 (dueP b c n now (upTr j.tr - 1)).1 (upTr j.tr) 0 0 0 := rfl
          have e3 : freeP { j with tr := upTr j.tr, ru := [] } 3 now = becP { j with ru := [] } 3 now (upTr j.tr) 0 0 0 := rfl
          rw [e1, e3]
          cases ca : (againP j now).2
          · by_cases c1 : upTr j.tr < n <;> by_cases c2 : (dueP b c n now (upTr j.tr - 1)).2 = 0 <;> simp [h, hs, hb, c1, c2]
          · rw [a2 ca]
            by_cases c1 : upTr j.tr < n <;> by_cases c2 : (dueP b c n now (upTr j.tr - 1)).2 = 0 <;> simp [h, hs, hb, c1, c2]
      · simp [h, hs, hb]
    · simp [h, hb]
  · unfold failP
    simp [h]
set_option maxHeartbeats 8000000 in
set_option maxRecDepth 20000 in
theorem failE_any (j : Jb) (hj : j.ok) (b c n now : Int) (w : World) (he : Env w) : Calls Tryd.prog 19 #[jobV j, limV b c n, .int .i64 now] w fun e w' => e = .returned (.tuple #[jobV (failP j b c n now).1, .int .i64 (failP j b c n now).2]) ∧ Below w.heap.size w w' := by
  have HC : Hid (∀ w', Below w.heap.size w w' → Calls Tryd.prog 14 #[jobV j] w' fun e w'' => e = .returned (.int .i64 (chkJ j)) ∧ Below w'.heap.size w' w'') := fun w' hb => checkE_job j hj w' (he.up hb)
  have HL := hid (checkE_any b c n)
  have HM := hid (mayEnd_any j now)
  have T0 : 1 ≤ upTr j.tr ∨ j.tr < 0 := by unfold upTr; split <;> omega
  have T1 : upTr j.tr ≤ 16 := by unfold upTr; split <;> omega
  have HD := hid (dueE_any b c n now (upTr j.tr - 1) (by omega))
  have HR : Hid (∀ w', Below w.heap.size w w' → Calls Tryd.prog 44 #[jobV j, .int .i64 now] w' fun e w'' => e = .returned (.tuple #[jobV (recurP j now).1, .bool (recurP j now).2]) ∧ Below w'.heap.size w' w'') := fun w' hb => recur_any j hj.ru now w' (he.up hb)
  have HB1 := hid (become_any j 1 (dueP b c n now (upTr j.tr - 1)).1 (upTr j.tr) 0 0 0)
  have HB3 := hid (become_any { j with ru := [] } 3 now (upTr j.tr) 0 0 0)
  have LP := hid (failP_recur j b c n now)
  have tr01 := fun h => chkJ_tr (j := j) h
  obtain ⟨q0, q1, q2, q3⟩ := boxes3 w (jobC j) #[.int .i64 b, .int .i64 c, .int .i64 n] (jobC jb0) 27 44 27
  have B0 := hid q0
  have L0 := hid q1
  have R0 := hid q2
  have U0 := hid q3
  unfold jobC jb0 at U0 B0 R0 L0
  clear q0 q1 q2 q3 hj he
  have lf : limV b c n = .agg #[.int .i64 b, .int .i64 c, .int .i64 n] := rfl
  rw [lf] at HL HD ⊢
  clear lf
  obtain ⟨K, hK⟩ : ∃ K, K = (recurP j now).1 := ⟨_, rfl⟩
  rw [← hK] at HR LP
  clear hK
  generalize (recurP j now).2 = is at *
  obtain ⟨T, hT⟩ : ∃ T, T = upTr j.tr := ⟨_, rfl⟩
  rw [← hT] at HB1 HB3 HD LP T1
  generalize (dueP b c n now (T - 1)).1 = d1 at *
  generalize (dueP b c n now (T - 1)).2 = d2 at *
  unfold jobV at HC HM HR HB1 HB3
  unfold becP hldV at HB1 HB3
  dsimp only at HB1 HB3
  have s0 : strOfNums [] = { data := #[] } := rfl
  rw [s0] at HB3
  rw [jobV_form]
  unfold jobC
  obtain ⟨F, hF⟩ : ∃ F, F = failP j b c n now := ⟨_, rfl⟩
  rw [← hF] at LP ⊢
  clear hF
  have c2 := chkJ_two j
  generalize chkJ j = C at *
  have c3 := chkP_two b c n
  generalize chkP b c n = CL at *
  have m3 := mayP_three j now
  generalize mayP j now = M at *
  go_enter Tryd.func19, Tryd.ntmps19
  go_wp2_with fail
  refine (HC.out _ U0.out).mono ?_
  rintro e w1 ⟨rfl, hb1⟩
  have B1 := hid (blk_up B0.out hb1)
  have R1 := hid (blk_up R0.out hb1)
  have L1 := hid (blk_up L0.out hb1)
  have U1 := hid (up_trans U0.out hb1)
  clear hb1 B0 R0 U0 L0 HC
  rcases c2 with rfl | rfl
  rotate_left
  · have E : Hid (F = (jb0, 9)) := LP.out.trans (if_pos (by decide))
    clear HL HM HD HR HB1 HB3 LP m3 c3 tr01 T0 T1 hT
    have rf0 := blk_frozen R1.out 0
    have rf1 := blk_frozen R1.out 1
    have rf2 := blk_frozen R1.out 2
    have rf3 := blk_frozen R1.out 3
    have rf4 := blk_frozen R1.out 4
    have rf5 := blk_frozen R1.out 5
    have rf6 := blk_frozen R1.out 6
    have rf7 := blk_frozen R1.out 7
    have rf8 := blk_frozen R1.out 8
    have rf9 := blk_frozen R1.out 9
    have ry0 := blk_cell R1.out 0 _ rfl
    have ry1 := blk_cell R1.out 1 _ rfl
    have ry2 := blk_cell R1.out 2 _ rfl
    have ry3 := blk_cell R1.out 3 _ rfl
    have ry4 := blk_cell R1.out 4 _ rfl
    have ry5 := blk_cell R1.out 5 _ rfl
    have ry6 := blk_cell R1.out 6 _ rfl
    have ry7 := blk_cell R1.out 7 _ rfl
    have ry8 := blk_cell R1.out 8 _ rfl
    have ry9 := blk_cell R1.out 9 _ rfl
    have FB := hid (set10_blk R1.out (.int .i64 0) (.string { data := #[] }) (.string { data := #[] }) (.string { data := #[] }) (.int .i64 0) (.int .i64 0) (.int .i64 0) (.int .i64 0) (.int .i64 0) (.int .i64 0))
    have FG := hid (set10_grown w1 (w.heap.size + 2) (.int .i64 0) (.string { data := #[] }) (.string { data := #[] }) (.string { data := #[] }) (.int .i64 0) (.int .i64 0) (.int .i64 0) (.int .i64 0) (.int .i64 0) (.int .i64 0))
    go_wp2_with fail
    refine bodyPost_ret (results_qob2 rfl _ _ rfl FB.out) rfl ?_
    exact ⟨by rw [E.out]; rfl, U1.out.grown FG.out U1.out.size (fun k hk => by simp at hk; omega)⟩
  have LP2 := hid (LP.out.trans (if_neg (by decide)))
  have tr01 := tr01 rfl
  clear LP
  have l0 := blk_cell L1.out 0 _ rfl
  have l1 := blk_cell L1.out 1 _ rfl
  have l2 := blk_cell L1.out 2 _ rfl
  go_wp2_with fail
  refine (HL.out _).mono ?_
  rintro e w2 ⟨rfl, hb2⟩
  have B2 := hid (blk_up B1.out hb2)
  have R2 := hid (blk_up R1.out hb2)
  have L2 := hid (blk_up L1.out hb2)
  have U2 := hid (up_trans U1.out hb2)
  clear hb2 B1 R1 U1 L1 HL l0 l1 l2
  rcases c3 with rfl | rfl
  rotate_left
  · have E : Hid (F = (jb0, 4)) := LP2.out.trans (if_pos (by decide))
    clear HM HD HR HB1 HB3 LP2 m3 tr01 T0 T1 hT
    have rf0 := blk_frozen R2.out 0
    have rf1 := blk_frozen R2.out 1
    have rf2 := blk_frozen R2.out 2
    have rf3 := blk_frozen R2.out 3
    have rf4 := blk_frozen R2.out 4
    have rf5 := blk_frozen R2.out 5
    have rf6 := blk_frozen R2.out 6
    have rf7 := blk_frozen R2.out 7
    have rf8 := blk_frozen R2.out 8
    have rf9 := blk_frozen R2.out 9
    have ry0 := blk_cell R2.out 0 _ rfl
    have ry1 := blk_cell R2.out 1 _ rfl
    have ry2 := blk_cell R2.out 2 _ rfl
    have ry3 := blk_cell R2.out 3 _ rfl
    have ry4 := blk_cell R2.out 4 _ rfl
    have ry5 := blk_cell R2.out 5 _ rfl
    have ry6 := blk_cell R2.out 6 _ rfl
    have ry7 := blk_cell R2.out 7 _ rfl
    have ry8 := blk_cell R2.out 8 _ rfl
    have ry9 := blk_cell R2.out 9 _ rfl
    have FB := hid (set10_blk R2.out (.int .i64 0) (.string { data := #[] }) (.string { data := #[] }) (.string { data := #[] }) (.int .i64 0) (.int .i64 0) (.int .i64 0) (.int .i64 0) (.int .i64 0) (.int .i64 0))
    have FG := hid (set10_grown w2 (w.heap.size + 2) (.int .i64 0) (.string { data := #[] }) (.string { data := #[] }) (.string { data := #[] }) (.int .i64 0) (.int .i64 0) (.int .i64 0) (.int .i64 0) (.int .i64 0) (.int .i64 0))
    go_wp2_with fail
    refine bodyPost_ret (results_qob2 rfl _ _ rfl FB.out) rfl ?_
    exact ⟨by rw [E.out]; rfl, U2.out.grown FG.out U2.out.size (fun k hk => by simp at hk; omega)⟩
  have LP3 := hid (LP2.out.trans (if_neg (by decide)))
  clear LP2
  have x0 := blk_cell B2.out 0 _ rfl
  have x1 := blk_cell B2.out 1 _ rfl
  have x2 := blk_cell B2.out 2 _ rfl
  have x3 := blk_cell B2.out 3 _ rfl
  have x4 := blk_cell B2.out 4 _ rfl
  have x5 := blk_cell B2.out 5 _ rfl
  have x6 := blk_cell B2.out 6 _ rfl
  have x7 := blk_cell B2.out 7 _ rfl
  have x8 := blk_cell B2.out 8 _ rfl
  have x9 := blk_cell B2.out 9 _ rfl
  go_wp2_with fail
  refine (HM.out _).mono ?_
  rintro e w3 ⟨rfl, hb3⟩
  have B3 := hid (blk_up B2.out hb3)
  have R3 := hid (blk_up R2.out hb3)
  have L3 := hid (blk_up L2.out hb3)
  have U3 := hid (up_trans U2.out hb3)
  clear hb3 B2 R2 U2 L2 HM x0 x1 x2 x3 x4 x5 x6 x7 x8 x9
  by_cases hm : M = 0
  rotate_left
  · have m1 : (M != 0) = true := by simpa using hm
    have E : Hid (F = (jb0, M)) := LP3.out.trans (if_pos hm)
    clear HD HR HB1 HB3 LP3 m3 tr01 T0 T1 hT hm
    have rf0 := blk_frozen R3.out 0
    have rf1 := blk_frozen R3.out 1
    have rf2 := blk_frozen R3.out 2
    have rf3 := blk_frozen R3.out 3
    have rf4 := blk_frozen R3.out 4
    have rf5 := blk_frozen R3.out 5
    have rf6 := blk_frozen R3.out 6
    have rf7 := blk_frozen R3.out 7
    have rf8 := blk_frozen R3.out 8
    have rf9 := blk_frozen R3.out 9
    have ry0 := blk_cell R3.out 0 _ rfl
    have ry1 := blk_cell R3.out 1 _ rfl
    have ry2 := blk_cell R3.out 2 _ rfl
    have ry3 := blk_cell R3.out 3 _ rfl
    have ry4 := blk_cell R3.out 4 _ rfl
    have ry5 := blk_cell R3.out 5 _ rfl
    have ry6 := blk_cell R3.out 6 _ rfl
    have ry7 := blk_cell R3.out 7 _ rfl
    have ry8 := blk_cell R3.out 8 _ rfl
    have ry9 := blk_cell R3.out 9 _ rfl
    have FB := hid (set10_blk R3.out (.int .i64 0) (.string { data := #[] }) (.string { data := #[] }) (.string { data := #[] }) (.int .i64 0) (.int .i64 0) (.int .i64 0) (.int .i64 0) (.int .i64 0) (.int .i64 0))
    have FG := hid (set10_grown w3 (w.heap.size + 2) (.int .i64 0) (.string { data := #[] }) (.string { data := #[] }) (.string { data := #[] }) (.int .i64 0) (.int .i64 0) (.int .i64 0) (.int .i64 0) (.int .i64 0) (.int .i64 0))
    go_wp2_with fail
    refine bodyPost_ret (results_qob2 rfl _ _ rfl FB.out) rfl ?_
    exact ⟨by rw [E.out]; rfl, U3.out.grown FG.out U3.out.size (fun k hk => by simp at hk; omega)⟩
  subst hm
  have LP4 := hid (LP3.out.trans (if_neg (by decide)))
  clear LP3 m3 T0
  have T0 : 1 ≤ T := by
    rw [hT]
    unfold upTr
    split <;> omega
  have x6 := blk_cell B3.out 6 _ rfl
  go_upto_region 10 with fail
  go_cut [11] from 35 (fun v wx => v = .int .i64 T ∧ w3 = wx)
  case first =>
    by_cases ht : j.tr < 16
    · have hT2 : T = j.tr + 1 := by rw [hT]; exact if_pos ht
      subst hT2
      have m1 : ¬ 16 < j.tr + 1 := by omega
      have m2 : j.tr + 1 ≤ 16 := by omega
      clear hT
      go_wp2_with fail
      go_meet
      case rel => exact ⟨by rw [Int.min_eq_left m2], rfl⟩
    · have hT2 : T = 16 := by rw [hT]; exact if_neg ht
      subst hT2
      have m1 : 16 < j.tr + 1 := by omega
      have m2 : ¬ j.tr + 1 ≤ 16 := by omega
      clear hT
      go_wp2_with fail
      go_meet
      case rel => exact ⟨by rw [Int.min_eq_right (by omega)], rfl⟩
  case rest =>
  obtain ⟨rfl, rfl⟩ := hcut
  clear hT x6 tr01
  have l0 := blk_cell L3.out 0 _ rfl
  have l1 := blk_cell L3.out 1 _ rfl
  have l2 := blk_cell L3.out 2 _ rfl
  go_wp2_with fail
  refine (HD.out _).mono ?_
  rintro e w4 ⟨rfl, hb4⟩
  have B4 := hid (blk_up B3.out hb4)
  have R4 := hid (blk_up R3.out hb4)
  have L4 := hid (blk_up L3.out hb4)
  have U4 := hid (up_trans U3.out hb4)
  clear hb4 B3 R3 U3 L3 HD l0 l1 l2
  have x0 := blk_cell B4.out 0 _ rfl
  have x1 := blk_cell B4.out 1 _ rfl
  have x2 := blk_cell B4.out 2 _ rfl
  have x3 := blk_cell B4.out 3 _ rfl
  have x4 := blk_cell B4.out 4 _ rfl
  have x5 := blk_cell B4.out 5 _ rfl
  have x6 := blk_cell B4.out 6 _ rfl
  have x7 := blk_cell B4.out 7 _ rfl
  have x8 := blk_cell B4.out 8 _ rfl
  have x9 := blk_cell B4.out 9 _ rfl
  have l2 := blk_cell L4.out 2 _ rfl
  clear L4
  go_upto_region 12 with fail
  by_cases hg : d2 = 0 ∧ T < n
  · obtain ⟨hg1, hg2⟩ := hg
    have g1 : (d2 == 0) = true := by simpa using hg1
    have E : Hid (F = (becP j 1 d1 T 0 0 0, 0)) := (LP4.out.trans (if_pos hg1)).trans (if_pos hg2)
    clear HR HB3 LP4 hg1 T0 T1
    go_wp2_with fail
    refine (HB1.out _).mono ?_
    rintro e w5 ⟨rfl, hb5⟩
    have R5 := hid (blk_up R4.out hb5)
    have U5 := hid (up_trans U4.out hb5)
    clear hb5 R4 U4 B4 HB1 x0 x1 x2 x3 x4 x5 x6 x7 x8 x9 l2
    have rf0 := blk_frozen R5.out 0
    have rf1 := blk_frozen R5.out 1
    have rf2 := blk_frozen R5.out 2
    have rf3 := blk_frozen R5.out 3
    have rf4 := blk_frozen R5.out 4
    have rf5 := blk_frozen R5.out 5
    have rf6 := blk_frozen R5.out 6
    have rf7 := blk_frozen R5.out 7
    have rf8 := blk_frozen R5.out 8
    have rf9 := blk_frozen R5.out 9
    have ry0 := blk_cell R5.out 0 _ rfl
    have ry1 := blk_cell R5.out 1 _ rfl
    have ry2 := blk_cell R5.out 2 _ rfl
    have ry3 := blk_cell R5.out 3 _ rfl
    have ry4 := blk_cell R5.out 4 _ rfl
    have ry5 := blk_cell R5.out 5 _ rfl
    have ry6 := blk_cell R5.out 6 _ rfl
    have ry7 := blk_cell R5.out 7 _ rfl
    have ry8 := blk_cell R5.out 8 _ rfl
    have ry9 := blk_cell R5.out 9 _ rfl
    have FB := hid (set10_blk R5.out (.int .i64 j.id) (.string (strOfNums j.na)) (.string (strOfNums j.ru)) (.string (strOfNums j.pa)) (.int .i64 1) (.int .i64 d1) (.int .i64 T) (.int .i64 0) (.int .i64 0) (.int .i64 0))
    have FG := hid (set10_grown w5 (w.heap.size + 2) (.int .i64 j.id) (.string (strOfNums j.na)) (.string (strOfNums j.ru)) (.string (strOfNums j.pa)) (.int .i64 1) (.int .i64 d1) (.int .i64 T) (.int .i64 0) (.int .i64 0) (.int .i64 0))
    go_wp2_with fail
    refine bodyPost_ret (results_qob2 rfl _ _ rfl FB.out) rfl ?_
    exact ⟨by rw [E.out]; rfl, U5.out.grown FG.out U5.out.size (fun k hk => by simp at hk; omega)⟩
  have LP5 : Hid (F = if is then (K, 0) else (becP { j with ru := [] } 3 now T 0 0 0, 0)) := by
    unfold Hid
    rw [LP4.out]
    by_cases h1 : d2 = 0
    · rw [if_pos h1, if_neg (fun h2 => hg ⟨h1, h2⟩)]
    · rw [if_neg h1]
  clear LP4 HB1
  go_cut [54] from 55 (fun v wx => v = .bool false ∧ w4 = wx)
  case first =>
    by_cases h1 : d2 = 0
    · have g1 : (d2 == 0) = true := by simpa using h1
      have g2 : ¬ T < n := fun h2 => hg ⟨h1, h2⟩
      clear h1 hg
      go_wp2_with fail
      go_meet
      case rel => exact ⟨rfl, rfl⟩
    · have g1 : (d2 == 0) = false := by simpa using h1
      clear h1 hg
      go_wp2_with fail
      go_meet
      case rel => exact ⟨rfl, rfl⟩
  case rest =>
  obtain ⟨rfl, rfl⟩ := hcut
  clear hg l2
  go_wp2_with fail
  refine (HR.out _ U4.out).mono ?_
  rintro e w5 ⟨rfl, hb5⟩
  have KB := hid (blk_new w5 (.cells (jobC K) 27))
  have B5 := hid (blk_up (blk_up B4.out hb5) (up_alloc w5 (.cells (jobC K) 27)))
  have R5 := hid (blk_up (blk_up R4.out hb5) (up_alloc w5 (.cells (jobC K) 27)))
  have U5 := hid (up_al (up_trans U4.out hb5) (.cells (jobC K) 27))
  unfold jobC at KB B5 R5 U5
  clear hb5 R4 U4 B4 HR x0 x1 x2 x3 x4 x5 x6 x7 x8 x9
  cases is
  rotate_left
  · have E : Hid (F = (K, 0)) := LP5.out
    clear LP5 HB3 T0 T1
    have y0 := blk_cell KB.out 0 _ rfl
    have y1 := blk_cell KB.out 1 _ rfl
    have y2 := blk_cell KB.out 2 _ rfl
    have y3 := blk_cell KB.out 3 _ rfl
    have y4 := blk_cell KB.out 4 _ rfl
    have y5 := blk_cell KB.out 5 _ rfl
    have y6 := blk_cell KB.out 6 _ rfl
    have y7 := blk_cell KB.out 7 _ rfl
    have y8 := blk_cell KB.out 8 _ rfl
    have y9 := blk_cell KB.out 9 _ rfl
    have rf0 := blk_frozen R5.out 0
    have rf1 := blk_frozen R5.out 1
    have rf2 := blk_frozen R5.out 2
    have rf3 := blk_frozen R5.out 3
    have rf4 := blk_frozen R5.out 4
    have rf5 := blk_frozen R5.out 5
    have rf6 := blk_frozen R5.out 6
    have rf7 := blk_frozen R5.out 7
    have rf8 := blk_frozen R5.out 8
    have rf9 := blk_frozen R5.out 9
    have ry0 := blk_cell R5.out 0 _ rfl
    have ry1 := blk_cell R5.out 1 _ rfl
    have ry2 := blk_cell R5.out 2 _ rfl
    have ry3 := blk_cell R5.out 3 _ rfl
    have ry4 := blk_cell R5.out 4 _ rfl
    have ry5 := blk_cell R5.out 5 _ rfl
    have ry6 := blk_cell R5.out 6 _ rfl
    have ry7 := blk_cell R5.out 7 _ rfl
    have ry8 := blk_cell R5.out 8 _ rfl
    have ry9 := blk_cell R5.out 9 _ rfl
    have FB := hid (set10_blk R5.out (.int .i64 K.id) (.string (strOfNums K.na)) (.string (strOfNums K.ru)) (.string (strOfNums K.pa)) (.int .i64 K.st) (.int .i64 K.du) (.int .i64 K.tr) (.int .i64 K.wk) (.int .i64 K.tk) (.int .i64 K.un))
    have FG := hid (set10_grown (w5.alloc (.cells #[.int .i64 K.id, .string (strOfNums K.na), .string (strOfNums K.ru), .string (strOfNums K.pa), .int .i64 K.st, .int .i64 K.du, .int .i64 K.tr, .int .i64 K.wk, .int .i64 K.tk, .int .i64 K.un] 27)) (w.heap.size + 2) (.int .i64 K.id) (.string (strOfNums K.na)) (.string (strOfNums K.ru)) (.string (strOfNums K.pa)) (.int .i64 K.st) (.int .i64 K.du) (.int .i64 K.tr) (.int .i64 K.wk) (.int .i64 K.tk) (.int .i64 K.un))
    go_wp2_with fail
    refine bodyPost_ret (results_qob2 rfl _ _ rfl FB.out) rfl ?_
    exact ⟨by rw [E.out]; rfl, U5.out.grown FG.out U5.out.size (fun k hk => by simp at hk; omega)⟩
  have E : Hid (F = (becP { j with ru := [] } 3 now T 0 0 0, 0)) := LP5.out
  clear LP5 KB
  go_upto_region 17 with fail
  generalize hV : World.alloc w5 _ = V5 at *
  clear hV
  have f2 := blk_frozen B5.out 2
  have y2 := blk_cell B5.out 2 _ rfl
  have S6 := hid (blk_set B5.out 2 (.string { data := #[] }))
  have G6 := hid (grown_set V5 ⟨w.heap.size, 2, none⟩ (.string { data := #[] }))
  go_upto_region 18 with fail
  generalize hW6 : World.setCell V5 _ _ = W6 at *
  clear hW6
  have U6 : Hid (Below w.heap.size w W6) := U5.out.grown G6.out U5.out.size (fun k hk => by simp at hk; omega)
  have R6 := hid (blk_grown R5.out G6.out (by simp))
  have b6 := S6.out
  simp only [List.setIfInBounds_toArray, List.set_cons_zero, List.set_cons_succ] at b6
  have B6 := hid b6
  clear b6 S6 G6 f2 y2 B5 R5 U5
  have x0 := blk_cell B6.out 0 _ rfl
  have x1 := blk_cell B6.out 1 _ rfl
  have x2 := blk_cell B6.out 2 _ rfl
  have x3 := blk_cell B6.out 3 _ rfl
  have x4 := blk_cell B6.out 4 _ rfl
  have x5 := blk_cell B6.out 5 _ rfl
  have x6 := blk_cell B6.out 6 _ rfl
  have x7 := blk_cell B6.out 7 _ rfl
  have x8 := blk_cell B6.out 8 _ rfl
  have x9 := blk_cell B6.out 9 _ rfl
  go_wp2_with fail
  refine (HB3.out _).mono ?_
  rintro e w7 ⟨rfl, hb7⟩
  have R7 := hid (blk_up R6.out hb7)
  have U7 := hid (up_trans U6.out hb7)
  clear hb7 R6 U6 B6 HB3 x0 x1 x2 x3 x4 x5 x6 x7 x8 x9
  have rf0 := blk_frozen R7.out 0
  have rf1 := blk_frozen R7.out 1
  have rf2 := blk_frozen R7.out 2
  have rf3 := blk_frozen R7.out 3
  have rf4 := blk_frozen R7.out 4
  have rf5 := blk_frozen R7.out 5
  have rf6 := blk_frozen R7.out 6
  have rf7 := blk_frozen R7.out 7
  have rf8 := blk_frozen R7.out 8
  have rf9 := blk_frozen R7.out 9
  have ry0 := blk_cell R7.out 0 _ rfl
  have ry1 := blk_cell R7.out 1 _ rfl
  have ry2 := blk_cell R7.out 2 _ rfl
  have ry3 := blk_cell R7.out 3 _ rfl
  have ry4 := blk_cell R7.out 4 _ rfl
  have ry5 := blk_cell R7.out 5 _ rfl
  have ry6 := blk_cell R7.out 6 _ rfl
  have ry7 := blk_cell R7.out 7 _ rfl
  have ry8 := blk_cell R7.out 8 _ rfl
  have ry9 := blk_cell R7.out 9 _ rfl
  have FB := hid (set10_blk R7.out (.int .i64 j.id) (.string (strOfNums j.na)) (.string { data := #[] }) (.string (strOfNums j.pa)) (.int .i64 3) (.int .i64 now) (.int .i64 T) (.int .i64 0) (.int .i64 0) (.int .i64 0))
  have FG := hid (set10_grown w7 (w.heap.size + 2) (.int .i64 j.id) (.string (strOfNums j.na)) (.string { data := #[] }) (.string (strOfNums j.pa)) (.int .i64 3) (.int .i64 now) (.int .i64 T) (.int .i64 0) (.int .i64 0) (.int .i64 0))
  go_wp2_with fail
  refine bodyPost_ret (results_qob2 rfl _ _ rfl FB.out) rfl ?_
  exact ⟨by rw [E.out]; rfl, U7.out.grown FG.out U7.out.size (fun k hk => by simp at hk; omega)⟩
end Go.Proofs.YtpjmieiajhhbaaaDoor
