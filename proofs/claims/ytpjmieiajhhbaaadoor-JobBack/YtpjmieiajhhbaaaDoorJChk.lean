/- Jobs: the document's Check. -/
import Derived.Test.YtpjmieiajhhbaaaDoorGJ
import Derived.Deep.CutRange
namespace Go.Proofs.YtpjmieiajhhbaaaDoor
open Go.RowKit
set_option linter.unusedVariables false
set_option linter.unusedSimpArgs false

theorem within_any (n lo hi : Int) (w : World) : Calls Tryd.prog 39 #[.int .i64 n, .int .i64 lo, .int .i64 hi] w fun e w' => e = .returned (.bool (inB n lo hi)) ∧ w' = w := by
  by_cases h1 : lo ≤ n
  · by_cases h2 : n ≤ hi
    · have E : Hid (inB n lo hi = true) := inB_iff.2 ⟨h1, h2⟩
      go_enter Tryd.func39, Tryd.ntmps39
      go_wp2
      go_ret
      exact ⟨by rw [E.out]; rfl, rfl⟩
    · have E : Hid (inB n lo hi = false) := by unfold Hid inB; rw [decide_eq_false h2, Bool.and_false]
      go_enter Tryd.func39, Tryd.ntmps39
      go_wp2
      go_ret
      exact ⟨by rw [E.out]; rfl, rfl⟩
  · have E : Hid (inB n lo hi = false) := by unfold Hid inB; rw [decide_eq_false h1, Bool.false_and]
    go_enter Tryd.func39, Tryd.ntmps39
    go_wp2
    go_ret
    exact ⟨by rw [E.out]; rfl, rfl⟩
theorem bne_beqI (a b : Int) : (a != b) = !(a == b) := rfl
set_option maxHeartbeats 4000000 in
set_option maxRecDepth 20000 in
theorem checkJ_any (j : Jb) (hj : j.ok) (w : World) : Calls Tryd.prog 15 #[jobV j] w fun e w' => e = .returned (.int .i64 (chkJ j)) ∧ Below w.heap.size w w' := by
  have H0 := hid (within_any j.id 1 1099511627776)
  have H3 := hid (within_any j.st 1 3)
  have H4 := hid (within_any j.du 0 32503680000)
  have H5 := hid (within_any j.tr 0 16)
  have H7 := hid (within_any j.wk 1 2147483648)
  have H8 := hid (within_any j.tk 1 1099511627776)
  have H9 := hid (within_any j.un 0 32503680000)
  have HP : Hid (∀ w', Calls Tryd.prog 26 #[.string (strOfNums j.ru)] w' fun e w'' => e = .returned (.tuple #[ruV (parseR j.ru).1, .int .i64 (parseR j.ru).2]) ∧ Below w'.heap.size w' w'') := fun w' => parseR_any j.ru hj.ru.1 hj.ru.2 w'
  have HC : Hid (chkJ j = if chkA j && (chkR j && chkL j) then 0 else 9) := rfl
  unfold chkA chkR chkL chkH at HC
  have zr := empty_eq j.ru hj.ru.1
  have sn := strOfNums_size j.na
  have sr := strOfNums_size j.ru
  have sp := strOfNums_size j.pa
  have mn := hj.na.2
  have mr := hj.ru.2
  have mp := hj.pa.2
  have b0 := hid (blk_new w (.cells (jobC j) 23))
  have U0 := hid (up_alloc w (.cells (jobC j) 23))
  unfold jobC at b0 U0
  rw [jobV_form]
  unfold jobC
  clear hj
  obtain ⟨p2, hp2⟩ : ∃ p2, p2 = (parseR j.ru).2 := ⟨_, rfl⟩
  rw [← hp2] at HP HC
  clear hp2
  generalize (parseR j.ru).1 = p1 at *
  obtain ⟨z, hz⟩ : ∃ z, z = decide (j.ru = []) := ⟨_, rfl⟩
  rw [← hz] at zr HC
  clear hz
  generalize inB j.id 1 1099511627776 = a0 at *
  generalize inB j.st 1 3 = a3 at *
  generalize inB j.du 0 32503680000 = a4 at *
  generalize inB j.tr 0 16 = a5 at *
  generalize inB j.wk 1 2147483648 = a7 at *
  generalize inB j.tk 1 1099511627776 = a8 at *
  generalize inB j.un 0 32503680000 = a9 at *
  generalize chkJ j = C at *
  generalize strOfNums j.na = SN at *
  generalize strOfNums j.ru = SR at *
  generalize strOfNums j.pa = SP at *
  obtain ⟨ln, hln⟩ : ∃ ln, ln = j.na.length := ⟨_, rfl⟩
  obtain ⟨lr, hlr⟩ : ∃ lr, lr = j.ru.length := ⟨_, rfl⟩
  obtain ⟨lp, hlp⟩ : ∃ lp, lp = j.pa.length := ⟨_, rfl⟩
  rw [← hln] at sn mn HC
  rw [← hlr] at sr mr HC
  rw [← hlp] at sp mp HC
  clear hln hlr hlp
  generalize j.id = ji at *
  generalize j.st = js at *
  generalize j.du = jd at *
  generalize j.tr = jt at *
  generalize j.wk = jw at *
  generalize j.tk = jk at *
  generalize j.un = ju at *
  have BAD : Hid (∀ w', Below w.heap.size w w' → C = 9 → (Ending.returned (.int .i64 9) = Ending.returned (.int .i64 C) ∧ Below w.heap.size w w')) := fun w' h1 h2 => ⟨by rw [h2], h1⟩
  go_enter Tryd.func15, Tryd.ntmps15
  go_wp2_with fail
  refine (H0.out _).mono ?_
  rintro e w1 ⟨rfl, rfl⟩
  cases a0
  · go_wp2_with fail
    go_ret
    exact BAD.out _ U0.out (by rw [HC.out]; simp)
  by_cases c1 : 32 < ln
  · have c1' : (32 : Int) < (ln : Int) := by omega
    go_wp2_with fail
    go_ret
    exact BAD.out _ U0.out (by rw [HC.out]; simp [c1])
  have c1' : ¬ (32 : Int) < (ln : Int) := by omega
  by_cases c2 : 200 < lp
  · have c2' : (200 : Int) < (lp : Int) := by omega
    go_wp2_with fail
    go_ret
    exact BAD.out _ U0.out (by rw [HC.out]; simp [c2])
  have c2' : ¬ (200 : Int) < (lp : Int) := by omega
  go_wp2_with fail
  refine (H3.out _).mono ?_
  rintro e w1 ⟨rfl, rfl⟩
  cases a3
  · go_wp2_with fail
    go_ret
    exact BAD.out _ U0.out (by rw [HC.out]; simp)
  go_wp2_with fail
  refine (H4.out _).mono ?_
  rintro e w1 ⟨rfl, rfl⟩
  cases a4
  · go_wp2_with fail
    go_ret
    exact BAD.out _ U0.out (by rw [HC.out]; simp)
  go_wp2_with fail
  refine (H5.out _).mono ?_
  rintro e w1 ⟨rfl, rfl⟩
  cases a5
  · go_wp2_with fail
    go_ret
    exact BAD.out _ U0.out (by rw [HC.out]; simp)
  have HC2 : Hid (C = if (z || (p2 == 0 && (!(js == 3) && !decide (200 < lr)))) && (!(js == 2 && !(a7 && (a8 && (a9 && (jd == 0))))) && !(!(js == 2) && (!(jw == 0) || (!(jk == 0) || !(ju == 0))))) then 0 else 9) := by
    unfold Hid
    rw [HC.out, decide_eq_false c1, decide_eq_false c2]
    rfl
  clear HC c1 c2
  go_upto_if 42 with fail
  go_cut [] from 6 (fun wx => Hid ((z || (p2 == 0 && (!(js == 3) && !decide (200 < lr)))) = true) ∧ Hid (Below w.heap.size w wx) ∧ Hid (wx.heap[w.heap.size]? = some (.cells #[.int .i64 ji, .string SN, .string SR, .string SP, .int .i64 js, .int .i64 jd, .int .i64 jt, .int .i64 jw, .int .i64 jk, .int .i64 ju] 23)))
  case first =>
    cases z
    · go_wp2_with fail
      refine (HP.out _).mono ?_
      rintro e w2 ⟨rfl, hb2⟩
      have u2 := hid (up_al (up_trans U0.out hb2) (.cells #[.int .u64 (p1.mi : Int), .int .u64 (p1.ho : Int), .int .u64 (p1.da : Int), .int .u64 (p1.mo : Int), .int .u64 (p1.we : Int), .bool p1.ad, .bool p1.aw] 58))
      have k2 := blk_up (blk_up b0.out hb2) (up_alloc w2 (.cells #[.int .u64 (p1.mi : Int), .int .u64 (p1.ho : Int), .int .u64 (p1.da : Int), .int .u64 (p1.mo : Int), .int .u64 (p1.we : Int), .bool p1.ad, .bool p1.aw] 58))
      have KK := hid k2
      have x2 := blk_cell k2 2 _ rfl
      have x4 := blk_cell k2 4 _ rfl
      clear k2 hb2
      rw [ruV_form]
      by_cases d1 : p2 = 0
      · by_cases d2 : js = 3
        · have t1 : (p2 != 0) = false := by simpa using d1
          have t2 : (js == 3) = true := by simpa using d2
          have E9 : Hid (C = 9) := by unfold Hid; rw [HC2.out]; simp [d1, t2]
          clear d1 d2
          go_wp2_with fail
          go_ret
          exact BAD.out _ u2.out E9.out
        · have t1 : (p2 != 0) = false := by simpa using d1
          have t2 : (js == 3) = false := by simpa using d2
          by_cases d3 : 200 < lr
          · have d3' : (200 : Int) < (lr : Int) := by omega
            have E9 : Hid (C = 9) := by unfold Hid; rw [HC2.out]; simp [d1, t2, d3]
            clear d1 d2
            go_wp2_with fail
            go_ret
            exact BAD.out _ u2.out E9.out
          · have d3' : ¬ (200 : Int) < (lr : Int) := by omega
            have OK : Hid ((false || (p2 == 0 && (!(js == 3) && !decide (200 < lr)))) = true) := by unfold Hid; simp [d1, t2, d3]
            clear d1 d2
            go_wp2_with fail
            go_meet
            case rel => exact ⟨OK, u2.out, KK.out⟩
      · have t1 : (p2 != 0) = true := by simpa using d1
        have E9 : Hid (C = 9) := by unfold Hid; rw [HC2.out]; simp [d1]
        clear d1
        go_wp2_with fail
        go_ret
        exact BAD.out _ u2.out E9.out
    · have OK : Hid ((true || (p2 == 0 && (!(js == 3) && !decide (200 < lr)))) = true) := rfl
      go_wp2_with fail
      go_meet
      case rel => exact ⟨OK, U0.out, b0.out⟩
  case rest =>
  obtain ⟨OK, UB, KB⟩ := hcut
  have HC3 : Hid (C = if (!(js == 2 && !(a7 && (a8 && (a9 && (jd == 0))))) && !(!(js == 2) && (!(jw == 0) || (!(jk == 0) || !(ju == 0))))) then 0 else 9) := by
    unfold Hid
    rw [HC2.out, OK.out, Bool.true_and]
  clear HC2 OK HP H0 H3 H4 H5
  have x4 := blk_cell KB.out 4 _ rfl
  have x5 := blk_cell KB.out 5 _ rfl
  have x7 := blk_cell KB.out 7 _ rfl
  have x8 := blk_cell KB.out 8 _ rfl
  have x9 := blk_cell KB.out 9 _ rfl
  clear KB b0 U0
  obtain ⟨d0, hd0⟩ : ∃ d0, d0 = (jd == 0) := ⟨_, rfl⟩
  rw [← hd0] at HC3
  have hd1 : (jd == 0) = d0 := hd0.symm
  clear hd0
  obtain ⟨H, hH⟩ : ∃ H, H = (a7 && (a8 && (a9 && d0))) := ⟨_, rfl⟩
  rw [← hH] at HC3
  have HH := hid hH
  clear hH
  go_upto_region 7 with fail
  go_cut [5] from 6 (fun v5 wx => v5 = .bool H ∧ wc = wx)
  case first =>
    have R := hid HH.out
    go_wp2_with fail
    refine (H7.out _).mono ?_
    rintro e w5 ⟨rfl, rfl⟩
    cases a7
    · go_wp2_with fail
      go_meet
      case rel => exact ⟨by rw [R.out]; rfl, rfl⟩
    go_wp2_with fail
    refine (H8.out _).mono ?_
    rintro e w5 ⟨rfl, rfl⟩
    cases a8
    · go_wp2_with fail
      go_meet
      case rel => exact ⟨by rw [R.out]; rfl, rfl⟩
    go_wp2_with fail
    refine (H9.out _).mono ?_
    rintro e w5 ⟨rfl, rfl⟩
    cases a9
    · go_wp2_with fail
      go_meet
      case rel => exact ⟨by rw [R.out]; rfl, rfl⟩
    go_wp2_with fail
    go_meet
    case rel => exact ⟨by rw [R.out]; rfl, rfl⟩
  case rest =>
  obtain ⟨rfl, rfl⟩ := hcut
  clear HH H7 H8 H9 hd1 x5
  obtain ⟨s2, hs2⟩ : ∃ s2, s2 = (js == 2) := ⟨_, rfl⟩
  obtain ⟨k7, hk7⟩ : ∃ k7, k7 = (jw == 0) := ⟨_, rfl⟩
  obtain ⟨k8, hk8⟩ : ∃ k8, k8 = (jk == 0) := ⟨_, rfl⟩
  obtain ⟨k9, hk9⟩ : ∃ k9, k9 = (ju == 0) := ⟨_, rfl⟩
  rw [← hs2, ← hk7, ← hk8, ← hk9] at HC3
  have m2 : (js != 2) = !s2 := by rw [hs2]; rfl
  have m7 : (jw != 0) = !k7 := by rw [hk7]; rfl
  have m8 : (jk != 0) = !k8 := by rw [hk8]; rfl
  have m9 : (ju != 0) = !k9 := by rw [hk9]; rfl
  have hs3 : (js == 2) = s2 := hs2.symm
  clear hk7 hk8 hk9 hs2
  cases s2
  · cases k7
    · go_wp2_with fail
      go_ret
      exact BAD.out _ UB.out (by rw [HC3.out]; simp)
    cases k8
    · go_wp2_with fail
      go_ret
      exact BAD.out _ UB.out (by rw [HC3.out]; simp)
    cases k9
    · go_wp2_with fail
      go_ret
      exact BAD.out _ UB.out (by rw [HC3.out]; simp)
    have E0 : Hid (C = 0) := by unfold Hid; rw [HC3.out]; simp
    go_wp2_with fail
    go_ret
    exact ⟨by rw [E0.out]; rfl, UB.out⟩
  · cases H
    · go_wp2_with fail
      go_ret
      exact BAD.out _ UB.out (by rw [HC3.out]; simp)
    have E0 : Hid (C = 0) := by unfold Hid; rw [HC3.out]; simp
    go_wp2_with fail
    go_ret
    exact ⟨by rw [E0.out]; rfl, UB.out⟩
end Go.Proofs.YtpjmieiajhhbaaaDoor
