/- The day of a date: the program's and the document's; the document's Leap, Days, aYear. -/
import Derived.Test.YtgandogkjcljkaaDoorCLeaf
namespace Go.Proofs.YtgandogkjcljkaaDoor
open Go.RowKit
set_option linter.unusedVariables false
set_option linter.unusedSimpArgs false

set_option maxHeartbeats 400000 in
theorem day_any (y m d : Int) (w : World) (he : Env w) : Calls Tryd.prog 11 #[.int .i64 y, .int .i64 m, .int .i64 d] w fun e w' => e = .returned (.tuple #[.int .i64 (dayQ y m d).1, .int .i64 (dayQ y m d).2]) ∧ w' = w := by
  have H1 := hid (days_any y m w he)
  by_cases h : 1970 ≤ y ∧ y ≤ 2999 ∧ 1 ≤ m ∧ m ≤ 12
  · have e1 : daysP y m = (lenM y m, 0) := if_pos h
    rw [e1] at H1
    by_cases hd : 1 ≤ d ∧ d ≤ lenM y m
    · have e2 : dayQ y m d = (dayP y m d, 0) := if_pos ⟨h, hd⟩
      rw [e2]
      obtain ⟨y0, y1, m0, m1⟩ := h
      have H2 := hid (begins_any y (by omega) (by omega) w)
      have HL : Hid (∀ k : Nat, k < 12 → Calls Tryd.prog 25 #[.int .i64 y, .int .i64 ((k : Int) + 1)] w fun e w' => e = .returned (.int .i64 (lenM y ((k : Int) + 1))) ∧ w' = w) := fun k hk => length_any y _ (by omega) (by omega) w he
      have HB := bgn_bounds y0 (by omega)
      have HC := hid (cum_bounds y)
      have HN := hid (cum_next y)
      have HP := hid (lenM_pos y)
      have d1 : ¬ d < 1 := by omega
      have d2 : ¬ lenM y m < d := by omega
      have dB : d ≤ 31 := by have := lenM_pos y m; omega
      have HD : Hid (dayP y m d = bgn y + cumM y (m - 1).toNat + d - 1) := rfl
      clear he e1 e2
      generalize dayP y m d = R at *
      generalize bgn y = B at *
      generalize hLM : lenM y m = LM at *
      go_enter Tryd.func11, Tryd.ntmps11
      go_wp2_with fail
      refine H1.out.mono ?_
      rintro e w1 ⟨rfl, rfl⟩
      go_wp2_with fail
      refine H2.out.mono ?_
      rintro e w1 ⟨rfl, rfl⟩
      go_wp2
      go_loopw [10, 11] (fun c q wr => ∃ k : Nat, (k : Int) + 1 ≤ m ∧ c = .int .i64 (B + d - 1 + cumM y k) ∧ q = .int .i64 ((k : Int) + 1) ∧ w1 = wr) (fun _ q _ => (m - intOf q).toNat)
      case atStart => exact ⟨0, by omega, by simp [cumM], by simp, rfl⟩
      case round =>
        obtain ⟨k, hk, rfl, rfl, rfl⟩ := hrel
        by_cases c : (k : Int) + 1 < m
        · have L := hid (HL.out k (by omega))
          have n := HN.out k
          have b := HC.out k
          have l := HP.out ((k : Int) + 1)
          generalize lenM y ((k : Int) + 1) = x at *
          have w3 : IntKind.i64.wrap (B + d - 1 + cumM y k + x) = B + d - 1 + cumM y k + x := wrapI _ (by omega) (by omega)
          go_wp2_with fail
          refine L.out.mono ?_
          rintro e w2 ⟨rfl, rfl⟩
          go_wp2
          exact ⟨⟨k + 1, by omega, by rw [n]; go_num, by go_num, by first | rfl | trivial⟩, by simp [intOf]; omega⟩
        · go_wp2
          go_returns
          refine ⟨?_, rfl⟩
          have : (m - 1).toNat = k := by omega
          exact ret_pair (by rw [HD.out, this]; omega)
    · have e2 : dayQ y m d = (0, 4) := if_neg (fun q => hd q.2)
      rw [e2]
      have dB := lenM_pos y m
      clear he e1 e2
      generalize lenM y m = LM at *
      go_enter Tryd.func11, Tryd.ntmps11
      go_wp2_with fail
      refine H1.out.mono ?_
      rintro e w1 ⟨rfl, rfl⟩
      by_cases c : d < 1
      · go_wp2
        go_returns
        exact ⟨rfl, rfl⟩
      · have c2 : LM < d := by omega
        go_wp2
        go_returns
        exact ⟨rfl, rfl⟩
  · have e1 : daysP y m = (0, 4) := if_neg h
    have e2 : dayQ y m d = (0, 4) := if_neg (fun q => h q.1)
    rw [e1] at H1
    rw [e2]
    clear he e1 e2
    go_enter Tryd.func11, Tryd.ntmps11
    go_wp2_with fail
    refine H1.out.mono ?_
    rintro e w1 ⟨rfl, rfl⟩
    go_wp2
    go_returns
    exact ⟨rfl, rfl⟩
theorem daysR_any (y m : Int) (w : World) : Calls Tryd.prog 10 #[.int .i64 y, .int .i64 m] w fun e w' => e = .returned (.tuple #[.int .i64 (daysP y m).1, .int .i64 (daysP y m).2]) ∧ w' = w := by
  by_cases h : 1970 ≤ y ∧ y ≤ 2999 ∧ 1 ≤ m ∧ m ≤ 12
  · have H1 := hid (leapR_any y w)
    have e : daysP y m = (lenM y m, 0) := if_pos h
    rw [e]
    have EL : Hid (lenM y m = if m = 2 then (if leapP y then 29 else 28) else if m = 4 ∨ m = 6 ∨ m = 9 ∨ m = 11 then 30 else 31) := rfl
    obtain ⟨a, b, c, d⟩ := h
    have a' : ¬ y < 1970 := by omega
    have b' : ¬ 2999 < y := by omega
    clear e
    generalize lenM y m = R at *
    generalize leapP y = lp at *
    have hm : m = 2 ∨ m = 1 ∨ m = 3 ∨ m = 4 ∨ m = 5 ∨ m = 6 ∨ m = 7 ∨ m = 8 ∨ m = 9 ∨ m = 10 ∨ m = 11 ∨ m = 12 := by omega
    clear c d
    rcases hm with rfl | hm
    · go_enter Tryd.func10, Tryd.ntmps10
      go_wp2_with fail
      refine H1.out.mono ?_
      rintro e w1 ⟨rfl, rfl⟩
      cases lp
      · go_wp2
        go_returns
        exact ⟨by rw [EL.out]; rfl, rfl⟩
      · go_wp2
        go_returns
        exact ⟨by rw [EL.out]; rfl, rfl⟩
    · clear H1
      rcases hm with rfl | rfl | rfl | rfl | rfl | rfl | rfl | rfl | rfl | rfl | rfl
      all_goals
        go_enter Tryd.func10, Tryd.ntmps10
        go_wp2
        go_returns
        exact ⟨by rw [EL.out]; rfl, rfl⟩
  · have e : daysP y m = (0, 4) := if_neg h
    rw [e]
    clear e
    go_enter Tryd.func10, Tryd.ntmps10
    by_cases a : y < 1970
    · go_wp2
      go_returns
      exact ⟨rfl, rfl⟩
    by_cases b : 2999 < y
    · go_wp2
      go_returns
      exact ⟨rfl, rfl⟩
    by_cases c : m < 1
    · go_wp2
      go_returns
      exact ⟨rfl, rfl⟩
    have d : 12 < m := by omega
    go_wp2
    go_returns
    exact ⟨rfl, rfl⟩
theorem aYear_any (y : Int) (w : World) : Calls Tryd.prog 27 #[.int .i64 y] w fun e w' => e = .returned (.int .i64 (lenY y)) ∧ w' = w := by
  have H1 := hid (leapR_any y w)
  have E : Hid (lenY y = if leapP y then 366 else 365) := rfl
  generalize lenY y = R at *
  generalize leapP y = lp at *
  go_enter Tryd.func27, Tryd.ntmps27
  go_wp2_with fail
  refine H1.out.mono ?_
  rintro e w1 ⟨rfl, rfl⟩
  cases lp
  · go_wp2
    go_ret
    exact ⟨by rw [E.out]; rfl, rfl⟩
  · go_wp2
    go_ret
    exact ⟨by rw [E.out]; rfl, rfl⟩
set_option maxHeartbeats 400000 in
theorem dayR_any (y m d : Int) (w : World) : Calls Tryd.prog 12 #[.int .i64 y, .int .i64 m, .int .i64 d] w fun e w' => e = .returned (.tuple #[.int .i64 (dayQ y m d).1, .int .i64 (dayQ y m d).2]) ∧ w' = w := by
  have H1 := hid (daysR_any y m w)
  by_cases h : 1970 ≤ y ∧ y ≤ 2999 ∧ 1 ≤ m ∧ m ≤ 12
  · have e1 : daysP y m = (lenM y m, 0) := if_pos h
    rw [e1] at H1
    by_cases hd : 1 ≤ d ∧ d ≤ lenM y m
    · have e2 : dayQ y m d = (dayP y m d, 0) := if_pos ⟨h, hd⟩
      rw [e2]
      obtain ⟨y0, y1, m0, m1⟩ := h
      have HY : Hid (∀ k : Nat, Calls Tryd.prog 27 #[.int .i64 (1970 + (k : Int))] w fun e w' => e = .returned (.int .i64 (bgn (1970 + (k : Int) + 1) - bgn (1970 + (k : Int)))) ∧ w' = w) := by
        intro k
        rw [show bgn (1970 + (k : Int) + 1) - bgn (1970 + (k : Int)) = lenY (1970 + (k : Int)) by rw [bgn_next]; omega]
        exact aYear_any _ w
      have HBB : Hid (∀ k : Nat, k ≤ 1030 → 0 ≤ bgn (1970 + (k : Int)) ∧ bgn (1970 + (k : Int)) ≤ 376200) := fun k hk => bgn_bounds (by omega) (by omega)
      have HL : Hid (∀ k : Nat, k < 12 → Calls Tryd.prog 10 #[.int .i64 y, .int .i64 ((k : Int) + 1)] w fun e w' => e = .returned (.tuple #[.int .i64 (lenM y ((k : Int) + 1)), .int .i64 0]) ∧ w' = w) := by
        intro k hk
        have := daysR_any y ((k : Int) + 1) w
        rw [show daysP y ((k : Int) + 1) = (lenM y ((k : Int) + 1), 0) from if_pos ⟨y0, y1, by omega, by omega⟩] at this
        exact this
      have HB := bgn_bounds y0 (by omega)
      have HC := hid (cum_bounds y)
      have HN := hid (cum_next y)
      have HP := hid (lenM_pos y)
      have d1 : ¬ d < 1 := by omega
      have d2 : ¬ lenM y m < d := by omega
      have dB : d ≤ 31 := by have := lenM_pos y m; omega
      have HD : Hid (dayP y m d = bgn y + cumM y (m - 1).toNat + d - 1) := rfl
      clear e1 e2
      generalize dayP y m d = R at *
      generalize hLM : lenM y m = LM at *
      go_enter Tryd.func12, Tryd.ntmps12
      go_wp2_with fail
      refine H1.out.mono ?_
      rintro e w1 ⟨rfl, rfl⟩
      go_wp2
      go_loopw [10, 11] (fun c q wr => ∃ k : Nat, 1970 + (k : Int) ≤ y ∧ c = .int .i64 (d - 1 + bgn (1970 + (k : Int))) ∧ q = .int .i64 (1970 + (k : Int)) ∧ w1 = wr) (fun _ q _ => (y - intOf q).toNat)
      case atStart => exact ⟨0, by omega, by simp [bgn_first], by simp, rfl⟩
      case round =>
        obtain ⟨k, hk, rfl, rfl, rfl⟩ := hrel
        by_cases c : 1970 + (k : Int) < y
        · have L := hid (HY.out k)
          have b := HBB.out k (by omega)
          have b2 := HBB.out (k + 1) (by omega)
          have e3 : 1970 + ((k + 1 : Nat) : Int) = 1970 + (k : Int) + 1 := by omega
          rw [e3] at b2
          have e4 : Hid (bgn (1970 + ((k + 1 : Nat) : Int)) = bgn (1970 + (k : Int) + 1)) := congrArg bgn e3
          generalize bgn (1970 + (k : Int) + 1) = b3 at *
          generalize bgn (1970 + (k : Int)) = b4 at *
          clear e3
          go_wp2_with fail
          refine L.out.mono ?_
          rintro e w2 ⟨rfl, rfl⟩
          go_wp2
          exact ⟨⟨k + 1, by omega, by rw [e4.out]; go_num, by go_num, by first | rfl | trivial⟩, by simp [intOf]; omega⟩
        · obtain rfl : y = 1970 + (k : Int) := by omega
          generalize bgn (1970 + (k : Int)) = B at *
          go_wp2
          go_loopw [10, 12] (fun c q wr => ∃ j : Nat, (j : Int) + 1 ≤ m ∧ c = .int .i64 (d - 1 + B + cumM (1970 + (k : Int)) j) ∧ q = .int .i64 ((j : Int) + 1) ∧ w1 = wr) (fun _ q _ => (m - intOf q).toNat)
          case atStart => exact ⟨0, by omega, by simp [cumM], by simp, rfl⟩
          case round =>
            obtain ⟨j, hj, rfl, rfl, rfl⟩ := hrel
            by_cases c : (j : Int) + 1 < m
            · have L := hid (HL.out j (by omega))
              have n := HN.out j
              have b := HC.out j
              have l := HP.out ((j : Int) + 1)
              generalize lenM (1970 + (k : Int)) ((j : Int) + 1) = x at *
              go_wp2_with fail
              refine L.out.mono ?_
              rintro e w2 ⟨rfl, rfl⟩
              go_wp2
              exact ⟨⟨j + 1, by omega, by rw [n]; go_num, by go_num, by first | rfl | trivial⟩, by simp [intOf]; omega⟩
            · go_wp2
              go_returns
              refine ⟨?_, rfl⟩
              have : (m - 1).toNat = j := by omega
              exact ret_pair (by rw [HD.out, this]; omega)
    · have e2 : dayQ y m d = (0, 4) := if_neg (fun q => hd q.2)
      rw [e2]
      have dB := lenM_pos y m
      clear e1 e2
      generalize lenM y m = LM at *
      go_enter Tryd.func12, Tryd.ntmps12
      go_wp2_with fail
      refine H1.out.mono ?_
      rintro e w1 ⟨rfl, rfl⟩
      by_cases c : d < 1
      · go_wp2
        go_returns
        exact ⟨rfl, rfl⟩
      · have c2 : LM < d := by omega
        go_wp2
        go_returns
        exact ⟨rfl, rfl⟩
  · have e1 : daysP y m = (0, 4) := if_neg h
    have e2 : dayQ y m d = (0, 4) := if_neg (fun q => h q.1)
    rw [e1] at H1
    rw [e2]
    clear e1 e2
    go_enter Tryd.func12, Tryd.ntmps12
    go_wp2_with fail
    refine H1.out.mono ?_
    rintro e w1 ⟨rfl, rfl⟩
    go_wp2
    go_returns
    exact ⟨rfl, rfl⟩
end Go.Proofs.YtgandogkjcljkaaDoor
