/- The day of a date: the program's and the document's; the document's Leap, Days, aYear. -/
import Derived.Test.YtbnghhmmanleaaaDoorCLeaf
namespace Go.Proofs.YtbnghhmmanleaaaDoor
open Go.RowKit
set_option linter.unusedVariables false
set_option linter.unusedSimpArgs false

set_option maxHeartbeats 400000 in
theorem day_any (y m d : Int) (w : World) (he : Env w) : Calls Tryd.prog 55 #[.int .i64 y, .int .i64 m, .int .i64 d] w fun e w' => e = .returned (.tuple #[.int .i64 (dayQ y m d).1, .int .i64 (dayQ y m d).2]) ∧ w' = w := by
  have H1 := hid (days_any y m w he)
  by_cases h : 1970 ≤ y ∧ y ≤ 2999 ∧ 1 ≤ m ∧ m ≤ 12
  · have e1 : daysP y m = (lenM y m, 0) := if_pos h
    rw [e1] at H1
    by_cases hd : 1 ≤ d ∧ d ≤ lenM y m
    · have e2 : dayQ y m d = (dayP y m d, 0) := if_pos ⟨h, hd⟩
      rw [e2]
      obtain ⟨y0, y1, m0, m1⟩ := h
      have H2 := hid (begins_any y (by omega) (by omega) w)
      have HL : Hid (∀ k : Nat, k < 12 → Calls Tryd.prog 70 #[.int .i64 y, .int .i64 ((k : Int) + 1)] w fun e w' => e = .returned (.int .i64 (lenM y ((k : Int) + 1))) ∧ w' = w) := fun k hk => length_any y _ (by omega) (by omega) w he
      have HB := bgn_bounds y0 (by omega)
      have HC := hid (cum_bounds y)
      have HN := hid (cum_next y)
      have HP := hid (lenM_pos y)
      have d1 : ¬ d < 1 := by omega
      have d2 : ¬ lenM y m < d := by omega
      have dB : d ≤ 31 := by have := lenM_pos y m; omega
      have HD : Hid (dayP y m d = bgn y + cumM y (m - 1).toNat + d - 1) := rfl
      clear he e1 e2
      generalize dayP y m d = R at *
      generalize bgn y = B at *
      generalize hLM : lenM y m = LM at *
      go_enter Tryd.func55, Tryd.ntmps55
      go_wp2_with fail
      refine H1.out.mono ?_
      rintro e w1 ⟨rfl, rfl⟩
      go_wp2_with fail
      refine H2.out.mono ?_
      rintro e w1 ⟨rfl, rfl⟩
      go_wp2
      go_loopw [10, 11] (fun c q wr => ∃ k : Nat, (k : Int) + 1 ≤ m ∧ c = .int .i64 (B + d - 1 + cumM y k) ∧ q = .int .i64 ((k : Int) + 1) ∧ w1 = wr) (fun _ q _ => (m - intOf q).toNat)
      case atStart => exact ⟨0, by omega, by simp [cumM], by simp, rfl⟩
      case round =>
        obtain ⟨k, hk, rfl, rfl, rfl⟩ := hrel
        by_cases c : (k : Int) + 1 < m
        · have L := hid (HL.out k (by omega))
          have n := HN.out k
          have b := HC.out k
          have l := HP.out ((k : Int) + 1)
          generalize lenM y ((k : Int) + 1) = x at *
          have w3 : IntKind.i64.wrap (B + d - 1 + cumM y k + x) = B + d - 1 + cumM y k + x := wrapI _ (by omega) (by omega)
          go_wp2_with fail
          refine L.out.mono ?_
          rintro e w2 ⟨rfl, rfl⟩
          go_wp2
          exact ⟨⟨k + 1, by omega, by rw [n]; go_num, by go_num, by first | rfl | trivial⟩, by simp [intOf]; omega⟩
        · go_wp2
          go_returns
          refine ⟨?_, rfl⟩
          have : (m - 1).toNat = k := by omega
          exact ret_pair (by rw [HD.out, this]; omega)
    · have e2 : dayQ y m d = (0, 4) := if_neg (fun q => hd q.2)
      rw [e2]
      have dB := lenM_pos y m
      clear he e1 e2
      generalize lenM y m = LM at *
      go_enter Tryd.func55, Tryd.ntmps55
      go_wp2_with fail
      refine H1.out.mono ?_
      rintro e w1 ⟨rfl, rfl⟩
      by_cases c : d < 1
      · go_wp2
        go_returns
        exact ⟨rfl, rfl⟩
      · have c2 : LM < d := by omega
        go_wp2
        go_returns
        exact ⟨rfl, rfl⟩
  · have e1 : daysP y m = (0, 4) := if_neg h
    have e2 : dayQ y m d = (0, 4) := if_neg (fun q => h q.1)
    rw [e1] at H1
    rw [e2]
    clear he e1 e2
    go_enter Tryd.func55, Tryd.ntmps55
    go_wp2_with fail
    refine H1.out.mono ?_
    rintro e w1 ⟨rfl, rfl⟩
    go_wp2
    go_returns
    exact ⟨rfl, rfl⟩
theorem daysR_any (y m : Int) (w : World) : Calls Tryd.prog 57 #[.int .i64 y, .int .i64 m] w fun e w' => e = .returned (.tuple #[.int .i64 (daysP y m).1, .int .i64 (daysP y m).2]) ∧ w' = w := by
  by_cases h : 1970 ≤ y ∧ y ≤ 2999 ∧ 1 ≤ m ∧ m ≤ 12
  · have H1 := hid (leapR_any y w)
    have e : daysP y m = (lenM y m, 0) := if_pos h
    rw [e]
    have EL : Hid (lenM y m = if m = 2 then (if leapP y then 29 else 28) else if m = 4 ∨ m = 6 ∨ m = 9 ∨ m = 11 then 30 else 31) := rfl
    obtain ⟨a, b, c, d⟩ := h
    have a' : ¬ y < 1970 := by omega
    have b' : ¬ 2999 < y := by omega
    clear e
    generalize lenM y m = R at *
    generalize leapP y = lp at *
    have hm : m = 2 ∨ m = 1 ∨ m = 3 ∨ m = 4 ∨ m = 5 ∨ m = 6 ∨ m = 7 ∨ m = 8 ∨ m = 9 ∨ m = 10 ∨ m = 11 ∨ m = 12 := by omega
    clear c d
    rcases hm with rfl | hm
    · go_enter Tryd.func57, Tryd.ntmps57
      go_wp2_with fail
      refine H1.out.mono ?_
      rintro e w1 ⟨rfl, rfl⟩
      cases lp
      · go_wp2
        go_returns
        exact ⟨by rw [EL.out]; rfl, rfl⟩
      · go_wp2
        go_returns
        exact ⟨by rw [EL.out]; rfl, rfl⟩
    · clear H1
      rcases hm with rfl | rfl | rfl | rfl | rfl | rfl | rfl | rfl | rfl | rfl | rfl
      all_goals
        go_enter Tryd.func57, Tryd.ntmps57
        go_wp2
        go_returns
        exact ⟨by rw [EL.out]; rfl, rfl⟩
  · have e : daysP y m = (0, 4) := if_neg h
    rw [e]
    clear e
    go_enter Tryd.func57, Tryd.ntmps57
    by_cases a : y < 1970
    · go_wp2
      go_returns
      exact ⟨rfl, rfl⟩
    by_cases b : 2999 < y
    · go_wp2
      go_returns
      exact ⟨rfl, rfl⟩
    by_cases c : m < 1
    · go_wp2
      go_returns
      exact ⟨rfl, rfl⟩
    have d : 12 < m := by omega
    go_wp2
    go_returns
    exact ⟨rfl, rfl⟩
theorem aYear_any (y : Int) (w : World) : Calls Tryd.prog 68 #[.int .i64 y] w fun e w' => e = .returned (.int .i64 (lenY y)) ∧ w' = w := by
  have H1 := hid (leapR_any y w)
  have E : Hid (lenY y = if leapP y then 366 else 365) := rfl
  generalize lenY y = R at *
  generalize leapP y = lp at *
  go_enter Tryd.func68, Tryd.ntmps68
  go_wp2_with fail
  refine H1.out.mono ?_
  rintro e w1 ⟨rfl, rfl⟩
  cases lp
  · go_wp2
    go_ret
    exact ⟨by rw [E.out]; rfl, rfl⟩
  · go_wp2
    go_ret
    exact ⟨by rw [E.out]; rfl, rfl⟩
end Go.Proofs.YtbnghhmmanleaaaDoor
