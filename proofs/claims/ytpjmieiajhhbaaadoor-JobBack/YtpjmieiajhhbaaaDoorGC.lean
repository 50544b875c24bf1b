/- The calendar. -/
import Derived.Test.YtpjmieiajhhbaaaDoorCLeaf
import Derived.Deep.QuietTactic

/- The day of a date: the program's and the document's; the document's Leap, Days, aYear. -/
namespace Go.Proofs.YtpjmieiajhhbaaaDoor
open Go.RowKit
set_option linter.unusedVariables false
set_option linter.unusedSimpArgs false

set_option maxHeartbeats 400000 in
theorem day_any (y m d : Int) (w : World) (he : Env w) : Calls Tryd.prog 97 #[.int .i64 y, .int .i64 m, .int .i64 d] w fun e w' => e = .returned (.tuple #[.int .i64 (dayQ y m d).1, .int .i64 (dayQ y m d).2]) ∧ w' = w := by
  have H1 := hid (days_any y m w he)
  by_cases h : 1970 ≤ y ∧ y ≤ 2999 ∧ 1 ≤ m ∧ m ≤ 12
  · have e1 : daysP y m = (lenM y m, 0) := if_pos h
    rw [e1] at H1
    by_cases hd : 1 ≤ d ∧ d ≤ lenM y m
    · have e2 : dayQ y m d = (dayP y m d, 0) := if_pos ⟨h, hd⟩
      rw [e2]
      obtain ⟨y0, y1, m0, m1⟩ := h
      have H2 := hid (begins_any y (by omega) (by omega) w)
      have HL : Hid (∀ k : Nat, k < 12 → Calls Tryd.prog 106 #[.int .i64 y, .int .i64 ((k : Int) + 1)] w fun e w' => e = .returned (.int .i64 (lenM y ((k : Int) + 1))) ∧ w' = w) := fun k hk => length_any y _ (by omega) (by omega) w he
      have HB := bgn_bounds y0 (by omega)
      have HC := hid (cum_bounds y)
      have HN := hid (cum_next y)
      have HP := hid (lenM_pos y)
      have d1 : ¬ d < 1 := by omega
      have d2 : ¬ lenM y m < d := by omega
      have dB : d ≤ 31 := by have := lenM_pos y m; omega
      have HD : Hid (dayP y m d = bgn y + cumM y (m - 1).toNat + d - 1) := rfl
      clear he e1 e2
      generalize dayP y m d = R at *
      generalize bgn y = B at *
      generalize hLM : lenM y m = LM at *
      go_enter Tryd.func97, Tryd.ntmps97
      go_wp2_with fail
      refine H1.out.mono ?_
      rintro e w1 ⟨rfl, rfl⟩
      go_wp2_with fail
      refine H2.out.mono ?_
      rintro e w1 ⟨rfl, rfl⟩
      go_wp2
      go_loopw [10, 11] (fun c q wr => ∃ k : Nat, (k : Int) + 1 ≤ m ∧ c = .int .i64 (B + d - 1 + cumM y k) ∧ q = .int .i64 ((k : Int) + 1) ∧ w1 = wr) (fun _ q _ => (m - intOf q).toNat)
      case atStart => exact ⟨0, by omega, by simp [cumM], by simp, rfl⟩
      case round =>
        obtain ⟨k, hk, rfl, rfl, rfl⟩ := hrel
        by_cases c : (k : Int) + 1 < m
        · have L := hid (HL.out k (by omega))
          have n := HN.out k
          have b := HC.out k
          have l := HP.out ((k : Int) + 1)
          generalize lenM y ((k : Int) + 1) = x at *
          have w3 : IntKind.i64.wrap (B + d - 1 + cumM y k + x) = B + d - 1 + cumM y k + x := wrapI _ (by omega) (by omega)
          go_wp2_with fail
          refine L.out.mono ?_
          rintro e w2 ⟨rfl, rfl⟩
          go_wp2
          exact ⟨⟨k + 1, by omega, by rw [n]; go_num, by go_num, by first | rfl | trivial⟩, by simp [intOf]; omega⟩
        · go_wp2
          go_returns
          refine ⟨?_, rfl⟩
          have : (m - 1).toNat = k := by omega
          exact ret_pair (by rw [HD.out, this]; omega)
    · have e2 : dayQ y m d = (0, 4) := if_neg (fun q => hd q.2)
      rw [e2]
      have dB := lenM_pos y m
      clear he e1 e2
      generalize lenM y m = LM at *
      go_enter Tryd.func97, Tryd.ntmps97
      go_wp2_with fail
      refine H1.out.mono ?_
      rintro e w1 ⟨rfl, rfl⟩
      by_cases c : d < 1
      · go_wp2
        go_returns
        exact ⟨rfl, rfl⟩
      · have c2 : LM < d := by omega
        go_wp2
        go_returns
        exact ⟨rfl, rfl⟩
  · have e1 : daysP y m = (0, 4) := if_neg h
    have e2 : dayQ y m d = (0, 4) := if_neg (fun q => h q.1)
    rw [e1] at H1
    rw [e2]
    clear he e1 e2
    go_enter Tryd.func97, Tryd.ntmps97
    go_wp2_with fail
    refine H1.out.mono ?_
    rintro e w1 ⟨rfl, rfl⟩
    go_wp2
    go_returns
    exact ⟨rfl, rfl⟩
theorem daysR_any (y m : Int) (w : World) : Calls Tryd.prog 71 #[.int .i64 y, .int .i64 m] w fun e w' => e = .returned (.tuple #[.int .i64 (daysP y m).1, .int .i64 (daysP y m).2]) ∧ w' = w := by
  by_cases h : 1970 ≤ y ∧ y ≤ 2999 ∧ 1 ≤ m ∧ m ≤ 12
  · have H1 := hid (leapR_any y w)
    have e : daysP y m = (lenM y m, 0) := if_pos h
    rw [e]
    have EL : Hid (lenM y m = if m = 2 then (if leapP y then 29 else 28) else if m = 4 ∨ m = 6 ∨ m = 9 ∨ m = 11 then 30 else 31) := rfl
    obtain ⟨a, b, c, d⟩ := h
    have a' : ¬ y < 1970 := by omega
    have b' : ¬ 2999 < y := by omega
    clear e
    generalize lenM y m = R at *
    generalize leapP y = lp at *
    have hm : m = 2 ∨ m = 1 ∨ m = 3 ∨ m = 4 ∨ m = 5 ∨ m = 6 ∨ m = 7 ∨ m = 8 ∨ m = 9 ∨ m = 10 ∨ m = 11 ∨ m = 12 := by omega
    clear c d
    rcases hm with rfl | hm
    · go_enter Tryd.func71, Tryd.ntmps71
      go_wp2_with fail
      refine H1.out.mono ?_
      rintro e w1 ⟨rfl, rfl⟩
      cases lp
      · go_wp2
        go_returns
        exact ⟨by rw [EL.out]; rfl, rfl⟩
      · go_wp2
        go_returns
        exact ⟨by rw [EL.out]; rfl, rfl⟩
    · clear H1
      rcases hm with rfl | rfl | rfl | rfl | rfl | rfl | rfl | rfl | rfl | rfl | rfl
      all_goals
        go_enter Tryd.func71, Tryd.ntmps71
        go_wp2
        go_returns
        exact ⟨by rw [EL.out]; rfl, rfl⟩
  · have e : daysP y m = (0, 4) := if_neg h
    rw [e]
    clear e
    go_enter Tryd.func71, Tryd.ntmps71
    by_cases a : y < 1970
    · go_wp2
      go_returns
      exact ⟨rfl, rfl⟩
    by_cases b : 2999 < y
    · go_wp2
      go_returns
      exact ⟨rfl, rfl⟩
    by_cases c : m < 1
    · go_wp2
      go_returns
      exact ⟨rfl, rfl⟩
    have d : 12 < m := by omega
    go_wp2
    go_returns
    exact ⟨rfl, rfl⟩
theorem aYear_any (y : Int) (w : World) : Calls Tryd.prog 84 #[.int .i64 y] w fun e w' => e = .returned (.int .i64 (lenY y)) ∧ w' = w := by
  have H1 := hid (leapR_any y w)
  have E : Hid (lenY y = if leapP y then 366 else 365) := rfl
  generalize lenY y = R at *
  generalize leapP y = lp at *
  go_enter Tryd.func84, Tryd.ntmps84
  go_wp2_with fail
  refine H1.out.mono ?_
  rintro e w1 ⟨rfl, rfl⟩
  cases lp
  · go_wp2
    go_ret
    exact ⟨by rw [E.out]; rfl, rfl⟩
  · go_wp2
    go_ret
    exact ⟨by rw [E.out]; rfl, rfl⟩
end Go.Proofs.YtpjmieiajhhbaaaDoor

/- The date of a day: the program's and the document's. -/
namespace Go.Proofs.YtpjmieiajhhbaaaDoor
open Go.RowKit
set_option linter.unusedVariables false
set_option linter.unusedSimpArgs false

def retQ (q : Int × Int × Int × Int) : Value := .tuple #[.int .i64 q.1, .int .i64 q.2.1, .int .i64 q.2.2.1, .int .i64 q.2.2.2]
theorem ret_date {n y m d : Int} (h : IsDate n y m d) : Ending.returned (.tuple #[.int .i64 y, .int .i64 m, .int .i64 d, .int .i64 0]) = .returned (retQ (dateQ n)) := by
  obtain ⟨rfl, rfl, rfl⟩ := date_eq h
  have e : dateQ n = (dateY n, dateM n, dateD n, 0) := if_pos h.bounds
  rw [e]
  rfl
set_option maxHeartbeats 400000 in
theorem date_any (n : Int) (w : World) (he : Env w) : Calls Tryd.prog 95 #[.int .i64 n] w fun e w' => e = .returned (retQ (dateQ n)) ∧ w' = w := by
  by_cases h : 0 ≤ n ∧ n < 376200
  · obtain ⟨n0, n1⟩ := h
    have a1 : ¬ n < 0 := by omega
    have a2 : ¬ 376200 ≤ n := by omega
    have HB : Hid (∀ y, 1970 ≤ y → y ≤ 2999 → Calls Tryd.prog 105 #[.int .i64 (y + 1)] w fun e w' => e = .returned (.int .i64 (bgn (y + 1))) ∧ w' = w) := fun y h0 h1 => begins_any (y + 1) (by omega) (by omega) w
    have HB0 : Hid (∀ y, 1970 ≤ y → y ≤ 2999 → Calls Tryd.prog 105 #[.int .i64 y] w fun e w' => e = .returned (.int .i64 (bgn y)) ∧ w' = w) := fun y h0 h1 => begins_any y (by omega) (by omega) w
    have HL : Hid (∀ y (k : Nat), k < 12 → Calls Tryd.prog 106 #[.int .i64 y, .int .i64 ((k : Int) + 1)] w fun e w' => e = .returned (.int .i64 (lenM y ((k : Int) + 1))) ∧ w' = w) := fun y k hk => length_any y _ (by omega) (by omega) w he
    have HF := hid (year_first n0)
    have q1 : Int.tdiv n 366 = n / 366 := Int.tdiv_eq_ediv_of_nonneg n0
    clear he
    go_enter Tryd.func95, Tryd.ntmps95
    go_wp2_with fail
    go_loopw [6] (fun q wr => ∃ y : Int, 1970 ≤ y ∧ Hid (bgn y ≤ n) ∧ q = .int .i64 y ∧ w = wr) (fun q _ => (3000 - intOf q).toNat)
    case atStart => exact ⟨1970 + n / 366, by omega, HF, by first | rfl | (rw [q1]; go_num), rfl⟩
    case round =>
      obtain ⟨y, y0, hy, rfl, rfl⟩ := hrel
      have y1 : y ≤ 2999 := year_end hy n1
      have L := hid (HB.out y y0 y1)
      have L0 := hid (HB0.out y y0 y1)
      have ME : Hid (bgn y ≤ n → n < bgn (y + 1) → ∀ k : Nat, k ≤ 11 → cumM y k ≤ n - bgn y → n - bgn y - cumM y k < lenM y ((k : Int) + 1) → IsDate n y ((k : Int) + 1) (n - bgn y - cumM y k + 1)) := fun h0 h1 k hk c0 c1 => month_end y0 h0 h1 n1 hk c0 c1
      have MO : Hid (n < bgn (y + 1) → ∀ k : Nat, k ≤ 11 → lenM y ((k : Int) + 1) ≤ n - bgn y - cumM y k → k < 11) := fun h1 k hk c1 => month_on h1 hk c1
      have HY : Hid (bgn (y + 1) ≤ n → bgn (y + 1) ≤ n) := fun h => h
      have HBY := bgn_bounds y0 (by omega : y ≤ 3000)
      have HBZ := bgn_bounds (y := y + 1) (by omega) (by omega)
      obtain ⟨Z, hZ⟩ : ∃ Z, Z = bgn (y + 1) := ⟨_, rfl⟩
      rw [← hZ] at L ME MO HBZ
      have hZ := hid hZ
      by_cases c : Z ≤ n
      · go_wp2_with fail
        refine L.out.mono ?_
        rintro e w2 ⟨rfl, rfl⟩
        go_wp2
        exact ⟨⟨y + 1, by omega, by show bgn (y + 1) ≤ n; rw [← hZ.out]; exact c, by go_num, by first | rfl | trivial⟩, by simp [intOf]; omega⟩
      · have HN := hid (cum_next y)
        have HC := hid (cum_bounds y)
        have HP := hid (lenM_pos y)
        have hB : bgn y ≤ n := hy.out
        generalize bgn y = B at *
        go_wp2_with fail
        refine L.out.mono ?_
        rintro e w2 ⟨rfl, rfl⟩
        go_wp2_with fail
        refine L0.out.mono ?_
        rintro e w2 ⟨rfl, rfl⟩
        go_wp2_with fail
        go_loopw [7, 8] (fun q r wr => ∃ k : Nat, k ≤ 11 ∧ 0 ≤ n - B - cumM y k ∧ q = .int .i64 ((k : Int) + 1) ∧ r = .int .i64 (n - B - cumM y k) ∧ w2 = wr) (fun q _ _ => (13 - intOf q).toNat)
        case atStart => exact ⟨0, by omega, by simp [cumM]; omega, by simp, by simp [cumM], rfl⟩
        case round =>
          obtain ⟨k, hk, c0, rfl, rfl, rfl⟩ := hrel
          have K := hid (HL.out y k (by omega))
          have nx := HN.out k
          have l := HP.out ((k : Int) + 1)
          have bb := HC.out k
          have me := hid (ME.out hB (by omega) k hk (by omega))
          have mo := hid (MO.out (by omega) k hk)
          generalize lenM y ((k : Int) + 1) = x at *
          by_cases c2 : x ≤ n - B - cumM y k
          · have k11 := mo.out c2
            go_wp2_with fail
            refine K.out.mono ?_
            rintro e w3 ⟨rfl, rfl⟩
            go_wp2_with fail
            refine K.out.mono ?_
            rintro e w3 ⟨rfl, rfl⟩
            go_wp2
            exact ⟨⟨k + 1, by omega, by rw [nx]; omega, by go_num, by rw [nx]; go_num, by first | rfl | trivial⟩, by simp [intOf]; omega⟩
          · have dd := hid (me.out (by omega))
            go_wp2_with fail
            refine K.out.mono ?_
            rintro e w3 ⟨rfl, rfl⟩
            go_wp2
            go_returns
            exact ⟨ret_date dd.out, rfl⟩
  · have e : dateQ n = (0, 0, 0, 4) := if_neg h
    rw [e]
    clear e he
    go_enter Tryd.func95, Tryd.ntmps95
    by_cases c : n < 0
    · go_wp2
      go_returns
      exact ⟨rfl, rfl⟩
    · have c2 : 376200 ≤ n := by omega
      go_wp2
      go_returns
      exact ⟨rfl, rfl⟩
set_option maxHeartbeats 400000 in
theorem dateR_any (n : Int) (w : World) : Calls Tryd.prog 70 #[.int .i64 n] w fun e w' => e = .returned (retQ (dateQ n)) ∧ w' = w := by
  by_cases h : 0 ≤ n ∧ n < 376200
  · obtain ⟨n0, n1⟩ := h
    have a1 : ¬ n < 0 := by omega
    have a2 : ¬ 376200 ≤ n := by omega
    have HY : Hid (∀ y, Calls Tryd.prog 84 #[.int .i64 y] w fun e w' => e = .returned (.int .i64 (bgn (y + 1) - bgn y)) ∧ w' = w) := by
      intro y
      rw [show bgn (y + 1) - bgn y = lenY y by rw [bgn_next]; omega]
      exact aYear_any _ w
    have HL : Hid (∀ y (k : Nat), 1970 ≤ y → y ≤ 2999 → k < 12 → Calls Tryd.prog 71 #[.int .i64 y, .int .i64 ((k : Int) + 1)] w fun e w' => e = .returned (.tuple #[.int .i64 (lenM y ((k : Int) + 1)), .int .i64 0]) ∧ w' = w) := by
      intro y k y0 y1 hk
      have := daysR_any y ((k : Int) + 1) w
      rw [show daysP y ((k : Int) + 1) = (lenM y ((k : Int) + 1), 0) from if_pos ⟨y0, y1, by omega, by omega⟩] at this
      exact this
    go_enter Tryd.func70, Tryd.ntmps70
    go_wp2_with fail
    go_loopw [0, 6] (fun r q wr => ∃ y : Int, 1970 ≤ y ∧ Hid (bgn y ≤ n) ∧ r = .int .i64 (n - bgn y) ∧ q = .int .i64 y ∧ w = wr) (fun _ q _ => (3000 - intOf q).toNat)
    case atStart => exact ⟨1970, by omega, by show bgn 1970 ≤ n; rw [bgn_first]; exact n0, by rw [bgn_first]; simp, rfl, rfl⟩
    case round =>
      obtain ⟨y, y0, hy, rfl, rfl, rfl⟩ := hrel
      have y1 : y ≤ 2999 := year_end hy n1
      have L := hid (HY.out y)
      have ME : Hid (bgn y ≤ n → n < bgn (y + 1) → ∀ k : Nat, k ≤ 11 → cumM y k ≤ n - bgn y → n - bgn y - cumM y k < lenM y ((k : Int) + 1) → IsDate n y ((k : Int) + 1) (n - bgn y - cumM y k + 1)) := fun h0 h1 k hk c0 c1 => month_end y0 h0 h1 n1 hk c0 c1
      have MO : Hid (n < bgn (y + 1) → ∀ k : Nat, k ≤ 11 → lenM y ((k : Int) + 1) ≤ n - bgn y - cumM y k → k < 11) := fun h1 k hk c1 => month_on h1 hk c1
      have HBY := bgn_bounds y0 (by omega : y ≤ 3000)
      have HBZ := bgn_bounds (y := y + 1) (by omega) (by omega)
      obtain ⟨Z, hZ⟩ : ∃ Z, Z = bgn (y + 1) := ⟨_, rfl⟩
      rw [← hZ] at L ME MO HBZ
      have hZ := hid hZ
      have hB : bgn y ≤ n := hy.out
      have HN := hid (cum_next y)
      have HC := hid (cum_bounds y)
      have HP := hid (lenM_pos y)
      generalize bgn y = B at *
      by_cases c : Z ≤ n
      · have c' : Z - B ≤ n - B := by omega
        go_wp2_with fail
        refine L.out.mono ?_
        rintro e w2 ⟨rfl, rfl⟩
        go_wp2_with fail
        refine L.out.mono ?_
        rintro e w2 ⟨rfl, rfl⟩
        go_wp2
        exact ⟨⟨y + 1, by omega, by show bgn (y + 1) ≤ n; rw [← hZ.out]; exact c, by rw [← hZ.out]; go_num, by go_num, by first | rfl | trivial⟩, by simp [intOf]; omega⟩
      · have c' : ¬ Z - B ≤ n - B := by omega
        go_wp2_with fail
        refine L.out.mono ?_
        rintro e w2 ⟨rfl, rfl⟩
        go_wp2_with fail
        go_loopw [0, 7] (fun r q wr => ∃ k : Nat, k ≤ 11 ∧ 0 ≤ n - B - cumM y k ∧ r = .int .i64 (n - B - cumM y k) ∧ q = .int .i64 ((k : Int) + 1) ∧ w2 = wr) (fun _ q _ => (13 - intOf q).toNat)
        case atStart => exact ⟨0, by omega, by simp [cumM]; omega, by simp [cumM], by simp, rfl⟩
        case round =>
          obtain ⟨k, hk, c0, rfl, rfl, rfl⟩ := hrel
          have K := hid (HL.out y k y0 y1 (by omega))
          have nx := HN.out k
          have l := HP.out ((k : Int) + 1)
          have bb := HC.out k
          have me := hid (ME.out hB (by omega) k hk (by omega))
          have mo := hid (MO.out (by omega) k hk)
          generalize lenM y ((k : Int) + 1) = x at *
          by_cases c2 : n - B - cumM y k < x
          · have dd := hid (me.out (by omega))
            go_wp2_with fail
            refine K.out.mono ?_
            rintro e w3 ⟨rfl, rfl⟩
            go_wp2
            go_returns
            exact ⟨ret_date dd.out, rfl⟩
          · have k11 := mo.out (by omega)
            go_wp2_with fail
            refine K.out.mono ?_
            rintro e w3 ⟨rfl, rfl⟩
            go_wp2
            exact ⟨⟨k + 1, by omega, by rw [nx]; omega, by rw [nx]; go_num, by go_num, by first | rfl | trivial⟩, by simp [intOf]; omega⟩
  · have e : dateQ n = (0, 0, 0, 4) := if_neg h
    rw [e]
    clear e
    go_enter Tryd.func70, Tryd.ntmps70
    by_cases c : n < 0
    · go_wp2
      go_returns
      exact ⟨rfl, rfl⟩
    · have c2 : 376200 ≤ n := by omega
      go_wp2
      go_returns
      exact ⟨rfl, rfl⟩
end Go.Proofs.YtpjmieiajhhbaaaDoor

/- A second's moment: the program's. -/
namespace Go.Proofs.YtpjmieiajhhbaaaDoor
open Go.RowKit
set_option linter.unusedVariables false
set_option linter.unusedSimpArgs false

/-- Seven numbers as a struct or an array. -/
def sevV (a b c d e f g : Int) : Value := .agg #[.int .i64 a, .int .i64 b, .int .i64 c, .int .i64 d, .int .i64 e, .int .i64 f, .int .i64 g]
theorem results_sev {fn : Func} {q : Nat} {t : TypeId} (h : fn.results = #[.cell q t]) (hl : t = 170 ∨ t = 176) (tmps : Array Value) (w : World) {N : Nat} {a b c d e f g : Value} (ht : tmps.getD q undef = .pointer (some ⟨N, 0, none⟩))
    (hc : w.heap[N]? = some (.cells #[a, b, c, d, e, f, g] t)) : (results fn tmps).run Tryd.prog w = .ok (.agg #[a, b, c, d, e, f, g]) w := by
  have c0 := blk_cell hc 0 a rfl
  have c1 := blk_cell hc 1 b rfl
  have c2 := blk_cell hc 2 c rfl
  have c3 := blk_cell hc 3 d rfl
  have c4 := blk_cell hc 4 e rfl
  have c5 := blk_cell hc 5 f rfl
  have c6 := blk_cell hc 6 g rfl
  have ht' : tmps[q]?.getD undef = .pointer (some ⟨N, 0, none⟩) := by simpa using ht
  rcases hl with rfl | rfl
  · simp only [results, h]
    simp [ht', go_sem, c0, c1, c2, c3, c4, c5, c6]
  · simp only [results, h]
    simp [ht', go_sem, c0, c1, c2, c3, c4, c5, c6]
theorem momentOf_any (a b c d e f g : Int) (w : World) : Calls Tryd.prog 114 #[sevV a b c d e f g] w fun x w' => x = .returned (sevV a b c d e f g) ∧ Below w.heap.size w w' := by
  unfold sevV
  go_enter Tryd.func114, Tryd.ntmps114
  go_wp2
  go_returns
  exact ⟨rfl, up_al (up_alloc w _) _⟩
/-- Seven numbers, told as a list. -/
def sevL (l : List Int) : Value := .agg (l.map (Value.int .i64)).toArray
def retM (q : List Int × Int) : Value := .tuple #[sevL q.1, .int .i64 q.2]
set_option maxHeartbeats 1000000 in
theorem split_any (t : Int) (w : World) (he : Env w) : Calls Tryd.prog 113 #[.int .i64 t] w fun e w' => e = .returned (retM (momP t)) ∧ Below w.heap.size w w' := by
  by_cases h : 0 ≤ t ∧ t < 32503680000
  · have e : momP t = ([dateY (t / 86400), dateM (t / 86400), dateD (t / 86400), hourT t, minT t, secT t, (t / 86400 + 4) % 7], 0) := if_pos h
    rw [e]
    obtain ⟨t0, t1⟩ := h
    have a1 : ¬ t < 0 := by omega
    have a2 : ¬ 32503680000 ≤ t := by omega
    obtain ⟨k3, k4, k5, k6⟩ := clock (t := t)
    have q : dateQ (t / 86400) = (dateY (t / 86400), dateM (t / 86400), dateD (t / 86400), 0) := if_pos ⟨by omega, by omega⟩
    have HD : Hid (∀ w', Env w' → Calls Tryd.prog 95 #[.int .i64 (t / 60 / 60 / 24)] w' fun e w'' => e = .returned (.tuple #[.int .i64 (dateY (t / 86400)), .int .i64 (dateM (t / 86400)), .int .i64 (dateD (t / 86400)), .int .i64 0]) ∧ w'' = w') := by
      intro w' hw'
      have := date_any (t / 86400) w' hw'
      rw [q] at this
      rw [k3]
      exact this
    have HW : Hid (∀ w', Calls Tryd.prog 116 #[.int .i64 (t / 60 / 60 / 24)] w' fun e w'' => e = .returned (.int .i64 ((t / 86400 + 4) % 7)) ∧ w'' = w') := by
      intro w'
      rw [k3]
      exact weekday_any _ (by omega) (by omega) w'
    rw [← k4, ← k5, ← k6]
    have s0 : ∀ o1 o2, ((w.alloc o1).alloc o2).cell? ⟨4, 0, none⟩ = some (.int .i64 24) := fun o1 o2 => (he.up (up_al (up_alloc w o1) o2)).siz 0 24 rfl
    have s1 : ∀ o1 o2, ((w.alloc o1).alloc o2).cell? ⟨4, 1, none⟩ = some (.int .i64 60) := fun o1 o2 => (he.up (up_al (up_alloc w o1) o2)).siz 1 60 rfl
    have s2 : ∀ o1 o2, ((w.alloc o1).alloc o2).cell? ⟨4, 2, none⟩ = some (.int .i64 60) := fun o1 o2 => (he.up (up_al (up_alloc w o1) o2)).siz 2 60 rfl
    have HE := hid he
    clear e q k3 k4 k5 k6 he
    generalize dateY (t / 86400) = y at *
    generalize dateM (t / 86400) = m at *
    generalize dateD (t / 86400) = d at *
    generalize (t / 86400 + 4) % 7 = wd at *
    go_enter Tryd.func113, Tryd.ntmps113
    go_wp2_with fail
    refine wp_loop_rounds 4 ?_
    rw [rounds_succ]
    go_wp2
    rw [rounds_succ]
    go_wp2
    rw [rounds_succ]
    go_wp2
    rw [rounds_succ]
    go_wp2_with fail
    refine (HD.out _ (HE.out.up (up_al (up_alloc w _) _))).mono ?_
    rintro e w3 ⟨rfl, rfl⟩
    go_wp2_with fail
    refine (HW.out _).mono ?_
    rintro e w3 ⟨rfl, rfl⟩
    go_wp2
    go_returns
    exact ⟨rfl, up_al (up_alloc w _) _⟩
  · have e : momP t = ([0, 0, 0, 0, 0, 0, 0], 4) := if_neg h
    rw [e]
    clear e he
    go_enter Tryd.func113, Tryd.ntmps113
    by_cases c : t < 0
    · go_wp2
      go_returns
      exact ⟨rfl, up_al (up_alloc w _) _⟩
    · have c2 : 32503680000 ≤ t := by omega
      go_wp2
      go_returns
      exact ⟨rfl, up_al (up_alloc w _) _⟩
end Go.Proofs.YtpjmieiajhhbaaaDoor

/- Split and Join: the program's and the document's. -/
namespace Go.Proofs.YtpjmieiajhhbaaaDoor
open Go.RowKit
set_option linter.unusedVariables false
set_option linter.unusedSimpArgs false

theorem results_sev2 {fn : Func} {q r : Nat} {t : TypeId} (h : fn.results = #[.cell q t, .tmp r]) (hl : t = 170 ∨ t = 176) (tmps : Array Value) (w : World) {N : Nat} {a b c d e f g : Value} (ht : tmps.getD q undef = .pointer (some ⟨N, 0, none⟩))
    (hc : w.heap[N]? = some (.cells #[a, b, c, d, e, f, g] t)) : (results fn tmps).run Tryd.prog w = .ok (.tuple #[.agg #[a, b, c, d, e, f, g], tmps.getD r undef]) w := by
  have c0 := blk_cell hc 0 a rfl
  have c1 := blk_cell hc 1 b rfl
  have c2 := blk_cell hc 2 c rfl
  have c3 := blk_cell hc 3 d rfl
  have c4 := blk_cell hc 4 e rfl
  have c5 := blk_cell hc 5 f rfl
  have c6 := blk_cell hc 6 g rfl
  have ht' : tmps[q]?.getD undef = .pointer (some ⟨N, 0, none⟩) := by simpa using ht
  rcases hl with rfl | rfl
  · simp only [results, h]
    simp [ht', go_sem, c0, c1, c2, c3, c4, c5, c6]
  · simp only [results, h]
    simp [ht', go_sem, c0, c1, c2, c3, c4, c5, c6]
theorem set7_blk {w : World} {N : Nat} {t : TypeId} {x0 x1 x2 x3 x4 x5 x6 : Value} (h : w.heap[N]? = some (.cells #[x0, x1, x2, x3, x4, x5, x6] t)) (a b c d e f g : Value) : (((((((w.setCell ⟨N, 0, none⟩ a).setCell ⟨N, 1, none⟩ b).setCell ⟨N, 2, none⟩ c).setCell ⟨N, 3, none⟩ d).setCell ⟨N, 4, none⟩ e).setCell ⟨N, 5, none⟩ f).setCell ⟨N, 6, none⟩ g).heap[N]? = some (.cells #[a, b, c, d, e, f, g] t) := by
  have := blk_set (blk_set (blk_set (blk_set (blk_set (blk_set (blk_set h 0 a) 1 b) 2 c) 3 d) 4 e) 5 f) 6 g
  simpa only [List.setIfInBounds_toArray, List.set_cons_zero, List.set_cons_succ] using this
theorem set7_grown (w : World) (N : Nat) (a b c d e f g : Value) : w.grownBy (((((((w.setCell ⟨N, 0, none⟩ a).setCell ⟨N, 1, none⟩ b).setCell ⟨N, 2, none⟩ c).setCell ⟨N, 3, none⟩ d).setCell ⟨N, 4, none⟩ e).setCell ⟨N, 5, none⟩ f).setCell ⟨N, 6, none⟩ g) (some N) :=
  grown_trans (grown_trans (grown_trans (grown_trans (grown_trans (grown_trans (grown_set w ⟨N, 0, none⟩ a) (grown_set _ ⟨N, 1, none⟩ b)) (grown_set _ ⟨N, 2, none⟩ c)) (grown_set _ ⟨N, 3, none⟩ d)) (grown_set _ ⟨N, 4, none⟩ e)) (grown_set _ ⟨N, 5, none⟩ f)) (grown_set _ ⟨N, 6, none⟩ g)
theorem sev_of (q : List Int × Int) (h : q.1.length = 7) : ∃ a b c d e f g x, q = ([a, b, c, d, e, f, g], x) := by
  obtain ⟨l, x⟩ := q
  match l, h with
  | [a, b, c, d, e, f, g], _ => exact ⟨a, b, c, d, e, f, g, x, rfl⟩
theorem momP_len (t : Int) : (momP t).1.length = 7 := by unfold momP; split <;> rfl
set_option maxHeartbeats 400000 in
theorem Split_any (t : Int) (w : World) (he : Env w) : Calls Tryd.prog 107 #[.int .i64 t] w fun e w' => e = .returned (retM (momP t)) ∧ Below w.heap.size w w' := by
  have H1 : Hid (∀ w', Below w.heap.size w w' → Calls Tryd.prog 113 #[.int .i64 t] w' fun e w'' => e = .returned (retM (momP t)) ∧ Below w'.heap.size w' w'') := fun w' hb => split_any t w' (he.up hb)
  obtain ⟨a, b, c, d, e, f, g, x, q⟩ := sev_of (momP t) (momP_len t)
  rw [q] at H1 ⊢
  clear q he
  have R : retM ([a, b, c, d, e, f, g], x) = .tuple #[sevV a b c d e f g, .int .i64 x] := rfl
  rw [R] at H1 ⊢
  clear R
  have HM : Hid (∀ w', Calls Tryd.prog 114 #[sevV a b c d e f g] w' fun x w'' => x = .returned (sevV a b c d e f g) ∧ Below w'.heap.size w' w'') := fun w' => momentOf_any a b c d e f g w'
  unfold sevV at *
  go_enter Tryd.func107, Tryd.ntmps107
  go_wp2_with fail
  refine (H1.out _ (up_alloc w _)).mono ?_
  rintro e w1 ⟨rfl, hb1⟩
  have hk := blk_up (blk_new w _) hb1
  have hb1 := up_trans (up_alloc w _) hb1
  go_wp2_with fail
  refine (HM.out _).mono ?_
  rintro e w2 ⟨rfl, hb2⟩
  have hk := blk_up hk (up_trans (up_alloc w1 _) hb2)
  have hb2 := up_trans (up_al hb1 _) hb2
  have c0 := blk_cell hk 0 _ rfl
  have c1 := blk_cell hk 1 _ rfl
  have c2 := blk_cell hk 2 _ rfl
  have c3 := blk_cell hk 3 _ rfl
  have c4 := blk_cell hk 4 _ rfl
  have c5 := blk_cell hk 5 _ rfl
  have c6 := blk_cell hk 6 _ rfl
  have f0 := blk_frozen hk 0
  have f1 := blk_frozen hk 1
  have f2 := blk_frozen hk 2
  have f3 := blk_frozen hk 3
  have f4 := blk_frozen hk 4
  have f5 := blk_frozen hk 5
  have f6 := blk_frozen hk 6
  go_wp2
  refine bodyPost_ret (results_sev2 rfl (.inl rfl) _ _ rfl (set7_blk hk _ _ _ _ _ _ _)) rfl ?_
  exact ⟨rfl, hb2.grown (set7_grown _ _ _ _ _ _ _ _ _) (Nat.le_trans (Nat.le_refl _) hb2.size) (fun k hk => by cases hk; exact Nat.le_refl _)⟩
theorem cells_int : Tryd.prog.cellsOf 3 = 1 := by kernel_rfl
theorem part_int (w : World) (xs : Array Value) (j : Nat) (v : Value) (h : xs[j]? = some v) : (part 3 xs j).run Tryd.prog w = .ok v w := run_part_plain w (by kernel_rfl) h
theorem size_at (w : World) (k : Nat) (x : Int) (h : ([24, 60, 60] : List Int)[k]? = some x) : (Instr.index 116 (.agg #[.int .i64 24, .int .i64 60, .int .i64 60]) (.int .i64 (k : Int))).run Tryd.prog w = .ok (.int .i64 x) w := by
  have hk : k < 3 := (List.getElem?_eq_some_iff.1 h).1
  have p : ∀ j v, (#[Value.int .i64 24, .int .i64 60, .int .i64 60] : Array Value)[j]? = some v → (part 3 #[Value.int .i64 24, .int .i64 60, .int .i64 60] j).run Tryd.prog w = .ok v w := fun j v h => part_int w _ j v h
  have p0 := p 0 _ rfl
  have p1 := p 1 _ rfl
  have p2 := p 2 _ rfl
  match k, hk, h with
  | 0, _, h =>
    cases h
    simp [Instr.index, run_underlying Tryd.underlying116, asIntOf, cells_int, go_sem]
  | 1, _, h =>
    cases h
    simp [Instr.index, run_underlying Tryd.underlying116, asIntOf, cells_int, go_sem]
  | 2, _, h =>
    cases h
    simp [Instr.index, run_underlying Tryd.underlying116, asIntOf, cells_int, go_sem]
set_option maxHeartbeats 1000000 in
theorem SplitR_any (t : Int) (w : World) : Calls Tryd.prog 51 #[.int .i64 t] w fun e w' => e = .returned (retM (momP t)) ∧ Below w.heap.size w w' := by
  by_cases h : 0 ≤ t ∧ t < 32503680000
  · have e : momP t = ([dateY (t / 86400), dateM (t / 86400), dateD (t / 86400), hourT t, minT t, secT t, (t / 86400 + 4) % 7], 0) := if_pos h
    rw [e]
    obtain ⟨t0, t1⟩ := h
    have a1 : ¬ t < 0 := by omega
    have a2 : ¬ 32503680000 ≤ t := by omega
    have k4 : t % 60 = secT t := rfl
    have k5 : t % 86400 / 60 % 60 = minT t := by unfold minT; omega
    have k6 : t % 86400 / 3600 = hourT t := by unfold hourT; omega
    have q : dateQ (t / 86400) = (dateY (t / 86400), dateM (t / 86400), dateD (t / 86400), 0) := if_pos ⟨by omega, by omega⟩
    have HD : Hid (∀ w', Calls Tryd.prog 70 #[.int .i64 (t / 86400)] w' fun e w'' => e = .returned (.tuple #[.int .i64 (dateY (t / 86400)), .int .i64 (dateM (t / 86400)), .int .i64 (dateD (t / 86400)), .int .i64 0]) ∧ w'' = w') := by
      intro w'
      have := dateR_any (t / 86400) w'
      rw [q] at this
      exact this
    rw [← k4, ← k5, ← k6]
    clear e q k4 k5 k6
    generalize dateY (t / 86400) = y at *
    generalize dateM (t / 86400) = m at *
    generalize dateD (t / 86400) = d at *
    go_enter Tryd.func51, Tryd.ntmps51
    go_wp2_with fail
    refine (HD.out _).mono ?_
    rintro e w3 ⟨rfl, rfl⟩
    go_wp2
    go_returns
    exact ⟨rfl, up_alloc w _⟩
  · have e : momP t = ([0, 0, 0, 0, 0, 0, 0], 4) := if_neg h
    rw [e]
    clear e
    go_enter Tryd.func51, Tryd.ntmps51
    by_cases c : t < 0
    · go_wp2
      go_returns
      exact ⟨rfl, up_alloc w _⟩
    · have c2 : 32503680000 ≤ t := by omega
      go_wp2
      go_returns
      exact ⟨rfl, up_alloc w _⟩
end Go.Proofs.YtpjmieiajhhbaaaDoor
