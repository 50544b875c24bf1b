/- The date of a day: the program's and the document's. -/
import Derived.Test.YtbnghhmmanleaaaDoorCDay
namespace Go.Proofs.YtbnghhmmanleaaaDoor
open Go.RowKit
set_option linter.unusedVariables false
set_option linter.unusedSimpArgs false

def retQ (q : Int × Int × Int × Int) : Value := .tuple #[.int .i64 q.1, .int .i64 q.2.1, .int .i64 q.2.2.1, .int .i64 q.2.2.2]
theorem ret_date {n y m d : Int} (h : IsDate n y m d) : Ending.returned (.tuple #[.int .i64 y, .int .i64 m, .int .i64 d, .int .i64 0]) = .returned (retQ (dateQ n)) := by
  obtain ⟨rfl, rfl, rfl⟩ := date_eq h
  have e : dateQ n = (dateY n, dateM n, dateD n, 0) := if_pos h.bounds
  rw [e]
  rfl
set_option maxHeartbeats 400000 in
theorem date_any (n : Int) (w : World) (he : Env w) : Calls Tryd.prog 53 #[.int .i64 n] w fun e w' => e = .returned (retQ (dateQ n)) ∧ w' = w := by
  by_cases h : 0 ≤ n ∧ n < 376200
  · obtain ⟨n0, n1⟩ := h
    have a1 : ¬ n < 0 := by omega
    have a2 : ¬ 376200 ≤ n := by omega
    have HB : Hid (∀ y, 1970 ≤ y → y ≤ 2999 → Calls Tryd.prog 69 #[.int .i64 (y + 1)] w fun e w' => e = .returned (.int .i64 (bgn (y + 1))) ∧ w' = w) := fun y h0 h1 => begins_any (y + 1) (by omega) (by omega) w
    have HB0 : Hid (∀ y, 1970 ≤ y → y ≤ 2999 → Calls Tryd.prog 69 #[.int .i64 y] w fun e w' => e = .returned (.int .i64 (bgn y)) ∧ w' = w) := fun y h0 h1 => begins_any y (by omega) (by omega) w
    have HL : Hid (∀ y (k : Nat), k < 12 → Calls Tryd.prog 70 #[.int .i64 y, .int .i64 ((k : Int) + 1)] w fun e w' => e = .returned (.int .i64 (lenM y ((k : Int) + 1))) ∧ w' = w) := fun y k hk => length_any y _ (by omega) (by omega) w he
    have HF := hid (year_first n0)
    have q1 : Int.tdiv n 366 = n / 366 := Int.tdiv_eq_ediv_of_nonneg n0
    clear he
    go_enter Tryd.func53, Tryd.ntmps53
    go_wp2_with fail
    go_loopw [6] (fun q wr => ∃ y : Int, 1970 ≤ y ∧ Hid (bgn y ≤ n) ∧ q = .int .i64 y ∧ w = wr) (fun q _ => (3000 - intOf q).toNat)
    case atStart => exact ⟨1970 + n / 366, by omega, HF, by first | rfl | (rw [q1]; go_num), rfl⟩
    case round =>
      obtain ⟨y, y0, hy, rfl, rfl⟩ := hrel
      have y1 : y ≤ 2999 := year_end hy n1
      have L := hid (HB.out y y0 y1)
      have L0 := hid (HB0.out y y0 y1)
      have ME : Hid (bgn y ≤ n → n < bgn (y + 1) → ∀ k : Nat, k ≤ 11 → cumM y k ≤ n - bgn y → n - bgn y - cumM y k < lenM y ((k : Int) + 1) → IsDate n y ((k : Int) + 1) (n - bgn y - cumM y k + 1)) := fun h0 h1 k hk c0 c1 => month_end y0 h0 h1 n1 hk c0 c1
      have MO : Hid (n < bgn (y + 1) → ∀ k : Nat, k ≤ 11 → lenM y ((k : Int) + 1) ≤ n - bgn y - cumM y k → k < 11) := fun h1 k hk c1 => month_on h1 hk c1
      have HY : Hid (bgn (y + 1) ≤ n → bgn (y + 1) ≤ n) := fun h => h
      have HBY := bgn_bounds y0 (by omega : y ≤ 3000)
      have HBZ := bgn_bounds (y := y + 1) (by omega) (by omega)
      obtain ⟨Z, hZ⟩ : ∃ Z, Z = bgn (y + 1) := ⟨_, rfl⟩
      rw [← hZ] at L ME MO HBZ
      have hZ := hid hZ
      by_cases c : Z ≤ n
      · go_wp2_with fail
        refine L.out.mono ?_
        rintro e w2 ⟨rfl, rfl⟩
        go_wp2
        exact ⟨⟨y + 1, by omega, by show bgn (y + 1) ≤ n; rw [← hZ.out]; exact c, by go_num, by first | rfl | trivial⟩, by simp [intOf]; omega⟩
      · have HN := hid (cum_next y)
        have HC := hid (cum_bounds y)
        have HP := hid (lenM_pos y)
        have hB : bgn y ≤ n := hy.out
        generalize bgn y = B at *
        go_wp2_with fail
        refine L.out.mono ?_
        rintro e w2 ⟨rfl, rfl⟩
        go_wp2_with fail
        refine L0.out.mono ?_
        rintro e w2 ⟨rfl, rfl⟩
        go_wp2_with fail
        go_loopw [7, 8] (fun q r wr => ∃ k : Nat, k ≤ 11 ∧ 0 ≤ n - B - cumM y k ∧ q = .int .i64 ((k : Int) + 1) ∧ r = .int .i64 (n - B - cumM y k) ∧ w2 = wr) (fun q _ _ => (13 - intOf q).toNat)
        case atStart => exact ⟨0, by omega, by simp [cumM]; omega, by simp, by simp [cumM], rfl⟩
        case round =>
          obtain ⟨k, hk, c0, rfl, rfl, rfl⟩ := hrel
          have K := hid (HL.out y k (by omega))
          have nx := HN.out k
          have l := HP.out ((k : Int) + 1)
          have bb := HC.out k
          have me := hid (ME.out hB (by omega) k hk (by omega))
          have mo := hid (MO.out (by omega) k hk)
          generalize lenM y ((k : Int) + 1) = x at *
          by_cases c2 : x ≤ n - B - cumM y k
          · have k11 := mo.out c2
            go_wp2_with fail
            refine K.out.mono ?_
            rintro e w3 ⟨rfl, rfl⟩
            go_wp2_with fail
            refine K.out.mono ?_
            rintro e w3 ⟨rfl, rfl⟩
            go_wp2
            exact ⟨⟨k + 1, by omega, by rw [nx]; omega, by go_num, by rw [nx]; go_num, by first | rfl | trivial⟩, by simp [intOf]; omega⟩
          · have dd := hid (me.out (by omega))
            go_wp2_with fail
            refine K.out.mono ?_
            rintro e w3 ⟨rfl, rfl⟩
            go_wp2
            go_returns
            exact ⟨ret_date dd.out, rfl⟩
  · have e : dateQ n = (0, 0, 0, 4) := if_neg h
    rw [e]
    clear e he
    go_enter Tryd.func53, Tryd.ntmps53
    by_cases c : n < 0
    · go_wp2
      go_returns
      exact ⟨rfl, rfl⟩
    · have c2 : 376200 ≤ n := by omega
      go_wp2
      go_returns
      exact ⟨rfl, rfl⟩
set_option maxHeartbeats 400000 in
theorem dateR_any (n : Int) (w : World) : Calls Tryd.prog 52 #[.int .i64 n] w fun e w' => e = .returned (retQ (dateQ n)) ∧ w' = w := by
  by_cases h : 0 ≤ n ∧ n < 376200
  · obtain ⟨n0, n1⟩ := h
    have a1 : ¬ n < 0 := by omega
    have a2 : ¬ 376200 ≤ n := by omega
    have HY : Hid (∀ y, Calls Tryd.prog 68 #[.int .i64 y] w fun e w' => e = .returned (.int .i64 (bgn (y + 1) - bgn y)) ∧ w' = w) := by
      intro y
      rw [show bgn (y + 1) - bgn y = lenY y by rw [bgn_next]; omega]
      exact aYear_any _ w
    have HL : Hid (∀ y (k : Nat), 1970 ≤ y → y ≤ 2999 → k < 12 → Calls Tryd.prog 57 #[.int .i64 y, .int .i64 ((k : Int) + 1)] w fun e w' => e = .returned (.tuple #[.int .i64 (lenM y ((k : Int) + 1)), .int .i64 0]) ∧ w' = w) := by
      intro y k y0 y1 hk
      have := daysR_any y ((k : Int) + 1) w
      rw [show daysP y ((k : Int) + 1) = (lenM y ((k : Int) + 1), 0) from if_pos ⟨y0, y1, by omega, by omega⟩] at this
      exact this
    go_enter Tryd.func52, Tryd.ntmps52
    go_wp2_with fail
    go_loopw [0, 6] (fun r q wr => ∃ y : Int, 1970 ≤ y ∧ Hid (bgn y ≤ n) ∧ r = .int .i64 (n - bgn y) ∧ q = .int .i64 y ∧ w = wr) (fun _ q _ => (3000 - intOf q).toNat)
    case atStart => exact ⟨1970, by omega, by show bgn 1970 ≤ n; rw [bgn_first]; exact n0, by rw [bgn_first]; simp, rfl, rfl⟩
    case round =>
      obtain ⟨y, y0, hy, rfl, rfl, rfl⟩ := hrel
      have y1 : y ≤ 2999 := year_end hy n1
      have L := hid (HY.out y)
      have ME : Hid (bgn y ≤ n → n < bgn (y + 1) → ∀ k : Nat, k ≤ 11 → cumM y k ≤ n - bgn y → n - bgn y - cumM y k < lenM y ((k : Int) + 1) → IsDate n y ((k : Int) + 1) (n - bgn y - cumM y k + 1)) := fun h0 h1 k hk c0 c1 => month_end y0 h0 h1 n1 hk c0 c1
      have MO : Hid (n < bgn (y + 1) → ∀ k : Nat, k ≤ 11 → lenM y ((k : Int) + 1) ≤ n - bgn y - cumM y k → k < 11) := fun h1 k hk c1 => month_on h1 hk c1
      have HBY := bgn_bounds y0 (by omega : y ≤ 3000)
      have HBZ := bgn_bounds (y := y + 1) (by omega) (by omega)
      obtain ⟨Z, hZ⟩ : ∃ Z, Z = bgn (y + 1) := ⟨_, rfl⟩
      rw [← hZ] at L ME MO HBZ
      have hZ := hid hZ
      have hB : bgn y ≤ n := hy.out
      have HN := hid (cum_next y)
      have HC := hid (cum_bounds y)
      have HP := hid (lenM_pos y)
      generalize bgn y = B at *
      by_cases c : Z ≤ n
      · have c' : Z - B ≤ n - B := by omega
        go_wp2_with fail
        refine L.out.mono ?_
        rintro e w2 ⟨rfl, rfl⟩
        go_wp2_with fail
        refine L.out.mono ?_
        rintro e w2 ⟨rfl, rfl⟩
        go_wp2
        exact ⟨⟨y + 1, by omega, by show bgn (y + 1) ≤ n; rw [← hZ.out]; exact c, by rw [← hZ.out]; go_num, by go_num, by first | rfl | trivial⟩, by simp [intOf]; omega⟩
      · have c' : ¬ Z - B ≤ n - B := by omega
        go_wp2_with fail
        refine L.out.mono ?_
        rintro e w2 ⟨rfl, rfl⟩
        go_wp2_with fail
        go_loopw [0, 7] (fun r q wr => ∃ k : Nat, k ≤ 11 ∧ 0 ≤ n - B - cumM y k ∧ r = .int .i64 (n - B - cumM y k) ∧ q = .int .i64 ((k : Int) + 1) ∧ w2 = wr) (fun _ q _ => (13 - intOf q).toNat)
        case atStart => exact ⟨0, by omega, by simp [cumM]; omega, by simp [cumM], by simp, rfl⟩
        case round =>
          obtain ⟨k, hk, c0, rfl, rfl, rfl⟩ := hrel
          have K := hid (HL.out y k y0 y1 (by omega))
          have nx := HN.out k
          have l := HP.out ((k : Int) + 1)
          have bb := HC.out k
          have me := hid (ME.out hB (by omega) k hk (by omega))
          have mo := hid (MO.out (by omega) k hk)
          generalize lenM y ((k : Int) + 1) = x at *
          by_cases c2 : n - B - cumM y k < x
          · have dd := hid (me.out (by omega))
            go_wp2_with fail
            refine K.out.mono ?_
            rintro e w3 ⟨rfl, rfl⟩
            go_wp2
            go_returns
            exact ⟨ret_date dd.out, rfl⟩
          · have k11 := mo.out (by omega)
            go_wp2_with fail
            refine K.out.mono ?_
            rintro e w3 ⟨rfl, rfl⟩
            go_wp2
            exact ⟨⟨k + 1, by omega, by rw [nx]; omega, by rw [nx]; go_num, by go_num, by first | rfl | trivial⟩, by simp [intOf]; omega⟩
  · have e : dateQ n = (0, 0, 0, 4) := if_neg h
    rw [e]
    clear e
    go_enter Tryd.func52, Tryd.ntmps52
    by_cases c : n < 0
    · go_wp2
      go_returns
      exact ⟨rfl, rfl⟩
    · have c2 : 376200 ≤ n := by omega
      go_wp2
      go_returns
      exact ⟨rfl, rfl⟩
end Go.Proofs.YtbnghhmmanleaaaDoor
