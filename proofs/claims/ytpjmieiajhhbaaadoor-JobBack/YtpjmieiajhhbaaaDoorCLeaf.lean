/- The calendar's smallest functions: leap years, the variables' cells, how long a month is. -/
import Derived.Test.YtpjmieiajhhbaaaDoorCMath
import Derived.Test.YtpjmieiajhhbaaaDoorGA
import Derived.Lib.TrailingZeros
namespace Go.Proofs.YtpjmieiajhhbaaaDoor
open Go.RowKit
set_option linter.unusedVariables false
set_option linter.unusedSimpArgs false

theorem hid {p : Prop} (h : p) : Hid p := h
theorem wrapI (n : Int) (h0 : -9223372036854775808 ≤ n) (h1 : n ≤ 9223372036854775807) : IntKind.i64.wrap n = n := by
  simp only [IntKind.wrap, IntKind.bits, IntKind.signed]
  simp
  omega
theorem ret_pair {a b : Int} {v : Value} (h : a = b) : Ending.returned (.tuple #[.int .i64 a, v]) = .returned (.tuple #[.int .i64 b, v]) := by rw [h]
theorem tmod_zero (y k : Int) : (Int.tmod y k == 0) = (y % k == 0) := by
  rw [Bool.eq_iff_iff, beq_iff_eq, beq_iff_eq]
  constructor
  · intro h; exact Int.emod_eq_zero_of_dvd (Int.dvd_of_tmod_eq_zero h)
  · intro h; exact Int.tmod_eq_zero_of_dvd (Int.dvd_of_emod_eq_zero h)
theorem leap_any (y : Int) (w : World) : Calls Tryd.prog 112 #[.int .i64 y] w fun e w' => e = .returned (.bool (leapP y)) ∧ w' = w := by
  have t4 := tmod_zero y 4
  have t100 : (Int.tmod y 100 != 0) = !(y % 100 == 0) := congrArg (! ·) (tmod_zero y 100)
  have t400 := tmod_zero y 400
  have L : Hid (leapP y = (((y % 4 == 0) && !(y % 100 == 0)) || y % 400 == 0)) := rfl
  go_enter Tryd.func112, Tryd.ntmps112
  cases h4 : (y % 4 == 0) <;> cases h100 : (y % 100 == 0) <;> cases h400 : (y % 400 == 0) <;> rw [h4] at t4 <;> rw [h100] at t100 <;> rw [h400] at t400
  all_goals
    simp only [Bool.not_true, Bool.not_false] at t100
    go_wp2
    go_ret
    exact ⟨ret_bool (by rw [L.out, h4, h100, h400]; rfl), rfl⟩
theorem leapR_any (y : Int) (w : World) : Calls Tryd.prog 85 #[.int .i64 y] w fun e w' => e = .returned (.bool (leapP y)) ∧ w' = w := by
  have t4 := tmod_zero y 4
  have t100 : (Int.tmod y 100 != 0) = !(y % 100 == 0) := congrArg (! ·) (tmod_zero y 100)
  have t400 := tmod_zero y 400
  have L : Hid (leapP y = (((y % 4 == 0) && !(y % 100 == 0)) || y % 400 == 0)) := rfl
  have L4 : Hid ((y % 4 == 0) = false → (y % 400 == 0) = false) := by
    unfold Hid
    intro h
    rw [beq_eq_false_iff_ne] at h ⊢
    omega
  go_enter Tryd.func85, Tryd.ntmps85
  cases h4 : (y % 4 == 0) <;> cases h100 : (y % 100 == 0) <;> cases h400 : (y % 400 == 0) <;> rw [h4] at t4 <;> rw [h100] at t100 <;> rw [h400] at t400
  all_goals
    simp only [Bool.not_true, Bool.not_false] at t100
    go_wp2
    go_ret
    exact ⟨ret_bool (by rw [L.out, h4, h100, h400]; first | rfl | exact absurd (L4.out h4) (by rw [h400]; simp)), rfl⟩
theorem leapsTo_any (y : Int) (h0 : 0 ≤ y) (h1 : y ≤ 100000) (w : World) : Calls Tryd.prog 111 #[.int .i64 y] w fun e w' => e = .returned (.int .i64 (ltoP y)) ∧ w' = w := by
  have d4 : Int.tdiv y 4 = y / 4 := Int.tdiv_eq_ediv_of_nonneg h0
  have d100 : Int.tdiv y 100 = y / 100 := Int.tdiv_eq_ediv_of_nonneg h0
  have d400 : Int.tdiv y 400 = y / 400 := Int.tdiv_eq_ediv_of_nonneg h0
  have w1 : IntKind.i64.wrap (y / 4 - y / 100) = y / 4 - y / 100 := wrapI _ (by omega) (by omega)
  have w2 : IntKind.i64.wrap (y / 4 - y / 100 + y / 400) = y / 4 - y / 100 + y / 400 := wrapI _ (by omega) (by omega)
  go_enter Tryd.func111, Tryd.ntmps111
  go_wp2
  go_ret
  exact ⟨ret_int (by simp only [d4, d100, d400, ltoP]), rfl⟩
theorem begins_any (y : Int) (h0 : 1 ≤ y) (h1 : y ≤ 100000) (w : World) : Calls Tryd.prog 105 #[.int .i64 y] w fun e w' => e = .returned (.int .i64 (bgn y)) ∧ w' = w := by
  have H1 := leapsTo_any (y - 1) (by omega) (by omega) w
  have H2 := leapsTo_any 1969 (by omega) (by omega) w
  have b1 : 0 ≤ ltoP (y - 1) ∧ ltoP (y - 1) ≤ 100000 := by unfold ltoP; omega
  have b2 : ltoP 1969 = 477 := by decide
  rw [b2] at H2
  have e : Hid (bgn y = 365 * (y - 1970) + ltoP (y - 1) - 477) := by unfold Hid bgn; rw [b2]
  generalize ltoP (y - 1) = q at *
  have H1 := hid H1
  have H2 := hid H2
  go_enter Tryd.func105, Tryd.ntmps105
  go_wp2_with fail
  refine H1.out.mono ?_
  rintro e w1 ⟨rfl, rfl⟩
  go_wp2_with fail
  refine H2.out.mono ?_
  rintro e w1 ⟨rfl, rfl⟩
  go_wp2
  go_ret
  exact ⟨ret_int e.out.symm, rfl⟩
theorem weekday_any (d : Int) (h0 : 0 ≤ d) (h1 : d ≤ 1000000000) (w : World) : Calls Tryd.prog 116 #[.int .i64 d] w fun e w' => e = .returned (.int .i64 ((d + 4) % 7)) ∧ w' = w := by
  have e : Int.tmod (d + 4) 7 = (d + 4) % 7 := Int.tmod_eq_emod_of_nonneg (by omega)
  go_enter Tryd.func116, Tryd.ntmps116
  go_wp2
  go_ret
  exact ⟨ret_int (by first | rfl | exact e), rfl⟩
/-- The program's variables: how long the months are, how many hours, minutes, seconds; between which numbers a rule's fields lie; the library's table of lowest bits. -/
structure Env (w : World) : Prop where
  len : ∀ j x, ([31, 28, 31, 30, 31, 30, 31, 31, 30, 31, 30, 31] : List Int)[j]? = some x → w.cell? ⟨3, j, none⟩ = some (.int .i64 x)
  siz : ∀ j x, ([24, 60, 60] : List Int)[j]? = some x → w.cell? ⟨4, j, none⟩ = some (.int .i64 x)
  lo : ∀ j x, ([0, 0, 1, 1, 0] : List Int)[j]? = some x → w.cell? ⟨1, j, none⟩ = some (.int .i64 x)
  hi : ∀ j x, ([59, 23, 31, 12, 6] : List Int)[j]? = some x → w.cell? ⟨0, j, none⟩ = some (.int .i64 x)
  deb : ∀ j, j < Lib.deBruijn64tab.length → w.cell? ⟨2, j, none⟩ = some (.int .u8 (Lib.deBruijn64tab.getD j 0))
  two : 5 ≤ w.heap.size
theorem Env.up {w w' : World} (h : Env w) (hb : Below w.heap.size w w') : Env w' := by
  obtain ⟨h1, h2, h3, h4, h5, h6⟩ := h
  exact ⟨fun j x hx => (hb.cell (p := ⟨3, j, none⟩) (by show 3 < _; omega)).trans (h1 j x hx), fun j x hx => (hb.cell (p := ⟨4, j, none⟩) (by show 4 < _; omega)).trans (h2 j x hx), fun j x hx => (hb.cell (p := ⟨1, j, none⟩) (by show 1 < _; omega)).trans (h3 j x hx), fun j x hx => (hb.cell (p := ⟨0, j, none⟩) (by show 0 < _; omega)).trans (h4 j x hx), fun j hx => (hb.cell (p := ⟨2, j, none⟩) (by show 2 < _; omega)).trans (h5 j hx), Nat.le_trans h6 hb.size⟩
theorem length_any (y m : Int) (m0 : 1 ≤ m) (m1 : m ≤ 12) (w : World) (he : Env w) : Calls Tryd.prog 106 #[.int .i64 y, .int .i64 m] w fun e w' => e = .returned (.int .i64 (lenM y m)) ∧ w' = w := by
  have H1 := hid (leap_any y w)
  have c0 := he.len 0 31 rfl
  have c1 := he.len 1 28 rfl
  have c2 := he.len 2 31 rfl
  have c3 := he.len 3 30 rfl
  have c4 := he.len 4 31 rfl
  have c5 := he.len 5 30 rfl
  have c6 := he.len 6 31 rfl
  have c7 := he.len 7 31 rfl
  have c8 := he.len 8 30 rfl
  have c9 := he.len 9 31 rfl
  have c10 := he.len 10 30 rfl
  have c11 := he.len 11 31 rfl
  clear he
  have hm : m = 2 ∨ m = 1 ∨ m = 3 ∨ m = 4 ∨ m = 5 ∨ m = 6 ∨ m = 7 ∨ m = 8 ∨ m = 9 ∨ m = 10 ∨ m = 11 ∨ m = 12 := by omega
  have E2 : Hid (lenM y 2 = if leapP y then 29 else 28) := rfl
  generalize leapP y = b at *
  rcases hm with rfl | hm
  · go_enter Tryd.func106, Tryd.ntmps106
    go_wp2_with fail
    refine H1.out.mono ?_
    rintro e w1 ⟨rfl, rfl⟩
    cases b
    · go_wp2
      go_ret
      exact ⟨ret_int E2.out.symm, rfl⟩
    · go_wp2
      go_ret
      exact ⟨ret_int E2.out.symm, rfl⟩
  · go_enter Tryd.func106, Tryd.ntmps106
    clear H1 E2
    rcases hm with rfl | rfl | rfl | rfl | rfl | rfl | rfl | rfl | rfl | rfl | rfl
    all_goals
      go_wp2
      go_ret
      exact ⟨rfl, rfl⟩
theorem days_any (y m : Int) (w : World) (he : Env w) : Calls Tryd.prog 98 #[.int .i64 y, .int .i64 m] w fun e w' => e = .returned (.tuple #[.int .i64 (daysP y m).1, .int .i64 (daysP y m).2]) ∧ w' = w := by
  by_cases h : 1970 ≤ y ∧ y ≤ 2999 ∧ 1 ≤ m ∧ m ≤ 12
  · have H1 := hid (length_any y m h.2.2.1 h.2.2.2 w he)
    have e : daysP y m = (lenM y m, 0) := if_pos h
    rw [e]
    obtain ⟨a, b, c, d⟩ := h
    have a' : ¬ y < 1970 := by omega
    have b' : ¬ 2999 < y := by omega
    have c' : ¬ m < 1 := by omega
    have d' : ¬ 12 < m := by omega
    clear he e
    go_enter Tryd.func98, Tryd.ntmps98
    go_wp2_with fail
    refine H1.out.mono ?_
    rintro e w1 ⟨rfl, rfl⟩
    go_wp2
    go_ret2
    exact ⟨rfl, rfl⟩
  · have e : daysP y m = (0, 4) := if_neg h
    rw [e]
    clear he e
    go_enter Tryd.func98, Tryd.ntmps98
    by_cases a : y < 1970
    · go_wp2
      go_ret2
      exact ⟨rfl, rfl⟩
    by_cases b : 2999 < y
    · go_wp2
      go_ret2
      exact ⟨rfl, rfl⟩
    by_cases c : m < 1
    · go_wp2
      go_ret2
      exact ⟨rfl, rfl⟩
    have d : 12 < m := by omega
    go_wp2
    go_ret2
    exact ⟨rfl, rfl⟩
end Go.Proofs.YtpjmieiajhhbaaaDoor
