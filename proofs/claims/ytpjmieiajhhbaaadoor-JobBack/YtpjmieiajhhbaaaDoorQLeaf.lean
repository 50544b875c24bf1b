/- Jobs: the program's leaves. -/
import Derived.Test.YtpjmieiajhhbaaaDoorJLea
namespace Go.Proofs.YtpjmieiajhhbaaaDoor
open Go.RowKit
set_option linter.unusedVariables false
set_option linter.unusedSimpArgs false

theorem withinE_any (n lo hi : Int) (w : World) : Calls Tryd.prog 36 #[.int .i64 n, .int .i64 lo, .int .i64 hi] w fun e w' => e = .returned (.bool (inB n lo hi)) ∧ w' = w := by
  by_cases h1 : lo ≤ n
  · by_cases h2 : n ≤ hi
    · have E : Hid (inB n lo hi = true) := inB_iff.2 ⟨h1, h2⟩
      go_enter Tryd.func36, Tryd.ntmps36
      go_wp2
      go_ret
      exact ⟨by rw [E.out]; rfl, rfl⟩
    · have E : Hid (inB n lo hi = false) := by unfold Hid inB; rw [decide_eq_false h2, Bool.and_false]
      go_enter Tryd.func36, Tryd.ntmps36
      go_wp2
      go_ret
      exact ⟨by rw [E.out]; rfl, rfl⟩
  · have E : Hid (inB n lo hi = false) := by unfold Hid inB; rw [decide_eq_false h1, Bool.false_and]
    go_enter Tryd.func36, Tryd.ntmps36
    go_wp2
    go_ret
    exact ⟨by rw [E.out]; rfl, rfl⟩
def hldV (a b c : Int) : Value := .agg #[.int .i64 a, .int .i64 b, .int .i64 c]
set_option maxHeartbeats 1000000 in
set_option maxRecDepth 20000 in
theorem holderOf_any (j : Jb) (w : World) : Calls Tryd.prog 64 #[jobV j] w fun e w' => e = .returned (hldV j.wk j.tk j.un) ∧ Below w.heap.size w w' := by
  unfold jobV hldV
  go_enter Tryd.func64, Tryd.ntmps64
  go_wp2
  go_returns
  exact ⟨rfl, up_al (up_alloc w _) _⟩
set_option maxHeartbeats 1000000 in
set_option maxRecDepth 20000 in
theorem textsOf_any (j : Jb) (w : World) : Calls Tryd.prog 30 #[jobV j] w fun e w' => e = .returned (.agg #[.string (strOfNums j.na), .string (strOfNums j.ru), .string (strOfNums j.pa)]) ∧ Below w.heap.size w w' := by
  unfold jobV
  go_enter Tryd.func30, Tryd.ntmps30
  go_wp2
  go_returns
  exact ⟨rfl, up_al (up_alloc w _) _⟩
set_option maxHeartbeats 1000000 in
set_option maxRecDepth 20000 in
theorem numbersOf_any (j : Jb) (w : World) : Calls Tryd.prog 28 #[jobV j] w fun e w' => e = .returned (.agg #[.int .i64 j.id, .int .i64 j.st, .int .i64 j.du, .int .i64 j.tr, .int .i64 j.wk, .int .i64 j.tk, .int .i64 j.un]) ∧ Below w.heap.size w w' := by
  unfold jobV
  go_enter Tryd.func28, Tryd.ntmps28
  go_wp2
  go_returns
  exact ⟨rfl, up_al (up_alloc w _) _⟩
def hldP (a b c : Int) : Bool := inB a 1 2147483648 && (inB b 1 1099511627776 && inB c 0 32503680000)
set_option maxHeartbeats 1000000 in
theorem holds_any (a b c : Int) (w : World) : Calls Tryd.prog 40 #[hldV a b c] w fun e w' => e = .returned (.bool (hldP a b c)) ∧ Below w.heap.size w w' := by
  have H0 := hid (withinE_any a 1 2147483648)
  have H1 := hid (withinE_any b 1 1099511627776)
  have H2 := hid (withinE_any c 0 32503680000)
  have HR : Hid (hldP a b c = (inB a 1 2147483648 && (inB b 1 1099511627776 && inB c 0 32503680000))) := rfl
  generalize hldP a b c = R at *
  generalize inB a 1 2147483648 = p at *
  generalize inB b 1 1099511627776 = q at *
  generalize inB c 0 32503680000 = r at *
  have U0 := hid (up_alloc w (.cells #[.int .i64 a, .int .i64 b, .int .i64 c] 83))
  unfold hldV
  go_enter Tryd.func40, Tryd.ntmps40
  go_wp2_with fail
  refine (H0.out _).mono ?_
  rintro e w1 ⟨rfl, rfl⟩
  cases p
  · go_wp2_with fail
    go_ret
    exact ⟨by rw [HR.out]; rfl, U0.out⟩
  go_wp2_with fail
  refine (H1.out _).mono ?_
  rintro e w1 ⟨rfl, rfl⟩
  cases q
  · go_wp2_with fail
    go_ret
    exact ⟨by rw [HR.out]; rfl, U0.out⟩
  go_wp2_with fail
  refine (H2.out _).mono ?_
  rintro e w1 ⟨rfl, rfl⟩
  go_wp2_with fail
  go_ret
  exact ⟨by rw [HR.out]; simp, U0.out⟩
def becP (j : Jb) (s d t a b c : Int) : Jb := { j with st := s, du := d, tr := t, wk := a, tk := b, un := c }
set_option maxHeartbeats 2000000 in
set_option maxRecDepth 20000 in
theorem become_any (j : Jb) (s d t a b c : Int) (w : World) : Calls Tryd.prog 41 #[jobV j, .int .i64 s, .int .i64 d, .int .i64 t, hldV a b c] w fun e w' => e = .returned (jobV (becP j s d t a b c)) ∧ Below w.heap.size w w' := by
  unfold jobV becP hldV
  go_enter Tryd.func41, Tryd.ntmps41
  go_wp2_with fail
  go_region
  go_wp2_with fail
  go_returns
  exact ⟨rfl, up_trans (up_al (up_al (up_alloc w _) _) _) (up_drewN _ _)⟩
end Go.Proofs.YtpjmieiajhhbaaaDoor
