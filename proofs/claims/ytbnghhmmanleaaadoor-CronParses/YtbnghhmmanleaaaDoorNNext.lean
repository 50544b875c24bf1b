/- The document's tomorrow and Next. -/
import Derived.Test.YtbnghhmmanleaaaDoorNDay
namespace Go.Proofs.YtbnghhmmanleaaaDoor
open Go.RowKit
set_option linter.unusedVariables false
set_option linter.unusedSimpArgs false

/-- The day behind a date. -/
def nextD (y m d : Int) : Int × Int × Int := if d < lenM y m then (y, m, d + 1) else if m < 12 then (y, m + 1, 1) else (y + 1, 1, 1)
theorem nextD_is {n y m d : Int} (h : IsDate n y m d) (hn : n + 1 < 376200) : nextD y m d = (dateY (n + 1), dateM (n + 1), dateD (n + 1)) := by
  obtain ⟨a, b, c⟩ := date_next h hn
  have d1 := h.d1
  have m1 := h.m1
  unfold nextD
  by_cases q : d < lenM y m
  · obtain ⟨e1, e2, e3⟩ := date_eq (a q)
    rw [if_pos q, ← e1, ← e2, ← e3]
  · rw [if_neg q]
    by_cases p : m < 12
    · obtain ⟨e1, e2, e3⟩ := date_eq (b (by omega) p)
      rw [if_pos p, ← e1, ← e2, ← e3]
    · obtain ⟨e1, e2, e3⟩ := date_eq (c (by omega) (by omega))
      rw [if_neg p, ← e1, ← e2, ← e3]
set_option maxHeartbeats 2000000 in
set_option maxRecDepth 20000 in
theorem tomorrow_any (n y m d wd : Int) (h : IsDate n y m d) (w0 : 0 ≤ wd) (w1 : wd < 7) (w : World) :
    Calls Tryd.prog 39 #[sevV y m d 0 0 0 wd] w fun e w' => e = .returned (sevV (nextD y m d).1 (nextD y m d).2.1 (nextD y m d).2.2 0 0 0 ((wd + 1) % 7)) ∧ Below w.heap.size w w' := by
  have HD : Hid (∀ w', Calls Tryd.prog 57 #[.int .i64 y, .int .i64 m] w' fun e w'' => e = .returned (.tuple #[.int .i64 (lenM y m), .int .i64 0]) ∧ w'' = w') := by
    intro w'
    have := daysR_any y m w'
    rw [show daysP y m = (lenM y m, 0) from if_pos ⟨h.y0, h.y1, h.m0, h.m1⟩] at this
    exact this
  have lm := lenM_pos y m
  obtain ⟨y0, y1, m0, m1, d0, d1, -⟩ := h
  unfold nextD sevV
  generalize lenM y m = L at *
  by_cases c : d < L
  · have n1 : ¬ L < d + 1 := by omega
    have n2 : ¬ 12 < m := by omega
    rw [if_pos c]
    go_enter Tryd.func39, Tryd.ntmps39
    go_wp2_with fail
    refine (HD.out _).mono ?_
    rintro e w3 ⟨rfl, rfl⟩
    go_wp2
    go_returns
    exact ⟨rfl, up_al (up_alloc w _) _⟩
  · obtain rfl : d = L := by omega
    have n1 : d < d + 1 := by omega
    rw [if_neg c]
    by_cases c2 : m < 12
    · have n2 : ¬ 12 < m + 1 := by omega
      rw [if_pos c2]
      go_enter Tryd.func39, Tryd.ntmps39
      go_wp2_with fail
      refine (HD.out _).mono ?_
      rintro e w3 ⟨rfl, rfl⟩
      go_wp2
      go_returns
      exact ⟨rfl, up_al (up_alloc w _) _⟩
    · obtain rfl : m = 12 := by omega
      rw [if_neg c2]
      go_enter Tryd.func39, Tryd.ntmps39
      go_wp2_with fail
      refine (HD.out _).mono ?_
      rintro e w3 ⟨rfl, rfl⟩
      go_wp2
      go_returns
      exact ⟨rfl, up_al (up_alloc w _) _⟩
end Go.Proofs.YtbnghhmmanleaaaDoor
