/- When a rule comes. -/
import Derived.Test.YtpjmieiajhhbaaaDoorNCheck

/- The document's day, Comes, tomorrow. -/
namespace Go.Proofs.YtpjmieiajhhbaaaDoor
open Go.RowKit
set_option linter.unusedVariables false
set_option linter.unusedSimpArgs false

/-- Does a rule come on such a day? -/
def dayOk (r : Ru) (m d wd : Nat) : Bool := r.mo.testBit m && (if r.ad && r.aw then true else if r.ad then r.we.testBit wd else if r.aw then r.da.testBit d else r.da.testBit d || r.we.testBit wd)
set_option maxHeartbeats 2000000 in
set_option maxRecDepth 20000 in
theorem dayR_any (r : Ru) (hr : r.ok) (y : Int) (m d : Nat) (h mi s : Int) (wd : Nat) (hm : m < 64) (hd : d < 64) (hw : wd < 64) (w : World) :
    Calls Tryd.prog 53 #[ruV r, sevV y (m : Int) (d : Int) h mi s (wd : Int)] w fun e w' => e = .returned (.bool (dayOk r m d wd)) ∧ Below w.heap.size w w' := by
  have H1 : Hid (∀ w', Calls Tryd.prog 54 #[.int .u64 (r.mo : Int), .int .i64 (m : Int)] w' fun e w'' => e = .returned (.bool (r.mo.testBit m)) ∧ w'' = w') := fun w' => has_any _ _ (hr _ (by simp [Ru.sets])) hm w'
  have H2 : Hid (∀ w', Calls Tryd.prog 54 #[.int .u64 (r.we : Int), .int .i64 (wd : Int)] w' fun e w'' => e = .returned (.bool (r.we.testBit wd)) ∧ w'' = w') := fun w' => has_any _ _ (hr _ (by simp [Ru.sets])) hw w'
  have H3 : Hid (∀ w', Calls Tryd.prog 54 #[.int .u64 (r.da : Int), .int .i64 (d : Int)] w' fun e w'' => e = .returned (.bool (r.da.testBit d)) ∧ w'' = w') := fun w' => has_any _ _ (hr _ (by simp [Ru.sets])) hd w'
  have HD : Hid (dayOk r m d wd = (r.mo.testBit m && (if r.ad && r.aw then true else if r.ad then r.we.testBit wd else if r.aw then r.da.testBit d else r.da.testBit d || r.we.testBit wd))) := rfl
  clear hr
  generalize r.mo.testBit m = b1 at *
  generalize r.we.testBit wd = b2 at *
  generalize r.da.testBit d = b3 at *
  unfold ruV sevV
  generalize r.ad = ad at *
  generalize r.aw = aw at *
  cases b1
  · have R := hid HD.out
    go_enter Tryd.func53, Tryd.ntmps53
    go_wp2_with fail
    refine (H1.out _).mono ?_
    rintro e w1 ⟨rfl, rfl⟩
    go_wp2
    go_ret
    exact ⟨by rw [R.out]; rfl, up_al (up_alloc w _) _⟩
  cases ad <;> cases aw
  · have R := hid HD.out
    go_enter Tryd.func53, Tryd.ntmps53
    go_wp2_with fail
    refine (H1.out _).mono ?_
    rintro e w1 ⟨rfl, rfl⟩
    go_wp2_with fail
    refine (H3.out _).mono ?_
    rintro e w1 ⟨rfl, rfl⟩
    cases b3
    · go_wp2_with fail
      refine (H2.out _).mono ?_
      rintro e w1 ⟨rfl, rfl⟩
      go_wp2
      go_ret
      exact ⟨by rw [R.out]; rfl, up_al (up_alloc w _) _⟩
    · go_wp2
      go_ret
      exact ⟨by rw [R.out]; rfl, up_al (up_alloc w _) _⟩
  · have R := hid HD.out
    go_enter Tryd.func53, Tryd.ntmps53
    go_wp2_with fail
    refine (H1.out _).mono ?_
    rintro e w1 ⟨rfl, rfl⟩
    go_wp2_with fail
    refine (H3.out _).mono ?_
    rintro e w1 ⟨rfl, rfl⟩
    go_wp2
    go_ret
    exact ⟨by rw [R.out]; rfl, up_al (up_alloc w _) _⟩
  · have R := hid HD.out
    go_enter Tryd.func53, Tryd.ntmps53
    go_wp2_with fail
    refine (H1.out _).mono ?_
    rintro e w1 ⟨rfl, rfl⟩
    go_wp2_with fail
    refine (H2.out _).mono ?_
    rintro e w1 ⟨rfl, rfl⟩
    go_wp2
    go_ret
    exact ⟨by rw [R.out]; rfl, up_al (up_alloc w _) _⟩
  · have R := hid HD.out
    go_enter Tryd.func53, Tryd.ntmps53
    go_wp2_with fail
    refine (H1.out _).mono ?_
    rintro e w1 ⟨rfl, rfl⟩
    go_wp2
    go_ret
    exact ⟨by rw [R.out]; rfl, up_al (up_alloc w _) _⟩
/-- Does a rule come at a second of the calendar? -/
def comesAt (r : Ru) (t : Int) : Bool := decide (secT t = 0) && (r.mi.testBit (minT t).toNat && (r.ho.testBit (hourT t).toNat && dayOk r (dateM (t / 86400)).toNat (dateD (t / 86400)).toNat ((t / 86400 + 4) % 7).toNat))
/-- What Comes says. -/
def comesP (r : Ru) (t : Int) : Bool × Int := if checkP r ≠ 0 then (false, 9) else if 0 ≤ t ∧ t < 32503680000 then (comesAt r t, 0) else (false, 4)
theorem checkP_two (r : Ru) : checkP r = 0 ∨ checkP r = 9 := by
  unfold checkP
  split
  · exact .inl rfl
  · exact .inr rfl
theorem nat_of {x : Int} (h : 0 ≤ x) : ((x.toNat : Nat) : Int) = x := by omega
theorem ruV_form (r : Ru) : ruV r = .agg #[.int .u64 (r.mi : Int), .int .u64 (r.ho : Int), .int .u64 (r.da : Int), .int .u64 (r.mo : Int), .int .u64 (r.we : Int), .bool r.ad, .bool r.aw] := rfl
end Go.Proofs.YtpjmieiajhhbaaaDoor

/- The document's tomorrow and Next. -/
namespace Go.Proofs.YtpjmieiajhhbaaaDoor
open Go.RowKit
set_option linter.unusedVariables false
set_option linter.unusedSimpArgs false

/-- The day behind a date. -/
def nextD (y m d : Int) : Int × Int × Int := if d < lenM y m then (y, m, d + 1) else if m < 12 then (y, m + 1, 1) else (y + 1, 1, 1)
theorem nextD_is {n y m d : Int} (h : IsDate n y m d) (hn : n + 1 < 376200) : nextD y m d = (dateY (n + 1), dateM (n + 1), dateD (n + 1)) := by
  obtain ⟨a, b, c⟩ := date_next h hn
  have d1 := h.d1
  have m1 := h.m1
  unfold nextD
  by_cases q : d < lenM y m
  · obtain ⟨e1, e2, e3⟩ := date_eq (a q)
    rw [if_pos q, ← e1, ← e2, ← e3]
  · rw [if_neg q]
    by_cases p : m < 12
    · obtain ⟨e1, e2, e3⟩ := date_eq (b (by omega) p)
      rw [if_pos p, ← e1, ← e2, ← e3]
    · obtain ⟨e1, e2, e3⟩ := date_eq (c (by omega) (by omega))
      rw [if_neg p, ← e1, ← e2, ← e3]
set_option maxHeartbeats 2000000 in
set_option maxRecDepth 20000 in
theorem tomorrow_any (n y m d wd : Int) (h : IsDate n y m d) (w0 : 0 ≤ wd) (w1 : wd < 7) (w : World) :
    Calls Tryd.prog 52 #[sevV y m d 0 0 0 wd] w fun e w' => e = .returned (sevV (nextD y m d).1 (nextD y m d).2.1 (nextD y m d).2.2 0 0 0 ((wd + 1) % 7)) ∧ Below w.heap.size w w' := by
  have HD : Hid (∀ w', Calls Tryd.prog 71 #[.int .i64 y, .int .i64 m] w' fun e w'' => e = .returned (.tuple #[.int .i64 (lenM y m), .int .i64 0]) ∧ w'' = w') := by
    intro w'
    have := daysR_any y m w'
    rw [show daysP y m = (lenM y m, 0) from if_pos ⟨h.y0, h.y1, h.m0, h.m1⟩] at this
    exact this
  have lm := lenM_pos y m
  obtain ⟨y0, y1, m0, m1, d0, d1, -⟩ := h
  unfold nextD sevV
  generalize lenM y m = L at *
  by_cases c : d < L
  · have n1 : ¬ L < d + 1 := by omega
    have n2 : ¬ 12 < m := by omega
    rw [if_pos c]
    go_enter Tryd.func52, Tryd.ntmps52
    go_wp2_with fail
    refine (HD.out _).mono ?_
    rintro e w3 ⟨rfl, rfl⟩
    go_wp2
    go_returns
    exact ⟨rfl, up_al (up_alloc w _) _⟩
  · obtain rfl : d = L := by omega
    have n1 : d < d + 1 := by omega
    rw [if_neg c]
    by_cases c2 : m < 12
    · have n2 : ¬ 12 < m + 1 := by omega
      rw [if_pos c2]
      go_enter Tryd.func52, Tryd.ntmps52
      go_wp2_with fail
      refine (HD.out _).mono ?_
      rintro e w3 ⟨rfl, rfl⟩
      go_wp2
      go_returns
      exact ⟨rfl, up_al (up_alloc w _) _⟩
    · obtain rfl : m = 12 := by omega
      rw [if_neg c2]
      go_enter Tryd.func52, Tryd.ntmps52
      go_wp2_with fail
      refine (HD.out _).mono ?_
      rintro e w3 ⟨rfl, rfl⟩
      go_wp2
      go_returns
      exact ⟨rfl, up_al (up_alloc w _) _⟩
end Go.Proofs.YtpjmieiajhhbaaaDoor

/- When a rule comes next, plainly. -/
namespace Go.Proofs.YtpjmieiajhhbaaaDoor
set_option linter.unusedVariables false

def dayAt (r : Ru) (n : Int) : Bool := dayOk r (dateM n).toNat (dateD n).toNat ((n + 4) % 7).toNat
theorem comes_split (r : Ru) (t : Int) : comesAt r t = (decide (secT t = 0) && (r.mi.testBit (minT t).toNat && (r.ho.testBit (hourT t).toNat && dayAt r (t / 86400)))) := rfl
theorem comes_at (r : Ru) (d : Int) (k : Nat) (hk : k < 1440) : comesAt r (86400 * d + 60 * (k : Int)) = (r.mi.testBit (k % 60) && (r.ho.testBit (k / 60) && dayAt r d)) := by
  rw [comes_split]
  have e1 : secT (86400 * d + 60 * (k : Int)) = 0 := by unfold secT; omega
  have e2 : (minT (86400 * d + 60 * (k : Int))).toNat = k % 60 := by unfold minT; omega
  have e3 : (hourT (86400 * d + 60 * (k : Int))).toNat = k / 60 := by unfold hourT; omega
  have e4 : (86400 * d + 60 * (k : Int)) / 86400 = d := by omega
  rw [e1, e2, e3, e4]
  rfl
theorem comes_sec {r : Ru} {t : Int} (h : secT t ≠ 0) : comesAt r t = false := by
  rw [comes_split, decide_eq_false h, Bool.false_and]
theorem comes_day {r : Ru} {t : Int} (h : dayAt r (t / 86400) = false) : comesAt r t = false := by
  rw [comes_split, h]
  simp
/-- Of a second: the least behind it at which a rule comes; or none. -/
def NextQ (r : Ru) (t a : Int) (is : Bool) : Prop :=
  (is = true ∧ t < a ∧ 0 ≤ a ∧ a < 32503680000 ∧ comesAt r a = true ∧ ∀ b, t < b → b < a → comesAt r b = false) ∨ (is = false ∧ a = 0 ∧ ∀ b, t < b → b < 32503680000 → comesAt r b = false)
theorem NextQ.one {r : Ru} {t a a' : Int} {is is' : Bool} (h : NextQ r t a is) (h' : NextQ r t a' is') : a = a' ∧ is = is' := by
  rcases h with ⟨rfl, h1, h2, h3, h4, h5⟩ | ⟨rfl, h1, h2⟩ <;> rcases h' with ⟨rfl, k1, k2, k3, k4, k5⟩ | ⟨rfl, k1, k2⟩
  · refine ⟨?_, rfl⟩
    by_cases c : a < a'
    · rw [k5 a h1 c] at h4; cases h4
    · by_cases c2 : a' < a
      · rw [h5 a' k1 c2] at k4; cases k4
      · omega
  · rw [k2 a h1 h3] at h4; cases h4
  · rw [h2 a' k1 k3] at k4; cases k4
  · exact ⟨by omega, rfl⟩
/-- What Next says. -/
def NextR (r : Ru) (t a : Int) (is : Bool) (e : Int) : Prop :=
  (checkP r ≠ 0 ∧ a = 0 ∧ is = false ∧ e = 9) ∨ (checkP r = 0 ∧ (t < -1 ∨ 32503680000 ≤ t) ∧ a = 0 ∧ is = false ∧ e = 4) ∨ (checkP r = 0 ∧ -1 ≤ t ∧ t < 32503680000 ∧ e = 0 ∧ NextQ r t a is)
theorem NextR.one {r : Ru} {t a a' e e' : Int} {is is' : Bool} (h : NextR r t a is e) (h' : NextR r t a' is' e') : a = a' ∧ is = is' ∧ e = e' := by
  rcases h with ⟨h0, h1, h2, h3⟩ | ⟨h0, h1, h2, h3, h4⟩ | ⟨h0, h1, h2, h3, h4⟩ <;> rcases h' with ⟨k0, k1, k2, k3⟩ | ⟨k0, k1, k2, k3, k4⟩ | ⟨k0, k1, k2, k3, k4⟩
  · exact ⟨by omega, by rw [h2, k2], by omega⟩
  · exact absurd k0 h0
  · exact absurd k0 h0
  · exact absurd h0 k0
  · exact ⟨by omega, by rw [h3, k3], by omega⟩
  · omega
  · exact absurd h0 k0
  · omega
  · have := h4.one k4
    exact ⟨this.1, this.2, by omega⟩
end Go.Proofs.YtpjmieiajhhbaaaDoor
