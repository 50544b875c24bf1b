/- The document's day, Comes, tomorrow. -/
import Derived.Test.YtbnghhmmanleaaaDoorNCheck
namespace Go.Proofs.YtbnghhmmanleaaaDoor
open Go.RowKit
set_option linter.unusedVariables false
set_option linter.unusedSimpArgs false

/-- Does a rule come on such a day? -/
def dayOk (r : Ru) (m d wd : Nat) : Bool := r.mo.testBit m && (if r.ad && r.aw then true else if r.ad then r.we.testBit wd else if r.aw then r.da.testBit d else r.da.testBit d || r.we.testBit wd)
set_option maxHeartbeats 2000000 in
set_option maxRecDepth 20000 in
theorem dayR_any (r : Ru) (hr : r.ok) (y : Int) (m d : Nat) (h mi s : Int) (wd : Nat) (hm : m < 64) (hd : d < 64) (hw : wd < 64) (w : World) :
    Calls Tryd.prog 36 #[ruV r, sevV y (m : Int) (d : Int) h mi s (wd : Int)] w fun e w' => e = .returned (.bool (dayOk r m d wd)) ∧ Below w.heap.size w w' := by
  have H1 : Hid (∀ w', Calls Tryd.prog 35 #[.int .u64 (r.mo : Int), .int .i64 (m : Int)] w' fun e w'' => e = .returned (.bool (r.mo.testBit m)) ∧ w'' = w') := fun w' => has_any _ _ (hr _ (by simp [Ru.sets])) hm w'
  have H2 : Hid (∀ w', Calls Tryd.prog 35 #[.int .u64 (r.we : Int), .int .i64 (wd : Int)] w' fun e w'' => e = .returned (.bool (r.we.testBit wd)) ∧ w'' = w') := fun w' => has_any _ _ (hr _ (by simp [Ru.sets])) hw w'
  have H3 : Hid (∀ w', Calls Tryd.prog 35 #[.int .u64 (r.da : Int), .int .i64 (d : Int)] w' fun e w'' => e = .returned (.bool (r.da.testBit d)) ∧ w'' = w') := fun w' => has_any _ _ (hr _ (by simp [Ru.sets])) hd w'
  have HD : Hid (dayOk r m d wd = (r.mo.testBit m && (if r.ad && r.aw then true else if r.ad then r.we.testBit wd else if r.aw then r.da.testBit d else r.da.testBit d || r.we.testBit wd))) := rfl
  clear hr
  generalize r.mo.testBit m = b1 at *
  generalize r.we.testBit wd = b2 at *
  generalize r.da.testBit d = b3 at *
  unfold ruV sevV
  generalize r.ad = ad at *
  generalize r.aw = aw at *
  cases b1
  · have R := hid HD.out
    go_enter Tryd.func36, Tryd.ntmps36
    go_wp2_with fail
    refine (H1.out _).mono ?_
    rintro e w1 ⟨rfl, rfl⟩
    go_wp2
    go_ret
    exact ⟨by rw [R.out]; rfl, up_al (up_alloc w _) _⟩
  cases ad <;> cases aw
  · have R := hid HD.out
    go_enter Tryd.func36, Tryd.ntmps36
    go_wp2_with fail
    refine (H1.out _).mono ?_
    rintro e w1 ⟨rfl, rfl⟩
    go_wp2_with fail
    refine (H3.out _).mono ?_
    rintro e w1 ⟨rfl, rfl⟩
    cases b3
    · go_wp2_with fail
      refine (H2.out _).mono ?_
      rintro e w1 ⟨rfl, rfl⟩
      go_wp2
      go_ret
      exact ⟨by rw [R.out]; rfl, up_al (up_alloc w _) _⟩
    · go_wp2
      go_ret
      exact ⟨by rw [R.out]; rfl, up_al (up_alloc w _) _⟩
  · have R := hid HD.out
    go_enter Tryd.func36, Tryd.ntmps36
    go_wp2_with fail
    refine (H1.out _).mono ?_
    rintro e w1 ⟨rfl, rfl⟩
    go_wp2_with fail
    refine (H3.out _).mono ?_
    rintro e w1 ⟨rfl, rfl⟩
    go_wp2
    go_ret
    exact ⟨by rw [R.out]; rfl, up_al (up_alloc w _) _⟩
  · have R := hid HD.out
    go_enter Tryd.func36, Tryd.ntmps36
    go_wp2_with fail
    refine (H1.out _).mono ?_
    rintro e w1 ⟨rfl, rfl⟩
    go_wp2_with fail
    refine (H2.out _).mono ?_
    rintro e w1 ⟨rfl, rfl⟩
    go_wp2
    go_ret
    exact ⟨by rw [R.out]; rfl, up_al (up_alloc w _) _⟩
  · have R := hid HD.out
    go_enter Tryd.func36, Tryd.ntmps36
    go_wp2_with fail
    refine (H1.out _).mono ?_
    rintro e w1 ⟨rfl, rfl⟩
    go_wp2
    go_ret
    exact ⟨by rw [R.out]; rfl, up_al (up_alloc w _) _⟩
/-- Does a rule come at a second of the calendar? -/
def comesAt (r : Ru) (t : Int) : Bool := decide (secT t = 0) && (r.mi.testBit (minT t).toNat && (r.ho.testBit (hourT t).toNat && dayOk r (dateM (t / 86400)).toNat (dateD (t / 86400)).toNat ((t / 86400 + 4) % 7).toNat))
/-- What Comes says. -/
def comesP (r : Ru) (t : Int) : Bool × Int := if checkP r ≠ 0 then (false, 9) else if 0 ≤ t ∧ t < 32503680000 then (comesAt r t, 0) else (false, 4)
theorem checkP_two (r : Ru) : checkP r = 0 ∨ checkP r = 9 := by
  unfold checkP
  split
  · exact .inl rfl
  · exact .inr rfl
theorem nat_of {x : Int} (h : 0 ≤ x) : ((x.toNat : Nat) : Int) = x := by omega
theorem ruV_form (r : Ru) : ruV r = .agg #[.int .u64 (r.mi : Int), .int .u64 (r.ho : Int), .int .u64 (r.da : Int), .int .u64 (r.mo : Int), .int .u64 (r.we : Int), .bool r.ad, .bool r.aw] := rfl
set_option maxHeartbeats 2000000 in
set_option maxRecDepth 20000 in
theorem comesR_any (r : Ru) (hr : r.ok) (t : Int) (w : World) :
    Calls Tryd.prog 17 #[ruV r, .int .i64 t] w fun e w' => e = .returned (.tuple #[.bool (comesP r t).1, .int .i64 (comesP r t).2]) ∧ Below w.heap.size w w' := by
  have HC : Hid (∀ w', Calls Tryd.prog 14 #[ruV r] w' fun e w'' => e = .returned (.int .i64 (checkP r)) ∧ Below w'.heap.size w' w'') := fun w' => checkR_any r hr w'
  have HS : Hid (∀ w', Calls Tryd.prog 34 #[.int .i64 t] w' fun e w'' => e = .returned (retM (momP t)) ∧ Below w'.heap.size w' w'') := fun w' => SplitR_any t w'
  have b0 := hid (blk_new w (.cells #[.int .u64 (r.mi : Int), .int .u64 (r.ho : Int), .int .u64 (r.da : Int), .int .u64 (r.mo : Int), .int .u64 (r.we : Int), .bool r.ad, .bool r.aw] 24))
  have hb0 := hid (up_alloc w (.cells #[.int .u64 (r.mi : Int), .int .u64 (r.ho : Int), .int .u64 (r.da : Int), .int .u64 (r.mo : Int), .int .u64 (r.we : Int), .bool r.ad, .bool r.aw] 24))
  rcases checkP_two r with hc | hc
  · rw [hc] at HC
    by_cases h : 0 ≤ t ∧ t < 32503680000
    · have E : Hid (comesP r t = (comesAt r t, 0)) := by
        unfold Hid comesP
        rw [if_neg (by rw [hc]; simp), if_pos h]
      have e : momP t = ([dateY (t / 86400), dateM (t / 86400), dateD (t / 86400), hourT t, minT t, secT t, (t / 86400 + 4) % 7], 0) := if_pos h
      have R : ∀ a b c d e f g x, retM ([a, b, c, d, e, f, g], x) = .tuple #[.agg #[.int .i64 a, .int .i64 b, .int .i64 c, .int .i64 d, .int .i64 e, .int .i64 f, .int .i64 g], .int .i64 x] := fun _ _ _ _ _ _ _ _ => rfl
      rw [e, R] at HS
      have D := date_is (day := t / 86400) (by omega) (by omega)
      have lm := lenM_pos (dateY (t / 86400)) (dateM (t / 86400))
      obtain ⟨-, -, m0, m1, d0, d1, -⟩ := D
      have hh : 0 ≤ hourT t ∧ hourT t < 24 ∧ 0 ≤ minT t ∧ minT t < 60 ∧ 0 ≤ secT t ∧ secT t < 60 := by unfold hourT minT secT; omega
      have w0 : 0 ≤ (t / 86400 + 4) % 7 ∧ (t / 86400 + 4) % 7 < 7 := by omega
      have H1 : Hid (∀ w', Calls Tryd.prog 35 #[.int .u64 (r.mi : Int), .int .i64 (minT t)] w' fun e w'' => e = .returned (.bool (r.mi.testBit (minT t).toNat)) ∧ w'' = w') := by
        intro w'
        have := has_any r.mi (minT t).toNat (hr _ (by simp [Ru.sets])) (by omega) w'
        rw [nat_of hh.2.2.1] at this
        exact this
      have H2 : Hid (∀ w', Calls Tryd.prog 35 #[.int .u64 (r.ho : Int), .int .i64 (hourT t)] w' fun e w'' => e = .returned (.bool (r.ho.testBit (hourT t).toNat)) ∧ w'' = w') := by
        intro w'
        have := has_any r.ho (hourT t).toNat (hr _ (by simp [Ru.sets])) (by omega) w'
        rw [nat_of hh.1] at this
        exact this
      have H3 : Hid (∀ w', Calls Tryd.prog 36 #[ruV r, .agg #[.int .i64 (dateY (t / 86400)), .int .i64 (dateM (t / 86400)), .int .i64 (dateD (t / 86400)), .int .i64 (hourT t), .int .i64 (minT t), .int .i64 (secT t), .int .i64 ((t / 86400 + 4) % 7)]] w' fun e w'' => e = .returned (.bool (dayOk r (dateM (t / 86400)).toNat (dateD (t / 86400)).toNat ((t / 86400 + 4) % 7).toNat)) ∧ Below w'.heap.size w' w'') := by
        intro w'
        have := dayR_any r hr (dateY (t / 86400)) (dateM (t / 86400)).toNat (dateD (t / 86400)).toNat (hourT t) (minT t) (secT t) ((t / 86400 + 4) % 7).toNat (by omega) (by omega) (by omega) w'
        rw [nat_of (by omega : 0 ≤ dateM (t / 86400)), nat_of (by omega : 0 ≤ dateD (t / 86400)), nat_of w0.1] at this
        exact this
      have CA : Hid (comesAt r t = (decide (secT t = 0) && (r.mi.testBit (minT t).toNat && (r.ho.testBit (hourT t).toNat && dayOk r (dateM (t / 86400)).toNat (dateD (t / 86400)).toNat ((t / 86400 + 4) % 7).toNat)))) := rfl
      clear e R lm hh w0 m0 m1 d0 d1 hr hc h
      generalize r.mi.testBit (minT t).toNat = b1 at *
      generalize r.ho.testBit (hourT t).toNat = b2 at *
      generalize dayOk r (dateM (t / 86400)).toNat (dateD (t / 86400)).toNat ((t / 86400 + 4) % 7).toNat = b3 at *
      generalize (t / 86400 + 4) % 7 = wd at *
      generalize dateY (t / 86400) = y at *
      generalize dateM (t / 86400) = m at *
      generalize dateD (t / 86400) = d at *
      generalize hourT t = ah at *
      generalize minT t = am at *
      generalize secT t = as' at *
      rw [ruV_form] at HC H3
      rw [ruV_form]
      go_enter Tryd.func17, Tryd.ntmps17
      go_wp2_with fail
      refine (HC.out _).mono ?_
      rintro e w1 ⟨rfl, hb1⟩
      have k1 := hid (blk_up b0.out hb1)
      have u1 := hid (up_trans hb0.out hb1)
      clear hb1
      go_wp2_with fail
      refine (HS.out _).mono ?_
      rintro e w2 ⟨rfl, hb2⟩
      have k2 := blk_up (blk_up k1.out hb2) (up_alloc w2 (.cells #[.int .i64 y, .int .i64 m, .int .i64 d, .int .i64 ah, .int .i64 am, .int .i64 as', .int .i64 wd] 75))
      have u2 := hid (up_al (up_trans u1.out hb2) (.cells #[.int .i64 y, .int .i64 m, .int .i64 d, .int .i64 ah, .int .i64 am, .int .i64 as', .int .i64 wd] 75))
      have z0 := blk_cell k2 0 _ rfl
      have z1 := blk_cell k2 1 _ rfl
      have z2 := blk_cell k2 2 _ rfl
      have z3 := blk_cell k2 3 _ rfl
      have z4 := blk_cell k2 4 _ rfl
      have z5 := blk_cell k2 5 _ rfl
      have z6 := blk_cell k2 6 _ rfl
      clear k1 k2 u1 hb2 b0 hb0
      by_cases c : as' = 0
      · have t0 : (as' == 0) = true := by simpa using c
        have CB : Hid (comesAt r t = (b1 && (b2 && b3))) := by
          unfold Hid
          rw [CA.out, decide_eq_true c, Bool.true_and]
        clear CA c
        go_wp2_with fail
        refine (H1.out _).mono ?_
        rintro e w3 ⟨rfl, rfl⟩
        cases b1
        · go_wp2_with fail
          go_ret2
          exact ⟨by rw [E.out, CB.out]; rfl, u2.out⟩
        · go_wp2_with fail
          refine (H2.out _).mono ?_
          rintro e w3 ⟨rfl, rfl⟩
          cases b2
          · go_wp2_with fail
            go_ret2
            exact ⟨by rw [E.out, CB.out]; rfl, u2.out⟩
          · go_wp2_with fail
            refine (H3.out _).mono ?_
            rintro e w3 ⟨rfl, hb3⟩
            go_wp2_with fail
            go_ret2
            exact ⟨by rw [E.out, CB.out]; rfl, up_trans u2.out hb3⟩
      · have t0 : (as' == 0) = false := by simpa using c
        have CB : Hid (comesAt r t = false) := by
          unfold Hid
          rw [CA.out, decide_eq_false c, Bool.false_and]
        clear CA c
        go_wp2_with fail
        go_ret2
        exact ⟨by rw [E.out, CB.out]; rfl, u2.out⟩
    · have E : Hid (comesP r t = (false, 4)) := by
        unfold Hid comesP
        rw [if_neg (by rw [hc]; simp), if_neg h]
      have e : momP t = ([0, 0, 0, 0, 0, 0, 0], 4) := if_neg h
      have R : retM ([0, 0, 0, 0, 0, 0, 0], 4) = .tuple #[.agg #[.int .i64 0, .int .i64 0, .int .i64 0, .int .i64 0, .int .i64 0, .int .i64 0, .int .i64 0], .int .i64 4] := rfl
      rw [e, R] at HS
      clear e R hc h hr
      rw [ruV_form] at HC
      rw [ruV_form]
      go_enter Tryd.func17, Tryd.ntmps17
      go_wp2_with fail
      refine (HC.out _).mono ?_
      rintro e w1 ⟨rfl, hb1⟩
      have u1 := hid (up_trans hb0.out hb1)
      clear hb1
      go_wp2_with fail
      refine (HS.out _).mono ?_
      rintro e w2 ⟨rfl, hb2⟩
      go_wp2_with fail
      go_ret2
      exact ⟨by rw [E.out]; rfl, up_al (up_trans u1.out hb2) _⟩
  · have E : Hid (comesP r t = (false, 9)) := by
      unfold Hid comesP
      rw [if_pos (by rw [hc]; simp)]
    rw [hc] at HC
    clear hc hr HS
    rw [ruV_form] at HC
    rw [ruV_form]
    go_enter Tryd.func17, Tryd.ntmps17
    go_wp2_with fail
    refine (HC.out _).mono ?_
    rintro e w1 ⟨rfl, hb1⟩
    go_wp2_with fail
    go_ret2
    exact ⟨by rw [E.out]; rfl, up_trans hb0.out hb1⟩
end Go.Proofs.YtbnghhmmanleaaaDoor
