/- The program's Next. -/
import Derived.Test.YtpjmieiajhhbaaaDoorDDay
import Derived.Test.YtpjmieiajhhbaaaDoorNNx
import Derived.Test.YtpjmieiajhhbaaaDoorDChk
namespace Go.Proofs.YtpjmieiajhhbaaaDoor
open Go.RowKit
set_option linter.unusedVariables false
set_option linter.unusedSimpArgs false

theorem minF_zero {r : Ru} (hr : r.ok) (hc : checkP r = 0) : (minF r 0).1 < 1440 ∧ minOk r (minF r 0).1 = true ∧ ∀ k, k < (minF r 0).1 → minOk r k = false := by
  rcases minF_spec hr hc 0 (by omega) with ⟨-, -, h2, h3, h4⟩ | ⟨-, h⟩
  · exact ⟨h2, h3, fun k hk => h4 k (by omega) hk⟩
  · exfalso
    obtain ⟨⟨m0, m1⟩, h0, h1⟩ := check_sets hr hc
    have ex : ∀ s : Nat, s ≠ 0 → ∃ j, s.testBit j = true := by
      intro s hs
      refine Classical.byContradiction fun q => hs ?_
      apply Nat.eq_of_testBit_eq
      intro j
      rw [Nat.zero_testBit]
      cases e : s.testBit j
      · rfl
      · exact absurd ⟨j, e⟩ q
    obtain ⟨a, ha⟩ := ex _ m0
    obtain ⟨b, hb⟩ := ex _ h0
    have a1 := m1 a ha
    have b1 := h1 b hb
    have := h (60 * b + a) (by omega) (by omega)
    unfold minOk at this
    rw [show (60 * b + a) % 60 = a by omega, show (60 * b + a) / 60 = b by omega, ha, hb] at this
    cases this
theorem comes_min (r : Ru) (d : Int) (k : Nat) (hk : k < 1440) : comesAt r (86400 * d + 60 * (k : Int)) = (minOk r k && dayAt r d) := by
  rw [comes_at r d k hk]
  unfold minOk
  rw [Bool.and_assoc]
/-- A second behind t at which the rule comes: its day and its minute. -/
theorem comes_when {r : Ru} (hr : r.ok) (hc : checkP r = 0) {t q T : Int} {f : Nat} (t0 : -1 ≤ t) (hq : q = (t + 60) / 60) (hT : T = q / 1440) (hf : (f : Int) = q % 1440)
    {b : Int} (hb : t < b) (h : comesAt r b = true) : ∃ (D : Int) (k : Nat), b = 86400 * D + 60 * (k : Int) ∧ k < 1440 ∧ minOk r k = true ∧ dayAt r D = true ∧ T ≤ D ∧ (D = T → f ≤ k ∧ (minF r f).2 = true) := by
  have s0 : secT b = 0 := Classical.byContradiction fun c => by rw [comes_sec c] at h; cases h
  unfold secT at s0
  have e : b = 86400 * (b / 86400) + 60 * (((b % 86400 / 60).toNat : Nat) : Int) := by omega
  have hk : (b % 86400 / 60).toNat < 1440 := by omega
  rw [e, comes_min r _ _ hk, Bool.and_eq_true] at h
  refine ⟨_, _, e, hk, h.1, h.2, by omega, fun hD => ?_⟩
  have fk : f ≤ (b % 86400 / 60).toNat := by omega
  refine ⟨fk, ?_⟩
  rcases minF_spec hr hc f (by omega) with ⟨m, -⟩ | ⟨-, m⟩
  · exact m
  · rw [m _ fk hk] at h
    exact absurd h.1 (by simp)
theorem next_none {r : Ru} (hr : r.ok) (hc : checkP r = 0) {t q T : Int} {f : Nat} (t0 : -1 ≤ t) (hq : q = (t + 60) / 60) (hT : T = q / 1440) (hf : (f : Int) = q % 1440) {s : Int} (hs : s = if (minF r f).2 then T else T + 1)
    (h : ∀ k, s ≤ k → k < 376200 → dayAt r k = false) : NextQ r t 0 false := by
  right
  refine ⟨rfl, rfl, fun b h1 h2 => ?_⟩
  cases e : comesAt r b
  · rfl
  · obtain ⟨D, k, rfl, hk, hm, hd, hD, hDT⟩ := comes_when hr hc t0 hq hT hf h1 e
    have : s ≤ D := by
      rw [hs]
      by_cases c : D = T
      · rw [(hDT c).2, if_pos rfl]; omega
      · split <;> omega
    rw [h D this (by omega)] at hd
    cases hd
theorem next_same {r : Ru} (hr : r.ok) (hc : checkP r = 0) {t q T : Int} {f : Nat} (t0 : -1 ≤ t) (hq : q = (t + 60) / 60) (hT : T = q / 1440) (hf : (f : Int) = q % 1440) (hm : (minF r f).2 = true)
    (h : dayAt r T = true) (h1 : T < 376200) : NextQ r t (T * 86400 + ((minF r f).1 : Int) * 60) true := by
  rcases minF_spec hr hc f (by omega) with ⟨-, m1, m2, m3, m4⟩ | ⟨m0, -⟩
  · left
    have e : T * 86400 + ((minF r f).1 : Int) * 60 = 86400 * T + 60 * ((minF r f).1 : Int) := by omega
    rw [e]
    refine ⟨rfl, by omega, by omega, by omega, by rw [comes_min r T _ m2, m3, h]; rfl, fun b hb1 hb2 => ?_⟩
    cases e : comesAt r b
    · rfl
    · obtain ⟨D, k, rfl, hk, hmk, hd, hD, hDT⟩ := comes_when hr hc t0 hq hT hf hb1 e
      have c : D = T := by omega
      rw [m4 k (hDT c).1 (by omega)] at hmk
      cases hmk
  · rw [hm] at m0
    cases m0
theorem next_later {r : Ru} (hr : r.ok) (hc : checkP r = 0) {t q T : Int} {f : Nat} (t0 : -1 ≤ t) (hq : q = (t + 60) / 60) (hT : T = q / 1440) (hf : (f : Int) = q % 1440) {s : Int} (hs : s = if (minF r f).2 then T else T + 1)
    {x : Int} (hx : s ≤ x) (hxT : x ≠ T) (hx1 : x < 376200) (hd : dayAt r x = true) (h : ∀ k, s ≤ k → k < x → dayAt r k = false) : NextQ r t (x * 86400 + ((minF r 0).1 : Int) * 60) true := by
  obtain ⟨m2, m3, m4⟩ := minF_zero hr hc
  have e : x * 86400 + ((minF r 0).1 : Int) * 60 = 86400 * x + 60 * ((minF r 0).1 : Int) := by omega
  rw [e]
  have Tx : T < x := by
    by_cases c : (minF r f).2 = true
    · rw [if_pos c] at hs; omega
    · rw [if_neg c] at hs; omega
  left
  refine ⟨rfl, by omega, by omega, by omega, by rw [comes_min r x _ m2, m3, hd]; rfl, fun b hb1 hb2 => ?_⟩
  cases e : comesAt r b
  · rfl
  · obtain ⟨D, k, rfl, hk, hmk, hdd, hD, hDT⟩ := comes_when hr hc t0 hq hT hf hb1 e
    have sD : s ≤ D := by
      rw [hs]
      by_cases c : D = T
      · rw [(hDT c).2, if_pos rfl]; omega
      · split <;> omega
    by_cases c : D = x
    · subst c
      rw [m4 k (by omega)] at hmk
      cases hmk
    · rw [h D sD (by omega)] at hdd
      cases hdd
set_option maxHeartbeats 4000000 in
set_option maxRecDepth 20000 in
theorem next_any (r : Ru) (hr : r.ok) (t : Int) (w : World) (he : Env w) :
    Calls Tryd.prog 66 #[ruV r, .int .i64 t] w fun e w' => NextE r t e ∧ Below w.heap.size w w' := by
  have HC : Hid (∀ w', Below w.heap.size w w' → Calls Tryd.prog 80 #[ruV r] w' fun e w'' => e = .returned (.int .i64 (checkP r)) ∧ Below w'.heap.size w' w'') := fun w' hb => check_any r hr w' (he.up hb)
  have b0 := hid (blk_new w (.cells #[.int .u64 (r.mi : Int), .int .u64 (r.ho : Int), .int .u64 (r.da : Int), .int .u64 (r.mo : Int), .int .u64 (r.we : Int), .bool r.ad, .bool r.aw] 117))
  have hb0 := hid (up_alloc w (.cells #[.int .u64 (r.mi : Int), .int .u64 (r.ho : Int), .int .u64 (r.da : Int), .int .u64 (r.mo : Int), .int .u64 (r.we : Int), .bool r.ad, .bool r.aw] 117))
  rcases checkP_two r with hc | hc
  · rw [hc] at HC
    by_cases h : -1 ≤ t ∧ t < 32503680000
    · obtain ⟨t0, t1⟩ := h
      have n1 : ¬ t < -1 := by omega
      have n2 : ¬ 32503680000 ≤ t := by omega
      obtain ⟨q, hq⟩ : ∃ q, q = (t + 60) / 60 := ⟨_, rfl⟩
      obtain ⟨T, hT⟩ : ∃ T, T = q / 1440 := ⟨_, rfl⟩
      obtain ⟨f, hf⟩ : ∃ f : Nat, (f : Int) = q % 1440 := ⟨(q % 1440).toNat, by omega⟩
      have e1 : Int.tdiv (t + 60) 60 = q := by rw [Int.tdiv_eq_ediv_of_nonneg (by omega), hq]
      have e2 : Int.tdiv q 1440 = T := by rw [Int.tdiv_eq_ediv_of_nonneg (by omega), hT]
      have e3 : Int.tmod q 1440 = (f : Int) := by rw [Int.tmod_eq_emod_of_nonneg (by omega), hf]
      have f0 : f < 1440 := by omega
      have T0 : 0 ≤ T := by omega
      have T1 : T ≤ 376200 := by omega
      have q0 : 0 ≤ q := by omega
      have q1 : q ≤ 541728001 := by omega
      have M0 : (minF r 0).1 < 1440 := (minF_zero hr hc).1
      have M1 : (minF r f).2 = true → (minF r f).1 < 1440 := fun h => by
        rcases minF_spec hr hc f f0 with ⟨-, -, m, -⟩ | ⟨m, -⟩
        · exact m
        · rw [h] at m; cases m
      have HA : Hid (∀ w', Below w.heap.size w w' → Calls Tryd.prog 81 #[ruV r, .int .i64 (f : Int)] w' fun e w'' => e = .returned (.tuple #[.int .i64 ((minF r f).1 : Nat), .bool (minF r f).2]) ∧ Below w'.heap.size w' w'') := fun w' hb => minuteFrom_any r hr f f0 w' (he.up hb)
      have HZ : Hid (∀ w', Below w.heap.size w w' → Calls Tryd.prog 81 #[ruV r, .int .i64 0] w' fun e w'' => e = .returned (.tuple #[.int .i64 ((minF r 0).1 : Nat), .bool (minF r 0).2]) ∧ Below w'.heap.size w' w'') := fun w' hb => minuteFrom_any r hr 0 (by omega) w' (he.up hb)
      have HF : Hid (∀ s : Int, 0 ≤ s → ∀ w', Below w.heap.size w w' → Calls Tryd.prog 82 #[ruV r, .int .i64 s] w' fun e w'' => DayE r s e ∧ Below w'.heap.size w' w'') := fun s hs w' hb => dayFrom_any r hr hc s hs w' (he.up hb)
      have GOOD : Hid (∀ a is, NextQ r t a is → NextE r t (.returned (.tuple #[.int .i64 a, .bool is, .int .i64 0]))) := fun a is h => ⟨a, is, 0, rfl, .inr (.inr ⟨hc, t0, t1, rfl, h⟩)⟩
      have Q1 := hid (fun s (hs : s = if (minF r f).2 then T else T + 1) => next_none hr hc t0 hq hT hf hs)
      have Q2 := hid (fun (hm : (minF r f).2 = true) => next_same hr hc t0 hq hT hf hm)
      have Q3 := hid (fun s (hs : s = if (minF r f).2 then T else T + 1) x => next_later hr hc t0 hq hT hf hs (x := x))
      clear he hr hc hq hT hf
      rw [ruV_form] at HC HA HZ HF
      rw [ruV_form]
      generalize (minF r f).1 = at1 at *
      generalize (minF r f).2 = ok1 at *
      generalize (minF r 0).1 = at0 at *
      generalize (minF r 0).2 = ok0 at *
      go_enter Tryd.func66, Tryd.ntmps66
      go_wp2_with fail
      refine (HC.out _ hb0.out).mono ?_
      rintro e w1 ⟨rfl, hb1⟩
      have u1 := hid (up_trans hb0.out hb1)
      have k1 := hid (blk_up b0.out hb1)
      clear hb1 b0
      have x0 := blk_cell k1.out 0 _ rfl
      have x1 := blk_cell k1.out 1 _ rfl
      have x2 := blk_cell k1.out 2 _ rfl
      have x3 := blk_cell k1.out 3 _ rfl
      have x4 := blk_cell k1.out 4 _ rfl
      have x5 := blk_cell k1.out 5 _ rfl
      have x6 := blk_cell k1.out 6 _ rfl
      go_wp2_with fail
      refine (HA.out _ u1.out).mono ?_
      rintro e w2 ⟨rfl, hb2⟩
      have u2 := hid (up_trans u1.out hb2)
      have k2 := hid (blk_up k1.out hb2)
      clear hb2 k1 u1 x0 x1 x2 x3 x4 x5 x6
      have x0 := blk_cell k2.out 0 _ rfl
      have x1 := blk_cell k2.out 1 _ rfl
      have x2 := blk_cell k2.out 2 _ rfl
      have x3 := blk_cell k2.out 3 _ rfl
      have x4 := blk_cell k2.out 4 _ rfl
      have x5 := blk_cell k2.out 5 _ rfl
      have x6 := blk_cell k2.out 6 _ rfl
      cases ok1
      · have F1 := hid (HF.out (T + 1) (by omega))
        have S1 : Hid (T + 1 = if false = true then T else T + 1) := rfl
        go_wp2_with fail
        refine (F1.out _ u2.out).mono ?_
        rintro e w3 ⟨⟨x, b, rfl, hx⟩, hb3⟩
        have u3 := hid (up_trans u2.out hb3)
        have k3 := hid (blk_up k2.out hb3)
        clear hb3 k2 u2 x0 x1 x2 x3 x4 x5 x6
        have x0 := blk_cell k3.out 0 _ rfl
        have x1 := blk_cell k3.out 1 _ rfl
        have x2 := blk_cell k3.out 2 _ rfl
        have x3 := blk_cell k3.out 3 _ rfl
        have x4 := blk_cell k3.out 4 _ rfl
        have x5 := blk_cell k3.out 5 _ rfl
        have x6 := blk_cell k3.out 6 _ rfl
        cases b
        · have FIN : Hid (NextE r t (.returned (.tuple #[.int .i64 0, .bool false, .int .i64 0]))) := by
            rcases hx with ⟨q, -⟩ | ⟨-, hx⟩
            · cases q
            · exact GOOD.out _ _ (Q1.out _ S1.out hx)
          go_wp2_with fail
          go_ret3
          exact ⟨FIN.out, u3.out⟩
        · have hx : T + 1 ≤ x ∧ x < 376200 ∧ dayAt r x = true ∧ ∀ k, T + 1 ≤ k → k < x → dayAt r k = false := by
            rcases hx with ⟨-, hx⟩ | ⟨q, -⟩
            · exact hx
            · cases q
          obtain ⟨y0, y1, y2, y3⟩ := hx
          have FIN : Hid (NextE r t (.returned (.tuple #[.int .i64 (x * 86400 + (at0 : Int) * 60), .bool true, .int .i64 0]))) := GOOD.out _ _ (Q3.out _ S1.out x y0 (by omega) y1 y2 y3)
          have ne : (x != T) = true := by simp; omega
          clear y2 y3
          go_wp2_with fail
          refine (HZ.out _ u3.out).mono ?_
          rintro e w4 ⟨rfl, hb4⟩
          have u4 := hid (up_trans u3.out hb4)
          clear hb4
          go_wp2_with fail
          go_ret3
          exact ⟨FIN.out, u4.out⟩
      · have F1 := hid (HF.out T T0)
        have S1 : Hid (T = if true = true then T else T + 1) := rfl
        have M2 : at1 < 1440 := M1 rfl
        go_wp2_with fail
        refine (F1.out _ u2.out).mono ?_
        rintro e w3 ⟨⟨x, b, rfl, hx⟩, hb3⟩
        have u3 := hid (up_trans u2.out hb3)
        have k3 := hid (blk_up k2.out hb3)
        clear hb3 k2 u2 x0 x1 x2 x3 x4 x5 x6
        have x0 := blk_cell k3.out 0 _ rfl
        have x1 := blk_cell k3.out 1 _ rfl
        have x2 := blk_cell k3.out 2 _ rfl
        have x3 := blk_cell k3.out 3 _ rfl
        have x4 := blk_cell k3.out 4 _ rfl
        have x5 := blk_cell k3.out 5 _ rfl
        have x6 := blk_cell k3.out 6 _ rfl
        cases b
        · have FIN : Hid (NextE r t (.returned (.tuple #[.int .i64 0, .bool false, .int .i64 0]))) := by
            rcases hx with ⟨q, -⟩ | ⟨-, hx⟩
            · cases q
            · exact GOOD.out _ _ (Q1.out _ S1.out hx)
          go_wp2_with fail
          go_ret3
          exact ⟨FIN.out, u3.out⟩
        · have hx : T ≤ x ∧ x < 376200 ∧ dayAt r x = true ∧ ∀ k, T ≤ k → k < x → dayAt r k = false := by
            rcases hx with ⟨-, hx⟩ | ⟨q, -⟩
            · exact hx
            · cases q
          obtain ⟨y0, y1, y2, y3⟩ := hx
          by_cases c : x = T
          · subst c
            have FIN : Hid (NextE r t (.returned (.tuple #[.int .i64 (x * 86400 + (at1 : Int) * 60), .bool true, .int .i64 0]))) := GOOD.out _ _ (Q2.out (by trivial) y2 y1)
            clear y2 y3
            go_wp2_with fail
            go_ret3
            exact ⟨FIN.out, u3.out⟩
          · have FIN : Hid (NextE r t (.returned (.tuple #[.int .i64 (x * 86400 + (at0 : Int) * 60), .bool true, .int .i64 0]))) := GOOD.out _ _ (Q3.out _ S1.out x y0 c y1 y2 y3)
            have ne : (x != T) = true := by simpa using c
            clear y2 y3 c
            go_wp2_with fail
            refine (HZ.out _ u3.out).mono ?_
            rintro e w4 ⟨rfl, hb4⟩
            have u4 := hid (up_trans u3.out hb4)
            clear hb4
            go_wp2_with fail
            go_ret3
            exact ⟨FIN.out, u4.out⟩
    · have FIN : Hid (NextE r t (.returned (.tuple #[.int .i64 0, .bool false, .int .i64 4]))) := ⟨0, false, 4, rfl, .inr (.inl ⟨hc, by omega, rfl, rfl, rfl⟩)⟩
      have hh : t < -1 ∨ 32503680000 ≤ t := by omega
      clear hc hr he h
      rw [ruV_form] at HC
      rw [ruV_form]
      rcases hh with hh | hh
      · go_enter Tryd.func66, Tryd.ntmps66
        go_wp2_with fail
        refine (HC.out _ hb0.out).mono ?_
        rintro e w1 ⟨rfl, hb1⟩
        go_wp2_with fail
        go_ret3
        exact ⟨FIN.out, up_trans hb0.out hb1⟩
      · have hh2 : ¬ t < -1 := by omega
        go_enter Tryd.func66, Tryd.ntmps66
        go_wp2_with fail
        refine (HC.out _ hb0.out).mono ?_
        rintro e w1 ⟨rfl, hb1⟩
        go_wp2_with fail
        go_ret3
        exact ⟨FIN.out, up_trans hb0.out hb1⟩
  · have FIN : Hid (NextE r t (.returned (.tuple #[.int .i64 0, .bool false, .int .i64 9]))) := ⟨0, false, 9, rfl, .inl ⟨by rw [hc]; simp, rfl, rfl, rfl⟩⟩
    rw [hc] at HC
    clear hc hr he
    rw [ruV_form] at HC
    rw [ruV_form]
    go_enter Tryd.func66, Tryd.ntmps66
    go_wp2_with fail
    refine (HC.out _ hb0.out).mono ?_
    rintro e w1 ⟨rfl, hb1⟩
    go_wp2_with fail
    go_ret3
    exact ⟨FIN.out, up_trans hb0.out hb1⟩
end Go.Proofs.YtpjmieiajhhbaaaDoor
