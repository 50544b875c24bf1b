/- The statement on months and years. -/
import Derived.Test.YtgandogkjcljkabDoorCLaw
namespace Go.Proofs.YtgandogkjcljkabDoor
open Go.RowKit
set_option linter.unusedVariables false
set_option linter.unusedSimpArgs false

set_option maxHeartbeats 2000000 in
set_option maxRecDepth 20000 in
theorem months_walk (y m d : Int) (w : World) (he : Env w) : Calls Tryd.prog 3 #[.int .i64 y, .int .i64 m, .int .i64 d] w fun e w' => e = .returned (.bool true) ∧ Below w.heap.size w w' := by
  have HV : Hid (∀ w', Below w.heap.size w w' → Calls Tryd.prog 4 #[] w' fun e w'' => e = .returned (.bool true) ∧ Below w'.heap.size w' w'') := fun w' hb => alive_any w' (he.up hb)
  have H1 : Hid (∀ w', Below w.heap.size w w' → Calls Tryd.prog 5 #[.int .i64 y, .int .i64 m] w' fun e w'' => e = .returned (.tuple #[.int .i64 (daysP y m).1, .int .i64 (daysP y m).2]) ∧ w'' = w') := fun w' hb => days_any y m w' (he.up hb)
  have H2 : Hid (∀ w', Below w.heap.size w w' → Calls Tryd.prog 6 #[.int .i64 y, .int .i64 m, .int .i64 d] w' fun e w'' => e = .returned (.tuple #[.int .i64 (dayQ y m d).1, .int .i64 (dayQ y m d).2]) ∧ w'' = w') := fun w' hb => day_any y m d w' (he.up hb)
  by_cases h : 1970 ≤ y ∧ y ≤ 2999 ∧ 1 ≤ m ∧ m ≤ 12
  · have e1 : daysP y m = (lenM y m, 0) := if_pos h
    rw [e1] at H1
    have HL : Hid (∀ k : Nat, k < 12 → ∀ w', Below w.heap.size w w' → Calls Tryd.prog 5 #[.int .i64 y, .int .i64 ((k : Int) + 1)] w' fun e w'' => e = .returned (.tuple #[.int .i64 (lenM y ((k : Int) + 1)), .int .i64 0]) ∧ w'' = w') := by
      intro k hk w' hb
      have := days_any y ((k : Int) + 1) w' (he.up hb)
      rw [show daysP y ((k : Int) + 1) = (lenM y ((k : Int) + 1), 0) from if_pos ⟨h.1, h.2.1, by omega, by omega⟩] at this
      exact this
    have HP : Hid (∀ w', Calls Tryd.prog 8 #[.int .i64 y] w' fun e w'' => e = .returned (.bool (leapP y)) ∧ w'' = w') := fun w' => leap_any _ w'
    have HC := hid (cum_bounds y)
    have HN := hid (cum_next y)
    have HM := hid (lenM_pos y)
    have HA : Hid (cumM y 12 = if leapP y then 366 else 365) := cum_all y
    have lm := lenM_pos y m
    have E : Hid (∃ v c, dayQ y m d = (v, c) ∧ ((c = 0 ∧ 1 ≤ d ∧ d ≤ lenM y m) ∨ (c = 4 ∧ ¬ (1 ≤ d ∧ d ≤ lenM y m)))) := by
      by_cases hd : 1 ≤ d ∧ d ≤ lenM y m
      · exact ⟨dayP y m d, 0, if_pos ⟨h, hd⟩, .inl ⟨rfl, hd⟩⟩
      · exact ⟨0, 4, if_neg (fun q => hd q.2), .inr ⟨rfl, hd⟩⟩
    obtain ⟨v, c, e2, hc⟩ := E.out
    rw [e2] at H2
    clear e1 e2 E h he
    generalize leapP y = lp at *
    generalize hL : lenM y m = L at *
    clear hL
    have loop : ∀ (a : Act) (w1 : World), True := fun _ _ => trivial
    go_enter Tryd.func3, Tryd.ntmps3
    go_wp2_with fail
    refine (HV.out _ (Below.refl _ _)).mono ?_
    rintro e v1 ⟨rfl, hv1⟩
    have hv1 := hid hv1
    go_wp2_with fail
    refine (H1.out _ hv1.out).mono ?_
    rintro e w3 ⟨rfl, rfl⟩
    go_wp2_with fail
    refine (H2.out _ hv1.out).mono ?_
    rintro e w3 ⟨rfl, rfl⟩
    go_wp2_with fail
    refine (num_any _ _).mono ?_
    rintro e w3 ⟨rfl, rfl⟩
    go_wp2_with fail
    refine (num_any _ _).mono ?_
    rintro e w3 ⟨rfl, rfl⟩
    have C : Hid ((c = 0 ∧ (1 ≤ d ∧ d ≤ L)) ∨ (c = 4 ∧ d < 1) ∨ (c = 4 ∧ 1 ≤ d ∧ L < d)) := by
      unfold Hid
      rcases hc with ⟨c0, hd⟩ | ⟨c4, hd⟩
      · exact .inl ⟨c0, hd⟩
      · by_cases q : d < 1
        · exact .inr (.inl ⟨c4, q⟩)
        · exact .inr (.inr ⟨c4, by omega, by omega⟩)
    clear hc
    rcases C.out with ⟨rfl, q1, q2⟩ | ⟨rfl, q1⟩ | ⟨rfl, q1, q2⟩
    all_goals
      clear C
      go_wp2_with fail
      go_loopw [11, 12] (fun s q wr => ∃ k : Nat, k ≤ 12 ∧ s = .int .i64 (cumM y k) ∧ q = .int .i64 ((k : Int) + 1) ∧ w3 = wr) (fun _ q _ => (13 - intOf q).toNat)
      case atStart => exact ⟨0, by omega, by simp [cumM], by simp, rfl⟩
      case round =>
        obtain ⟨k, hk, rfl, rfl, rfl⟩ := hrel
        by_cases c : k < 12
        · have K := hid (HL.out k c _ hv1.out)
          have nx := HN.out k
          have l := HM.out ((k : Int) + 1)
          have bb := HC.out k
          generalize lenM y ((k : Int) + 1) = x at *
          have l1 : ¬ x < 28 := by omega
          have l2 : ¬ 31 < x := by omega
          go_wp2_with fail
          refine K.out.mono ?_
          rintro e w4 ⟨rfl, rfl⟩
          go_wp2_with fail
          refine (num_any _ _).mono ?_
          rintro e w4 ⟨rfl, rfl⟩
          go_wp2
          exact ⟨⟨k + 1, by omega, by rw [nx], by go_num, by first | rfl | trivial⟩, by simp [intOf]; omega⟩
        · obtain rfl : k = 12 := by omega
          cases lp
          · have HA2 : cumM y 12 = 365 := HA.out
            rw [HA2]
            go_wp2_with fail
            refine (HP.out _).mono ?_
            rintro e w4 ⟨rfl, rfl⟩
            go_wp2
            go_ret
            exact ⟨rfl, hv1⟩
          · have HA2 : cumM y 12 = 366 := HA.out
            rw [HA2]
            go_wp2_with fail
            refine (HP.out _).mono ?_
            rintro e w4 ⟨rfl, rfl⟩
            go_wp2
            go_ret
            exact ⟨rfl, hv1⟩
  · have e1 : daysP y m = (0, 4) := if_neg h
    have e2 : dayQ y m d = (0, 4) := if_neg (fun q => h q.1)
    rw [e1] at H1
    rw [e2] at H2
    clear e1 e2 he
    go_enter Tryd.func3, Tryd.ntmps3
    go_wp2_with fail
    refine (HV.out _ (Below.refl _ _)).mono ?_
    rintro e v1 ⟨rfl, hv1⟩
    have hv1 := hid hv1
    go_wp2_with fail
    refine (H1.out _ hv1.out).mono ?_
    rintro e w3 ⟨rfl, rfl⟩
    go_wp2_with fail
    refine (H2.out _ hv1.out).mono ?_
    rintro e w3 ⟨rfl, rfl⟩
    go_wp2_with fail
    refine (num_any _ _).mono ?_
    rintro e w3 ⟨rfl, rfl⟩
    go_wp2_with fail
    refine (num_any _ _).mono ?_
    rintro e w3 ⟨rfl, rfl⟩
    go_wp2
    go_ret
    exact ⟨rfl, hv1⟩
end Go.Proofs.YtgandogkjcljkabDoor
