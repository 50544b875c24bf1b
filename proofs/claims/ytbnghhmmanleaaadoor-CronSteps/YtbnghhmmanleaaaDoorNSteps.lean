/- The statements on what comes next. -/
import Derived.Test.YtbnghhmmanleaaaDoorNPg
namespace Go.Proofs.YtbnghhmmanleaaaDoor
open Go.RowKit
set_option linter.unusedVariables false
set_option linter.unusedSimpArgs false

theorem NextR.ok {r : Ru} {t a : Int} {is : Bool} {e : Int} (h : NextR r t a is e) : (e ≠ 0 → is = false ∧ a = 0 ∧ (checkP r ≠ 0 ∨ t < -1 ∨ 32503680000 ≤ t)) ∧ (e = 0 → checkP r = 0 ∧ -1 ≤ t ∧ t < 32503680000 ∧ NextQ r t a is) := by
  rcases h with ⟨h0, h1, h2, h3⟩ | ⟨h0, h1, h2, h3, h4⟩ | ⟨h0, h1, h2, h3, h4⟩
  · exact ⟨fun _ => ⟨h2, h1, .inl h0⟩, fun q => by omega⟩
  · exact ⟨fun _ => ⟨h3, h2, .inr (by omega)⟩, fun q => by omega⟩
  · exact ⟨fun q => absurd h3 q, fun _ => ⟨h0, h1, h2, h4⟩⟩
/-- P17.3, plainly. -/
theorem next_steps {r : Ru} {t u a b : Int} {is was : Bool} (h : t ≤ u) (ha : NextQ r t a is) (hb : NextQ r u b was) : (was = true → is = true ∧ a ≤ b ∧ (u < a → a = b)) ∧ (was = false → is = true → a ≤ u) := by
  rcases ha with ⟨rfl, h1, h2, h3, h4, h5⟩ | ⟨rfl, h1, h2⟩ <;> rcases hb with ⟨rfl, k1, k2, k3, k4, k5⟩ | ⟨rfl, k1, k2⟩
  · refine ⟨fun _ => ⟨rfl, ?_, fun q => ?_⟩, fun q => (by cases q)⟩
    · by_cases c : a ≤ b
      · exact c
      · rw [h5 b (by omega) (by omega)] at k4; cases k4
    · by_cases c : a < b
      · rw [k5 a q c] at h4; cases h4
      · by_cases c2 : b < a
        · rw [h5 b (by omega) c2] at k4; cases k4
        · omega
  · refine ⟨fun q => (by cases q), fun _ _ => ?_⟩
    by_cases c : a ≤ u
    · exact c
    · rw [k2 a (by omega) h3] at h4; cases h4
  · rw [h2 b (by omega) k3] at k4; cases k4
  · exact ⟨fun q => (by cases q), fun _ q => (by cases q)⟩
set_option maxHeartbeats 1000000 in
set_option maxRecDepth 20000 in
theorem steps_walk (r : Ru) (hr : r.ok) (t u : Int) (w : World) (hp : Pg w) : Calls Tryd.prog 7 #[ruV r, .int .i64 t, .int .i64 u] w fun e w' => e = .returned (.bool true) ∧ Below w.heap.size w w' := by
  have H1 : Hid (∀ t w', Below w.heap.size w w' → Calls Tryd.prog 18 #[ruV r, .int .i64 t] w' fun e w'' => NextE r t e ∧ Below w'.heap.size w' w'') := hp.next r hr
  have HV := hid (alive_any w hp)
  have k0 := blk_new w (ruBox r)
  have u0 := hid (up_alloc w (ruBox r))
  rw [ruV_form] at *
  unfold ruBox at k0 u0
  clear hp hr
  go_enter Tryd.func7, Tryd.ntmps7
  go_wp2_with fail
  refine (HV.out _ u0.out).mono ?_
  rintro e w1 ⟨rfl, hb1⟩
  have k1 := blk_up k0 hb1
  have u1 := hid (up_trans u0.out hb1)
  have z0 := blk_cell k1 0 _ rfl
  have z1 := blk_cell k1 1 _ rfl
  have z2 := blk_cell k1 2 _ rfl
  have z3 := blk_cell k1 3 _ rfl
  have z4 := blk_cell k1 4 _ rfl
  have z5 := blk_cell k1 5 _ rfl
  have z6 := blk_cell k1 6 _ rfl
  clear hb1 k0
  rcases Int.lt_trichotomy t u with lt | rfl | lt
  · have n0 : ¬ u ≤ t := by omega
    have n00 : ¬ u < t := by omega
    go_wp2_with fail
    refine (H1.out _ _ u1.out).mono ?_
    rintro e w2 ⟨⟨a, is, c1, rfl, hq⟩, hb2⟩
    have k2 := blk_up k1 hb2
    have u2 := hid (up_trans u1.out hb2)
    clear z0 z1 z2 z3 z4 z5 z6
    have z0 := blk_cell k2 0 _ rfl
    have z1 := blk_cell k2 1 _ rfl
    have z2 := blk_cell k2 2 _ rfl
    have z3 := blk_cell k2 3 _ rfl
    have z4 := blk_cell k2 4 _ rfl
    have z5 := blk_cell k2 5 _ rfl
    have z6 := blk_cell k2 6 _ rfl
    have HQ := hid hq
    clear hb2 k1 k2 hq
    go_wp2_with fail
    refine (H1.out _ _ u2.out).mono ?_
    rintro e w3 ⟨⟨b, was, c2, rfl, hq2⟩, hb3⟩
    have u3 := hid (up_trans u2.out hb3)
    have HQ2 := hid hq2
    clear hb3 hq2 z0 z1 z2 z3 z4 z5 z6
    have ok1 := hid HQ.out.ok
    have ok2 := hid HQ2.out.ok
    go_wp2_with fail
    refine (num_any _ _).mono ?_
    rintro e w4 ⟨rfl, rfl⟩
    by_cases e1 : c1 = 0
    · subst e1
      go_wp2_with fail
      refine (num_any _ _).mono ?_
      rintro e w4 ⟨rfl, rfl⟩
      by_cases e2 : c2 = 0
      · subst e2
        obtain ⟨s1, s2⟩ := next_steps (by omega : t ≤ u) (ok1.out.2 (by trivial)).2.2.2 (ok2.out.2 (by trivial)).2.2.2
        clear ok1 ok2 HQ HQ2
        cases was
        · cases is
          · clear s1 s2
            go_wp2_with fail
            go_ret
            exact ⟨rfl, u3.out⟩
          · have s3 := s2 rfl rfl
            clear s1 s2
            go_wp2_with fail
            go_ret
            exact ⟨by first | rfl | exact ret_bool (by simp; omega), u3.out⟩
        · obtain ⟨rfl, s3, s4⟩ := s1 rfl
          clear s1 s2
          have n1 : ¬ b < a := by omega
          by_cases c : a = b
          · subst c
            clear s4
            by_cases ua : u < a
            · go_wp2_with fail
              go_ret
              exact ⟨by first | rfl | simp, u3.out⟩
            · go_wp2_with fail
              go_ret
              exact ⟨by first | rfl | simp, u3.out⟩
          · have n2 : ¬ u < a := fun q => c (s4 q)
            clear s4
            go_wp2_with fail
            go_ret
            exact ⟨by first | rfl | simp, u3.out⟩
      · have n2 : (c2 != 0) = true := by simpa using e2
        obtain ⟨rfl, rfl, -⟩ := ok2.out.1 e2
        clear ok1 ok2 HQ HQ2 e2
        cases is
        · go_wp2_with fail
          go_ret
          exact ⟨rfl, u3.out⟩
        · go_wp2_with fail
          go_ret
          exact ⟨rfl, u3.out⟩
    · have n1 : (c1 != 0) = true := by simpa using e1
      obtain ⟨rfl, rfl, -⟩ := ok1.out.1 e1
      clear ok1 ok2 HQ HQ2 e1
      go_wp2_with fail
      go_ret
      exact ⟨rfl, u3.out⟩
  · go_wp2_with fail
    refine (H1.out _ _ u1.out).mono ?_
    rintro e w2 ⟨⟨a, is, c1, rfl, hq⟩, hb2⟩
    have k2 := blk_up k1 hb2
    have u2 := hid (up_trans u1.out hb2)
    clear z0 z1 z2 z3 z4 z5 z6
    have z0 := blk_cell k2 0 _ rfl
    have z1 := blk_cell k2 1 _ rfl
    have z2 := blk_cell k2 2 _ rfl
    have z3 := blk_cell k2 3 _ rfl
    have z4 := blk_cell k2 4 _ rfl
    have z5 := blk_cell k2 5 _ rfl
    have z6 := blk_cell k2 6 _ rfl
    have HQ := hid hq
    clear hb2 k1 k2 hq
    go_wp2_with fail
    refine (H1.out _ _ u2.out).mono ?_
    rintro e w3 ⟨⟨b, was, c2, rfl, hq2⟩, hb3⟩
    have u3 := hid (up_trans u2.out hb3)
    have HQ2 := hid hq2
    clear hb3 hq2 z0 z1 z2 z3 z4 z5 z6
    have ok1 := hid HQ.out.ok
    have ok2 := hid HQ2.out.ok
    go_wp2_with fail
    refine (num_any _ _).mono ?_
    rintro e w4 ⟨rfl, rfl⟩
    by_cases e1 : c1 = 0
    · subst e1
      go_wp2_with fail
      refine (num_any _ _).mono ?_
      rintro e w4 ⟨rfl, rfl⟩
      by_cases e2 : c2 = 0
      · subst e2
        obtain ⟨s1, s2⟩ := next_steps (Int.le_refl t) (ok1.out.2 (by trivial)).2.2.2 (ok2.out.2 (by trivial)).2.2.2
        clear ok1 ok2 HQ HQ2
        cases was
        · cases is
          · clear s1 s2
            go_wp2_with fail
            go_ret
            exact ⟨rfl, u3.out⟩
          · have s3 := s2 rfl rfl
            clear s1 s2
            go_wp2_with fail
            go_ret
            exact ⟨by first | rfl | exact ret_bool (by simp; omega), u3.out⟩
        · obtain ⟨rfl, s3, s4⟩ := s1 rfl
          clear s1 s2
          have n1 : ¬ b < a := by omega
          by_cases c : a = b
          · subst c
            clear s4
            by_cases ua : t < a
            · go_wp2_with fail
              go_ret
              exact ⟨by first | rfl | simp, u3.out⟩
            · go_wp2_with fail
              go_ret
              exact ⟨by first | rfl | simp, u3.out⟩
          · have n2 : ¬ t < a := fun q => c (s4 q)
            clear s4
            go_wp2_with fail
            go_ret
            exact ⟨by first | rfl | simp, u3.out⟩
      · have n2 : (c2 != 0) = true := by simpa using e2
        obtain ⟨rfl, rfl, -⟩ := ok2.out.1 e2
        clear ok1 ok2 HQ HQ2 e2
        cases is
        · go_wp2_with fail
          go_ret
          exact ⟨rfl, u3.out⟩
        · go_wp2_with fail
          go_ret
          exact ⟨rfl, u3.out⟩
    · have n1 : (c1 != 0) = true := by simpa using e1
      obtain ⟨rfl, rfl, -⟩ := ok1.out.1 e1
      clear ok1 ok2 HQ HQ2 e1
      go_wp2_with fail
      go_ret
      exact ⟨rfl, u3.out⟩
  · have n0 : ¬ t ≤ u := by omega
    have n00 : ¬ t < u := by omega
    go_wp2_with fail
    refine (H1.out _ _ u1.out).mono ?_
    rintro e w2 ⟨⟨a, is, c1, rfl, hq⟩, hb2⟩
    have k2 := blk_up k1 hb2
    have u2 := hid (up_trans u1.out hb2)
    clear z0 z1 z2 z3 z4 z5 z6
    have z0 := blk_cell k2 0 _ rfl
    have z1 := blk_cell k2 1 _ rfl
    have z2 := blk_cell k2 2 _ rfl
    have z3 := blk_cell k2 3 _ rfl
    have z4 := blk_cell k2 4 _ rfl
    have z5 := blk_cell k2 5 _ rfl
    have z6 := blk_cell k2 6 _ rfl
    have HQ := hid hq
    clear hb2 k1 k2 hq
    go_wp2_with fail
    refine (H1.out _ _ u2.out).mono ?_
    rintro e w3 ⟨⟨b, was, c2, rfl, hq2⟩, hb3⟩
    have u3 := hid (up_trans u2.out hb3)
    have HQ2 := hid hq2
    clear hb3 hq2 z0 z1 z2 z3 z4 z5 z6
    have ok1 := hid HQ.out.ok
    have ok2 := hid HQ2.out.ok
    go_wp2_with fail
    refine (num_any _ _).mono ?_
    rintro e w4 ⟨rfl, rfl⟩
    by_cases e1 : c1 = 0
    · subst e1
      go_wp2_with fail
      refine (num_any _ _).mono ?_
      rintro e w4 ⟨rfl, rfl⟩
      by_cases e2 : c2 = 0
      · subst e2
        obtain ⟨s1, s2⟩ := next_steps (by omega : u ≤ t) (ok1.out.2 (by trivial)).2.2.2 (ok2.out.2 (by trivial)).2.2.2
        clear ok1 ok2 HQ HQ2
        cases was
        · cases is
          · clear s1 s2
            go_wp2_with fail
            go_ret
            exact ⟨rfl, u3.out⟩
          · have s3 := s2 rfl rfl
            clear s1 s2
            go_wp2_with fail
            go_ret
            exact ⟨by first | rfl | exact ret_bool (by simp; omega), u3.out⟩
        · obtain ⟨rfl, s3, s4⟩ := s1 rfl
          clear s1 s2
          have n1 : ¬ b < a := by omega
          by_cases c : a = b
          · subst c
            clear s4
            by_cases ua : t < a
            · go_wp2_with fail
              go_ret
              exact ⟨by first | rfl | simp, u3.out⟩
            · go_wp2_with fail
              go_ret
              exact ⟨by first | rfl | simp, u3.out⟩
          · have n2 : ¬ t < a := fun q => c (s4 q)
            clear s4
            go_wp2_with fail
            go_ret
            exact ⟨by first | rfl | simp, u3.out⟩
      · have n2 : (c2 != 0) = true := by simpa using e2
        obtain ⟨rfl, rfl, -⟩ := ok2.out.1 e2
        clear ok1 ok2 HQ HQ2 e2
        cases is
        · go_wp2_with fail
          go_ret
          exact ⟨rfl, u3.out⟩
        · go_wp2_with fail
          go_ret
          exact ⟨rfl, u3.out⟩
    · have n1 : (c1 != 0) = true := by simpa using e1
      obtain ⟨rfl, rfl, -⟩ := ok1.out.1 e1
      clear ok1 ok2 HQ HQ2 e1
      go_wp2_with fail
      go_ret
      exact ⟨rfl, u3.out⟩
end Go.Proofs.YtbnghhmmanleaaaDoor
