/- The statement on the next day. -/
import Derived.Test.YtgandogkjcljkaaDoorCLaw
namespace Go.Proofs.YtgandogkjcljkaaDoor
open Go.RowKit
set_option linter.unusedVariables false
set_option linter.unusedSimpArgs false

set_option maxHeartbeats 2000000 in
set_option maxRecDepth 20000 in
theorem next_walk (n : Int) (w : World) (he : Env w) : Calls Tryd.prog 6 #[.int .i64 n] w fun e w' => e = .returned (.bool true) ∧ Below w.heap.size w w' := by
  have HV : Hid (∀ w', Below w.heap.size w w' → Calls Tryd.prog 22 #[] w' fun e w'' => e = .returned (.bool true) ∧ Below w'.heap.size w' w'') := fun w' hb => alive_any w' (he.up hb)
  obtain ⟨q, e1, q0, q1⟩ : ∃ q, Int.tmod n 376199 = q ∧ -376199 < q ∧ q < 376199 := ⟨_, rfl, Int.lt_tmod_of_pos n (by omega), Int.tmod_lt_of_pos n (by omega)⟩
  obtain ⟨k, e2, k0, k1⟩ : ∃ k, (q + 376199) % 376199 = k ∧ 0 ≤ k ∧ k < 376199 := ⟨_, rfl, by omega, by omega⟩
  have HS : ∀ j, 0 ≤ j → j < 376200 → momP (86400 * j) = ([dateY j, dateM j, dateD j, hourT (86400 * j), minT (86400 * j), secT (86400 * j), (j + 4) % 7], 0) := by
    intro j j0 j1
    have e : 86400 * j / 86400 = j := by omega
    have this : momP (86400 * j) = ([dateY (86400 * j / 86400), dateM (86400 * j / 86400), dateD (86400 * j / 86400), hourT (86400 * j), minT (86400 * j), secT (86400 * j), (86400 * j / 86400 + 4) % 7], 0) := if_pos ⟨by omega, by omega⟩
    rw [e] at this
    exact this
  have S1 : Hid (∀ w', Below w.heap.size w w' → Calls Tryd.prog 15 #[.int .i64 (86400 * k)] w' fun e w'' => e = .returned (retM (momP (86400 * k))) ∧ Below w'.heap.size w' w'') := fun w' hb => Split_any _ w' (he.up hb)
  have S2 : Hid (∀ w', Below w.heap.size w w' → Calls Tryd.prog 15 #[.int .i64 (86400 * (k + 1))] w' fun e w'' => e = .returned (retM (momP (86400 * (k + 1)))) ∧ Below w'.heap.size w' w'') := fun w' hb => Split_any _ w' (he.up hb)
  rw [HS k k0 (by omega)] at S1
  rw [HS (k + 1) (by omega) (by omega)] at S2
  have R : ∀ a b c d e f g x, retM ([a, b, c, d, e, f, g], x) = .tuple #[.agg #[.int .i64 a, .int .i64 b, .int .i64 c, .int .i64 d, .int .i64 e, .int .i64 f, .int .i64 g], .int .i64 x] := fun _ _ _ _ _ _ _ _ => rfl
  rw [R] at S1 S2
  have D1 := date_is (day := k) k0 (by omega)
  have D2 := date_is (day := k + 1) (by omega) (by omega)
  obtain ⟨n1, n2, n3⟩ := date_next D1 (by omega)
  have DD : Hid (∀ w', Below w.heap.size w w' → Calls Tryd.prog 9 #[.int .i64 (dateY k), .int .i64 (dateM k)] w' fun e w'' => e = .returned (.tuple #[.int .i64 (lenM (dateY k) (dateM k)), .int .i64 0]) ∧ w'' = w') := by
    intro w' hb
    have := days_any (dateY k) (dateM k) w' (he.up hb)
    rw [show daysP (dateY k) (dateM k) = (lenM (dateY k) (dateM k), 0) from if_pos ⟨D1.y0, D1.y1, D1.m0, D1.m1⟩] at this
    exact this
  have m1 : dateD k < lenM (dateY k) (dateM k) → dateY (k + 1) = dateY k ∧ dateM (k + 1) = dateM k ∧ dateD (k + 1) = dateD k + 1 := fun c => date_one D2 (n1 c)
  have m2 : dateD k = lenM (dateY k) (dateM k) → dateM k < 12 → dateY (k + 1) = dateY k ∧ dateM (k + 1) = dateM k + 1 ∧ dateD (k + 1) = 1 := fun c c2 => date_one D2 (n2 c c2)
  have m3 : dateD k = lenM (dateY k) (dateM k) → dateM k = 12 → dateY (k + 1) = dateY k + 1 ∧ dateM (k + 1) = 1 ∧ dateD (k + 1) = 1 := fun c c2 => date_one D2 (n3 c c2)
  obtain ⟨y0, y1, mm0, mm1, d0, d1, -⟩ := D1
  have lm := lenM_pos (dateY k) (dateM k)
  have wk : (k + 1 + 4) % 7 = ((k + 4) % 7 + 1) % 7 := by omega
  rw [wk] at S2
  have wd0 : 0 ≤ (k + 4) % 7 ∧ (k + 4) % 7 < 7 := by omega
  clear R HS n1 n2 n3 D2 he wk
  have m1 := hid m1
  have m2 := hid m2
  have m3 := hid m3
  generalize dateY (k + 1) = y' at *
  generalize dateM (k + 1) = m' at *
  generalize dateD (k + 1) = d' at *
  generalize dateY k = y at *
  generalize dateM k = m at *
  generalize dateD k = d at *
  generalize lenM y m = L at *
  generalize (k + 4) % 7 = wd at *
  generalize hourT (86400 * k) = h1 at *
  generalize minT (86400 * k) = h2 at *
  generalize secT (86400 * k) = h3 at *
  generalize hourT (86400 * (k + 1)) = h4 at *
  generalize minT (86400 * (k + 1)) = h5 at *
  generalize secT (86400 * (k + 1)) = h6 at *
  go_enter Tryd.func6, Tryd.ntmps6
  go_wp2_with fail
  refine (HV.out _ (Below.refl _ _)).mono ?_
  rintro e v1 ⟨rfl, hv1⟩
  have hv1 := hid hv1
  go_wp2_with fail
  refine (S1.out _ hv1.out).mono ?_
  rintro e w1 ⟨rfl, hb1⟩
  have z1 := hid (blk_new w1 (.cells #[.int .i64 y, .int .i64 m, .int .i64 d, .int .i64 h1, .int .i64 h2, .int .i64 h3, .int .i64 wd] 34))
  have hb1 := hid (up_al (up_trans hv1.out hb1) (.cells #[.int .i64 y, .int .i64 m, .int .i64 d, .int .i64 h1, .int .i64 h2, .int .i64 h3, .int .i64 wd] 34))
  clear hv1
  go_wp2_with fail
  refine (S2.out _ hb1.out).mono ?_
  rintro e w2 ⟨rfl, hb2⟩
  have z1 := hid (blk_up (blk_up z1.out hb2) (up_alloc w2 (.cells #[.int .i64 y', .int .i64 m', .int .i64 d', .int .i64 h4, .int .i64 h5, .int .i64 h6, .int .i64 ((wd + 1) % 7)] 34)))
  have z2 := blk_new w2 (.cells #[.int .i64 y', .int .i64 m', .int .i64 d', .int .i64 h4, .int .i64 h5, .int .i64 h6, .int .i64 ((wd + 1) % 7)] 34)
  have hb2 := hid (up_al (up_trans hb1.out hb2) (.cells #[.int .i64 y', .int .i64 m', .int .i64 d', .int .i64 h4, .int .i64 h5, .int .i64 h6, .int .i64 ((wd + 1) % 7)] 34))
  have a0 := blk_cell z1.out 0 _ rfl
  have a1 := blk_cell z1.out 1 _ rfl
  have a2 := blk_cell z1.out 2 _ rfl
  have a6 := blk_cell z1.out 6 _ rfl
  have b0 := blk_cell z2 0 _ rfl
  have b1 := blk_cell z2 1 _ rfl
  have b2 := blk_cell z2 2 _ rfl
  have b6 := blk_cell z2 6 _ rfl
  clear z1 z2 hb1
  go_wp2_with fail
  refine (DD.out _ hb2.out).mono ?_
  rintro e w3 ⟨rfl, rfl⟩
  go_wp2_with fail
  refine (num_any _ _).mono ?_
  rintro e w3 ⟨rfl, rfl⟩
  go_wp2_with fail
  refine (num_any _ _).mono ?_
  rintro e w3 ⟨rfl, rfl⟩
  go_wp2_with fail
  refine (num_any _ _).mono ?_
  rintro e w3 ⟨rfl, rfl⟩
  by_cases c : d < L
  · obtain ⟨rfl, rfl, rfl⟩ := m1.out c
    go_wp2
    go_ret
    exact ⟨rfl, hb2⟩
  · by_cases c2 : m < 12
    · obtain ⟨rfl, rfl, rfl⟩ := m2.out (by omega) c2
      go_wp2
      go_ret
      exact ⟨rfl, hb2⟩
    · obtain ⟨rfl, rfl, rfl⟩ := m3.out (by omega) (by omega)
      go_wp2
      go_ret
      exact ⟨rfl, hb2⟩
end Go.Proofs.YtgandogkjcljkaaDoor
