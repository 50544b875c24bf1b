/- What comes next is the least. -/
import Derived.Test.YtbnghhmmanleaaaDoorNSteps
import Derived.Test.YtbnghhmmanleaaaDoorNCheck
namespace Go.Proofs.YtbnghhmmanleaaaDoor
open Go.RowKit
set_option linter.unusedVariables false
set_option linter.unusedSimpArgs false

theorem comesP_in {r : Ru} {t : Int} (hc : checkP r = 0) (h0 : 0 ≤ t) (h1 : t < 32503680000) : comesP r t = (comesAt r t, 0) := by
  unfold comesP
  rw [if_neg (by simp [hc]), if_pos ⟨h0, h1⟩]
theorem ruBox_form (r : Ru) : ruBox r = .cells #[.int .u64 (r.mi : Int), .int .u64 (r.ho : Int), .int .u64 (r.da : Int), .int .u64 (r.mo : Int), .int .u64 (r.we : Int), .bool r.ad, .bool r.aw] 24 := rfl
set_option maxHeartbeats 2000000 in
set_option maxRecDepth 20000 in
theorem least_walk (r : Ru) (hr : r.ok) (t : Int) (w : World) (hp : Pg w) : Calls Tryd.prog 6 #[ruV r, .int .i64 t] w fun e w' => e = .returned (.bool true) ∧ Below w.heap.size w w' := by
  have H1 : Hid (∀ w', Below w.heap.size w w' → Calls Tryd.prog 18 #[ruV r, .int .i64 t] w' fun e w'' => NextE r t e ∧ Below w'.heap.size w' w'') := hp.next r hr t
  have H2 : Hid (∀ u w', Below w.heap.size w w' → Calls Tryd.prog 16 #[ruV r, .int .i64 u] w' fun e w'' => e = .returned (.tuple #[.bool (comesP r u).1, .int .i64 (comesP r u).2]) ∧ Below w'.heap.size w' w'') := hp.comes r hr
  have HC : Hid (∀ w', Calls Tryd.prog 14 #[ruV r] w' fun e w'' => e = .returned (.int .i64 (checkP r)) ∧ Below w'.heap.size w' w'') := fun w' => checkR_any r hr w'
  have HV := hid (alive_any w hp)
  have k0 := blk_new w (ruBox r)
  have u0 := hid (up_alloc w (ruBox r))
  rw [ruV_form] at *
  rw [ruBox_form] at k0 u0
  clear hp hr
  go_enter Tryd.func6, Tryd.ntmps6
  go_wp2_with fail
  refine (HV.out _ u0.out).mono ?_
  rintro e w1 ⟨rfl, hb1⟩
  have k1 := blk_up k0 hb1
  have u1 := hid (up_trans u0.out hb1)
  have z0 := blk_cell k1 0 _ rfl
  have z1 := blk_cell k1 1 _ rfl
  have z2 := blk_cell k1 2 _ rfl
  have z3 := blk_cell k1 3 _ rfl
  have z4 := blk_cell k1 4 _ rfl
  have z5 := blk_cell k1 5 _ rfl
  have z6 := blk_cell k1 6 _ rfl
  clear hb1 k0 u0
  go_wp2_with fail
  refine (H1.out _ u1.out).mono ?_
  rintro e w2 ⟨⟨a, is, c, rfl, hq⟩, hb2⟩
  have k2 := blk_up k1 hb2
  have u2 := hid (up_trans u1.out hb2)
  clear z0 z1 z2 z3 z4 z5 z6
  have z0 := blk_cell k2 0 _ rfl
  have z1 := blk_cell k2 1 _ rfl
  have z2 := blk_cell k2 2 _ rfl
  have z3 := blk_cell k2 3 _ rfl
  have z4 := blk_cell k2 4 _ rfl
  have z5 := blk_cell k2 5 _ rfl
  have z6 := blk_cell k2 6 _ rfl
  have K2 := hid k2
  have HQ := hid hq
  have ok := hid HQ.out.ok
  clear hb2 k1 k2 hq
  go_wp2_with fail
  refine (num_any _ _).mono ?_
  rintro e w3 ⟨rfl, rfl⟩
  by_cases e1 : c = 0
  · subst e1
    obtain ⟨cp, t0, t1, Q⟩ := ok.out.2 (by trivial)
    have CP := hid cp
    have HQ2 := hid Q
    clear ok HQ cp
    cases is
    · have LP : Hid (∀ b, t < b → 0 ≤ b → b < 32503680000 → comesP r b = (false, 0)) := by
        intro b h1 h2 h3
        rcases Q with ⟨q, -⟩ | ⟨-, -, hn⟩
        · cases q
        · rw [comesP_in CP.out h2 h3, hn b h1 h3]
      clear Q HQ2 z0 z1 z2 z3 z4 z5 z6
      go_wp2_with fail
      go_loopw [11] (fun q wr => ∃ k : Nat, k ≤ 2880 ∧ q = .int .i64 (k : Int) ∧ Hid (wr.heap[w.heap.size]? = some (.cells #[.int .u64 (r.mi : Int), .int .u64 (r.ho : Int), .int .u64 (r.da : Int), .int .u64 (r.mo : Int), .int .u64 (r.we : Int), .bool r.ad, .bool r.aw] 24) ∧ Below w.heap.size w wr)) (fun q _ => (2880 - intOf q).toNat)
      case atStart => exact ⟨0, by omega, rfl, ⟨K2.out, u2.out⟩⟩
      case round =>
        obtain ⟨k, hk, rfl, HW⟩ := hrel
        by_cases c : (k : Int) < 2880
        · by_cases c1 : 32503680000 ≤ (t + 60) / 60 * 60 + 60 * (k : Int)
          · go_wp2_with fail
            go_ret
            exact ⟨by first | rfl | simp, HW.out.2⟩
          · have CM := hid (H2.out ((t + 60) / 60 * 60 + 60 * (k : Int)))
            rw [LP.out ((t + 60) / 60 * 60 + 60 * (k : Int)) (by omega) (by omega) (by omega)] at CM
            have x := HW.out.1
            have z0 := blk_cell x 0 _ rfl
            have z1 := blk_cell x 1 _ rfl
            have z2 := blk_cell x 2 _ rfl
            have z3 := blk_cell x 3 _ rfl
            have z4 := blk_cell x 4 _ rfl
            have z5 := blk_cell x 5 _ rfl
            have z6 := blk_cell x 6 _ rfl
            clear x
            go_wp2_with fail
            refine (CM.out _ HW.out.2).mono ?_
            rintro e w5 ⟨rfl, hb5⟩
            have X5 := hid (blk_up HW.out.1 hb5)
            have u5 := hid (up_trans HW.out.2 hb5)
            clear z0 z1 z2 z3 z4 z5 z6 hb5 CM
            go_wp2_with fail
            refine (num_any _ _).mono ?_
            rintro e w6 ⟨rfl, rfl⟩
            go_wp2_with fail
            exact ⟨⟨k + 1, by omega, by go_num, ⟨X5.out, u5.out⟩⟩, by simp [intOf]; omega⟩
        · go_wp2_with fail
          go_ret
          exact ⟨by first | rfl | simp, HW.out.2⟩
    · have QA : Hid (t < a ∧ 0 ≤ a ∧ a < 32503680000 ∧ comesP r a = (true, 0)) := by
        rcases Q with ⟨-, h1, h2, h3, h4, h5⟩ | ⟨q, -⟩
        · exact ⟨h1, h2, h3, by rw [comesP_in CP.out h2 h3, h4]⟩
        · cases q
      have LP : Hid (∀ b, t < b → 0 ≤ b → b < a → comesP r b = (false, 0)) := by
        intro b h1 h2 h3
        rcases Q with ⟨-, h1', h2', h3', h4, h5⟩ | ⟨q, -⟩
        · rw [comesP_in CP.out h2 (by omega), h5 b h1 h3]
        · cases q
      have a60 : a % 60 = 0 := by
        rcases Q with ⟨-, h1', h2', h3', h4, h5⟩ | ⟨q, -⟩
        · by_cases c : secT a = 0
          · unfold secT at c; omega
          · rw [comes_sec c] at h4; cases h4
        · cases q
      clear Q HQ2
      obtain ⟨qa, qb, qd, -⟩ := QA.out
      have HA := hid (H2.out a)
      rw [QA.out.2.2.2] at HA
      have ta : ¬ a ≤ t := by omega
      go_wp2_with fail
      refine (HA.out _ u2.out).mono ?_
      rintro e w3 ⟨rfl, hb3⟩
      have K3 := hid (blk_up K2.out hb3)
      have u3 := hid (up_trans u2.out hb3)
      clear z0 z1 z2 z3 z4 z5 z6 K2 u2 hb3
      go_wp2_with fail
      refine (num_any _ _).mono ?_
      rintro e w4 ⟨rfl, rfl⟩
      go_wp2_with fail
      go_loopw [11] (fun q wr => ∃ k : Nat, k ≤ 2880 ∧ q = .int .i64 (k : Int) ∧ Hid (wr.heap[w.heap.size]? = some (.cells #[.int .u64 (r.mi : Int), .int .u64 (r.ho : Int), .int .u64 (r.da : Int), .int .u64 (r.mo : Int), .int .u64 (r.we : Int), .bool r.ad, .bool r.aw] 24) ∧ Below w.heap.size w wr)) (fun q _ => (2880 - intOf q).toNat)
      case atStart => exact ⟨0, by omega, rfl, ⟨K3.out, u3.out⟩⟩
      case round =>
        obtain ⟨k, hk, rfl, HW⟩ := hrel
        by_cases c : (k : Int) < 2880
        · by_cases c1 : a ≤ (t + 60) / 60 * 60 + 60 * (k : Int)
          · go_wp2_with fail
            go_ret
            exact ⟨by first | rfl | simp, HW.out.2⟩
          · have c3 : ¬ 32503680000 ≤ (t + 60) / 60 * 60 + 60 * (k : Int) := by omega
            have CM := hid (H2.out ((t + 60) / 60 * 60 + 60 * (k : Int)))
            rw [LP.out ((t + 60) / 60 * 60 + 60 * (k : Int)) (by omega) (by omega) (by omega)] at CM
            have x := HW.out.1
            have z0 := blk_cell x 0 _ rfl
            have z1 := blk_cell x 1 _ rfl
            have z2 := blk_cell x 2 _ rfl
            have z3 := blk_cell x 3 _ rfl
            have z4 := blk_cell x 4 _ rfl
            have z5 := blk_cell x 5 _ rfl
            have z6 := blk_cell x 6 _ rfl
            clear x
            go_wp2_with fail
            refine (CM.out _ HW.out.2).mono ?_
            rintro e w5 ⟨rfl, hb5⟩
            have X5 := hid (blk_up HW.out.1 hb5)
            have u5 := hid (up_trans HW.out.2 hb5)
            clear z0 z1 z2 z3 z4 z5 z6 hb5 CM
            go_wp2_with fail
            refine (num_any _ _).mono ?_
            rintro e w6 ⟨rfl, rfl⟩
            go_wp2_with fail
            exact ⟨⟨k + 1, by omega, by go_num, ⟨X5.out, u5.out⟩⟩, by simp [intOf]; omega⟩
        · go_wp2_with fail
          go_ret
          exact ⟨by first | rfl | simp, HW.out.2⟩
  · have n1 : (c != 0) = true := by simpa using e1
    obtain ⟨rfl, rfl, ht⟩ := ok.out.1 e1
    have HT := hid ht
    clear ok HQ e1 ht
    go_wp2_with fail
    refine (HC.out _).mono ?_
    rintro e w4 ⟨rfl, hb4⟩
    have u4 := hid (up_trans u2.out hb4)
    by_cases h : checkP r = 0
    · rcases HT.out with h3 | h3 | h3
      · exact absurd h h3
      · rw [h] at *
        have h4 : (decide (t < -1)) = true := by simpa using h3
        go_wp2_with fail
        go_ret
        exact ⟨by first | rfl | (simp; omega), u4.out⟩
      · rw [h] at *
        have h4 : ¬ t < -1 := by omega
        go_wp2_with fail
        go_ret
        exact ⟨by first | rfl | (simp; omega), u4.out⟩
    · have h2 : (checkP r != 0) = true := by simpa using h
      go_wp2_with fail
      go_ret
      exact ⟨by first | rfl | simp, u4.out⟩
end Go.Proofs.YtbnghhmmanleaaaDoor
