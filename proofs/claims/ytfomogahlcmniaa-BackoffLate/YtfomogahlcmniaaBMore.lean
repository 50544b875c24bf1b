/- The statements on late jobs, on sums, on growth. -/
import Derived.Test.YtfomogahlcmniaaBPb
namespace Go.Proofs.Ytfomogahlcmniaa
open Go.RowKit
set_option linter.unusedVariables false
set_option linter.unusedSimpArgs false

theorem late_facts (b c n now k : Int) : ((delayP b c n k).2 ≠ 0 → dueP b c n now k = (0, 4)) ∧ ((delayP b c n k).2 = 0 → 1 ≤ (delayP b c n k).1 ∧ (delayP b c n k).1 ≤ 1073741824 ∧ (0 ≤ now ∧ now + (delayP b c n k).1 < 32503680000 → dueP b c n now k = (now + (delayP b c n k).1, 0)) ∧ (¬ (0 ≤ now ∧ now + (delayP b c n k).1 < 32503680000) → dueP b c n now k = (0, 4))) := by
  by_cases h : LimOk b c n ∧ 0 ≤ k
  · have E : delayP b c n k = (delN b c k.toNat, 0) := if_pos h
    have L := delN_le h.1 k.toNat
    have h1 := h.1.1
    have h4 := h.1.2.2.2.1
    rw [E]
    refine ⟨fun q => absurd rfl q, fun _ => ⟨by simp only; omega, by simp only; omega, fun q => ?_, fun q => ?_⟩⟩
    · exact if_pos ⟨h, q⟩
    · exact if_neg fun x => q x.2
  · have E : delayP b c n k = (0, 4) := if_neg h
    rw [E]
    exact ⟨fun _ => if_neg fun x => h x.1, fun q => absurd q (by decide)⟩
set_option maxHeartbeats 1000000 in
theorem late_walk (b c n now k : Int) (hk : k ≤ 9223372036854775807) (w : World) (hp : Pb w) : Calls Try.prog 5 #[limV b c n, .int .i64 now, .int .i64 k] w fun e w' => e = .returned (.bool true) ∧ Below w.heap.size w w' := by
  have H1 := hid (fun w' => hp.delay b c n k w' hk)
  have H2 := hid (fun w' => hp.due b c n now k w' hk)
  obtain ⟨f1, f2⟩ := late_facts b c n now k
  have HV := hid (alive_any w hp)
  have k0 := hid (blk_new w (.cells #[.int .i64 b, .int .i64 c, .int .i64 n] 23))
  have u0 := hid (up_alloc w (.cells #[.int .i64 b, .int .i64 c, .int .i64 n] 23))
  clear hp
  unfold limV at *
  generalize (delayP b c n k).1 = a1 at *
  generalize (delayP b c n k).2 = a2 at *
  generalize dueP b c n now k = dp at *
  obtain ⟨d1, d2⟩ := dp
  have F1 := hid f1
  have F2 := hid f2
  clear f1 f2 hk
  go_enter Try.func5, Try.ntmps5
  go_wp2_with fail
  refine (HV.out _ u0.out).mono ?_
  rintro e w1 ⟨rfl, hb⟩
  have k1 := hid (blk_up k0.out hb)
  have u1 := hid (up_trans u0.out hb)
  clear hb k0 u0 HV
  have kk := k1.out
  have z0 := blk_cell kk 0 _ rfl
  have z1 := blk_cell kk 1 _ rfl
  have z2 := blk_cell kk 2 _ rfl
  clear kk
  go_wp2_with fail
  refine (H1.out _ u1.out).mono ?_
  rintro e w2 ⟨rfl, hb⟩
  have k2 := hid (blk_up k1.out hb)
  have u2 := hid (up_trans u1.out hb)
  clear hb k1 u1 z0 z1 z2 H1
  have kk := k2.out
  have z0 := blk_cell kk 0 _ rfl
  have z1 := blk_cell kk 1 _ rfl
  have z2 := blk_cell kk 2 _ rfl
  clear kk
  go_wp2_with fail
  refine (H2.out _ u2.out).mono ?_
  rintro e w3 ⟨rfl, hb⟩
  have u3 := hid (up_trans u2.out hb)
  clear hb k2 u2 z0 z1 z2 H2
  go_wp2_with fail
  refine (num_any _ _).mono ?_
  rintro e w9 ⟨rfl, rfl⟩
  by_cases e1 : a2 = 0
  · subst e1
    obtain ⟨g1, g2, g3, g4⟩ := F2.out rfl
    clear F1 F2
    by_cases n1 : 0 ≤ now ∧ now + a1 < 32503680000
    · have g5 := g3 n1
      simp only [Prod.mk.injEq] at g5
      obtain ⟨rfl, rfl⟩ := g5
      obtain ⟨n2, n3⟩ := n1
      have n4 : ¬ now < 0 := by omega
      have n5 : ¬ 32503680000 ≤ now := by omega
      have n6 : ¬ 32503680000 - now ≤ a1 := by omega
      clear g3 g4
      go_wp2_with fail
      refine (num_any _ _).mono ?_
      rintro e w9 ⟨rfl, rfl⟩
      go_wp2_with fail
      go_ret
      exact ⟨by first | rfl | (simp; done) | (simp; omega), u3.out⟩
    · have g5 := g4 n1
      simp only [Prod.mk.injEq] at g5
      obtain ⟨rfl, rfl⟩ := g5
      clear g3 g4
      by_cases n2 : now < 0
      · go_wp2_with fail
        refine (num_any _ _).mono ?_
        rintro e w9 ⟨rfl, rfl⟩
        go_wp2_with fail
        go_ret
        exact ⟨by first | rfl | (simp; done) | (simp; omega), u3.out⟩
      · by_cases n3 : 32503680000 ≤ now
        · go_wp2_with fail
          refine (num_any _ _).mono ?_
          rintro e w9 ⟨rfl, rfl⟩
          go_wp2_with fail
          go_ret
          exact ⟨by first | rfl | (simp; done) | (simp; omega), u3.out⟩
        · have n6 : 32503680000 - now ≤ a1 := by omega
          go_wp2_with fail
          refine (num_any _ _).mono ?_
          rintro e w9 ⟨rfl, rfl⟩
          go_wp2_with fail
          go_ret
          exact ⟨by first | rfl | (simp; done) | (simp; omega), u3.out⟩
  · have n1 : (a2 != 0) = true := by simpa using e1
    have g5 := F1.out e1
    simp only [Prod.mk.injEq] at g5
    obtain ⟨rfl, rfl⟩ := g5
    clear F1 F2
    go_wp2_with fail
    refine (num_any _ _).mono ?_
    rintro e w9 ⟨rfl, rfl⟩
    go_wp2_with fail
    go_ret
    exact ⟨by first | rfl | (simp; done) | (simp; omega), u3.out⟩

set_option maxHeartbeats 1000000 in
theorem grows_walk (b c n k : Int) (hk : k ≤ 9223372036854775807) (w : World) (hp : Pb w) : Calls Try.prog 4 #[limV b c n, .int .i64 k] w fun e w' => e = .returned (.bool true) ∧ Below w.heap.size w w' := by
  have H1 := hid (fun w' => hp.delay b c n k w' hk)
  have H2 : Hid (k < 9223372036854775807 → ∀ w', Below w.heap.size w w' → Calls Try.prog 8 #[limV b c n, .int .i64 (k + 1)] w' fun e w'' => e = .returned (.tuple #[.int .i64 (delayP b c n (k + 1)).1, .int .i64 (delayP b c n (k + 1)).2]) ∧ Below w'.heap.size w' w'') := fun h w' => hp.delay b c n (k + 1) w' (by omega)
  have HV := hid (alive_any w hp)
  have k0 := hid (blk_new w (.cells #[.int .i64 b, .int .i64 c, .int .i64 n] 23))
  have u0 := hid (up_alloc w (.cells #[.int .i64 b, .int .i64 c, .int .i64 n] 23))
  clear hp
  by_cases h : LimOk b c n ∧ 0 ≤ k
  · have E1 : delayP b c n k = (delN b c k.toNat, 0) := if_pos h
    have E2 : delayP b c n (k + 1) = (delN b c (k.toNat + 1), 0) := by
      unfold delayP
      rw [if_pos ⟨h.1, by omega⟩, show (k + 1).toNat = k.toNat + 1 by omega]
    rw [E1] at H1
    rw [E2] at H2
    obtain ⟨h, hk0⟩ := h
    have L := delN_le h k.toNat
    obtain ⟨S1, S2⟩ := delN_step h k.toNat
    have h1 := h.1
    have h4 := h.2.2.2.1
    have Z : k = 0 → delN b c k.toNat = b := fun q => by rw [q]; exact delN_zero h
    have FA : k = 9223372036854775807 → delN b c k.toNat = c := fun q => delN_far h _ (by omega)
    generalize delN b c (k.toNat + 1) = a2 at *
    generalize delN b c k.toNat = a1 at *
    clear h E1 E2
    have n1 : ¬ a1 < b := by omega
    have n2 : ¬ c < a1 := by omega
    obtain ⟨S3, S4⟩ := L
    have HS2 := hid S2
    have HZ := hid Z
    have HFA := hid FA
    clear S2 Z FA
    unfold limV at *
    go_enter Try.func4, Try.ntmps4
    go_wp2_with fail
    refine (HV.out _ u0.out).mono ?_
    rintro e w1 ⟨rfl, hb⟩
    have k1 := hid (blk_up k0.out hb)
    have u1 := hid (up_trans u0.out hb)
    clear hb k0 u0 HV
    have kk := k1.out
    have z0 := blk_cell kk 0 _ rfl
    have z1 := blk_cell kk 1 _ rfl
    have z2 := blk_cell kk 2 _ rfl
    clear kk
    go_wp2_with fail
    refine (H1.out _ u1.out).mono ?_
    rintro e w2 ⟨rfl, hb⟩
    have k2 := hid (blk_up k1.out hb)
    have u2 := hid (up_trans u1.out hb)
    clear hb k1 u1 z0 z1 z2 H1
    have kk := k2.out
    have z0 := blk_cell kk 0 _ rfl
    have z1 := blk_cell kk 1 _ rfl
    have z2 := blk_cell kk 2 _ rfl
    clear kk
    go_wp2_with fail
    refine (num_any _ _).mono ?_
    rintro e w9 ⟨rfl, rfl⟩
    by_cases c1 : k = 9223372036854775807
    · have e1 := HFA.out c1
      have c2 : ¬ k = 0 := by omega
      subst e1
      clear HS2 HZ HFA H2
      subst c1
      go_wp2_with fail
      go_ret
      exact ⟨by first | rfl | (simp; done) | (simp; omega), u2.out⟩
    · have c2 : k < 9223372036854775807 := by omega
      have HB := hid (H2.out c2)
      clear H2 HFA
      by_cases c3 : k = 0
      · have e1 := HZ.out c3
        have e2 : ¬ (a1 != b) = true := by simp [e1]
        clear HZ
        subst e1
        subst c3
        go_wp2_with fail
        refine (HB.out _ u2.out).mono ?_
        rintro e w3 ⟨rfl, hb⟩
        have k3 := hid (blk_up k2.out hb)
        have u3 := hid (up_trans u2.out hb)
        clear z0 z1 z2
        have kk := k3.out
        have z0 := blk_cell kk 0 _ rfl
        have z1 := blk_cell kk 1 _ rfl
        have z2 := blk_cell kk 2 _ rfl
        clear kk
        clear hb
        go_wp2_with fail
        refine (num_any _ _).mono ?_
        rintro e w9 ⟨rfl, rfl⟩
        by_cases q2 : a2 = 2 * a1
        · subst q2
          go_wp2_with fail
          go_ret
          exact ⟨by first | rfl | (simp; done) | (simp; omega), u3.out⟩
        · have q := HS2.out.resolve_left q2
          subst q
          go_wp2_with fail
          go_ret
          exact ⟨by first | rfl | (simp; done) | (simp; omega), u3.out⟩
      · clear HZ
        go_wp2_with fail
        refine (HB.out _ u2.out).mono ?_
        rintro e w3 ⟨rfl, hb⟩
        have k3 := hid (blk_up k2.out hb)
        have u3 := hid (up_trans u2.out hb)
        clear z0 z1 z2
        have kk := k3.out
        have z0 := blk_cell kk 0 _ rfl
        have z1 := blk_cell kk 1 _ rfl
        have z2 := blk_cell kk 2 _ rfl
        clear kk
        clear hb
        go_wp2_with fail
        refine (num_any _ _).mono ?_
        rintro e w9 ⟨rfl, rfl⟩
        by_cases q2 : a2 = 2 * a1
        · subst q2
          go_wp2_with fail
          go_ret
          exact ⟨by first | rfl | (simp; done) | (simp; omega), u3.out⟩
        · have q := HS2.out.resolve_left q2
          subst q
          go_wp2_with fail
          go_ret
          exact ⟨by first | rfl | (simp; done) | (simp; omega), u3.out⟩
  · have E1 : delayP b c n k = (0, 4) := if_neg h
    rw [E1] at H1
    clear h E1 H2
    unfold limV at *
    go_enter Try.func4, Try.ntmps4
    go_wp2_with fail
    refine (HV.out _ u0.out).mono ?_
    rintro e w1 ⟨rfl, hb⟩
    have k1 := hid (blk_up k0.out hb)
    have u1 := hid (up_trans u0.out hb)
    clear hb k0 u0 HV
    have kk := k1.out
    have z0 := blk_cell kk 0 _ rfl
    have z1 := blk_cell kk 1 _ rfl
    have z2 := blk_cell kk 2 _ rfl
    clear kk
    go_wp2_with fail
    refine (H1.out _ u1.out).mono ?_
    rintro e w2 ⟨rfl, hb⟩
    have u2 := hid (up_trans u1.out hb)
    clear hb k1 u1 z0 z1 z2 H1
    go_wp2_with fail
    refine (num_any _ _).mono ?_
    rintro e w9 ⟨rfl, rfl⟩
    go_wp2_with fail
    go_ret
    exact ⟨by first | rfl | (simp; done) | (simp; omega), u2.out⟩
end Go.Proofs.Ytfomogahlcmniaa
