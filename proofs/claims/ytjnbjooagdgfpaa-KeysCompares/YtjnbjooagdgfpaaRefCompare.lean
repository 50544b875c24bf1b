/- The document's Compare: for any two slices of parts it returns what the plain function 'compareOf' says. -/
import Derived.Test.YtjnbjooagdgfpaaRefOne
namespace Go.Proofs.Ytjnbjooagdgfpaa
open Go.RowKit
set_option linter.unusedVariables false

set_option maxHeartbeats 2000000 in
theorem refCompare_any (a b : List (Bool × Int × List Int)) (va vb : Value) (w : World) (ha : Parts w va a) (hb : Parts w vb b) :
    Calls Try.prog 22 #[va, vb] w fun e w' => e = .returned (.tuple #[.int .i64 (compareOf a b).1, .int .i64 (compareOf a b).2]) ∧ Below w.heap.size w w' := by
  have HA : Hid (Parts w va a) := ha
  have HB : Hid (Parts w vb b) := hb
  obtain ⟨_, aa, ca, rfl, hca, hma, h3⟩ := ha
  obtain ⟨_, ab, cb, rfl, hcb, hmb, h4⟩ := hb
  clear h3 h4
  unfold maxLen at hma hmb
  by_cases c1 : checkOf a = 0
  · by_cases c2 : checkOf b = 0
    · have HR : Hid (compareOf a b = (cmpLs a b, 0)) := by unfold Hid compareOf; rw [if_pos c1, if_pos c2]
      have KA : Hid (∀ p ∈ a, okP p = true) := fun p hp => List.all_eq_true.1 (check_eight c1).2 p hp
      have KB : Hid (∀ p ∈ b, okP p = true) := fun p hp => List.all_eq_true.1 (check_eight c2).2 p hp
      go_enter Try.func22, Try.ntmps22
      go_wp2_with fail
      refine (refCheck_any a _ _ HA.out).mono ?_
      rintro e w1 ⟨rfl, rfl⟩
      rw [c1]
      go_wp2_with fail
      refine (refCheck_any b _ _ HB.out).mono ?_
      rintro e w2 ⟨rfl, rfl⟩
      rw [c2]
      clear c1 c2
      go_wp2
      go_loopw [8] (fun i wr => ∃ k : Nat, k ≤ a.length ∧ k ≤ b.length ∧ i = .int .i64 k ∧ Hid (cmpLs (a.drop k) (b.drop k) = cmpLs a b) ∧ Hid (Below w2.heap.size w2 wr)) (fun i _ => a.length - (intOf i).toNat)
      case atStart => exact ⟨0, Nat.zero_le _, Nat.zero_le _, rfl, rfl, Below.refl _ _⟩
      case round =>
        obtain ⟨k, hka, hkb, rfl, HC, HW⟩ := hrel
        by_cases hlt : k < a.length
        · obtain ⟨b1, o1, ca', e, _, _, c0, c1, c2⟩ := (HA.out.up HW.out).at k hlt
          simp at e
          obtain ⟨rfl, rfl⟩ := e
          have hlt' : (k : Int) < (a.length : Int) := by omega
          by_cases hlb : k < b.length
          · have hm1 : a.getD k (false, 0, []) ∈ a := by simp [List.getD, hlt]
            have hm2 : b.getD k (false, 0, []) ∈ b := by simp [List.getD, hlb]
            have HP : Hid (Pwf (a.getD k (false, 0, [])) ∧ okP (a.getD k (false, 0, [])) = true) := ⟨HA.out.1 _ hm1, KA.out _ hm1⟩
            have HQ : Hid (Pwf (b.getD k (false, 0, [])) ∧ okP (b.getD k (false, 0, [])) = true) := ⟨HB.out.1 _ hm2, KB.out _ hm2⟩
            have HS := cmpLs_step a b k hlt hlb
            have HS2 : Hid _ := HS
            clear HS hm1 hm2
            obtain ⟨b2, o2, cb', e, _, _, d0, d1, d2⟩ := (HB.out.up HW.out).at k hlb
            simp at e
            obtain ⟨rfl, rfl⟩ := e
            have hlb' : (k : Int) < (b.length : Int) := by omega
            generalize a.getD k (false, 0, []) = p at *
            generalize b.getD k (false, 0, []) = q at *
            have hbd := cmpP_bd p q
            have HW2 : Hid (Below w2.heap.size w2 ((wr.alloc (.cells (pcells p).toArray 51)).alloc (.cells (pcells q).toArray 51)).drew) := up_dr (up_al (up_al HW.out _) _)
            by_cases c : cmpP p q = 0
            · have HC2 : Hid (cmpLs (a.drop (k + 1)) (b.drop (k + 1)) = cmpLs a b) := by
                unfold Hid
                have := HS2.out
                rw [if_pos c] at this
                rw [← this]
                exact HC.out
              clear HS2 HC
              go_wp2_with fail
              go_region_with (first | (go_at_call 30; refine (one_any p q HP.out.1 HQ.out.1 HP.out.2 HQ.out.2 _).mono ?_; rintro e w3 ⟨rfl, rfl⟩; rw [c]))
              all_goals
                go_wp2
                exact ⟨⟨k + 1, by omega, by omega, by go_num, HC2, HW2⟩, by simp [intOf]; omega⟩
            · have cb : (cmpP p q == 0) = false := by simp [c]
              have HC2 : Hid (cmpLs a b = cmpP p q) := by
                unfold Hid
                have := HS2.out
                rw [if_neg c] at this
                rw [← this]
                exact HC.out.symm
              clear HS2 HC
              go_wp2_with fail
              go_region_with (first | (go_at_call 30; refine (one_any p q HP.out.1 HQ.out.1 HP.out.2 HQ.out.2 _).mono ?_; rintro e w3 ⟨rfl, rfl⟩))
              all_goals
                go_wp2
                go_ret2
                rw [HR.out, HC2.out]
                exact ⟨rfl, HW2.out⟩
          · have HC2 : Hid (cmpLs a b = 1) := HC.out.symm.trans (cmpLs_over a b k hlt hlb)
            have hlb' : ¬ (k : Int) < (b.length : Int) := by omega
            have hl1 : ¬ (a.length : Int) < (b.length : Int) := by omega
            have hl2 : (b.length : Int) < (a.length : Int) := by omega
            go_wp2
            go_ret2
            rw [HR.out, HC2.out]
            exact ⟨rfl, HW.out⟩
        · have HC2 : Hid (cmpLs a b = if a.length < b.length then -1 else 0) := HC.out.symm.trans (cmpLs_end a b k hlt hka hkb)
          have hlt' : ¬ (k : Int) < (a.length : Int) := by omega
          by_cases c : (a.length : Int) < (b.length : Int)
          · have HC3 : Hid (cmpLs a b = -1) := by unfold Hid; rw [HC2.out, if_pos (by omega)]
            go_wp2
            go_ret2
            rw [HR.out, HC3.out]
            exact ⟨rfl, HW.out⟩
          · have HC3 : Hid (cmpLs a b = 0) := by unfold Hid; rw [HC2.out, if_neg (by omega)]
            have hl2 : ¬ (b.length : Int) < (a.length : Int) := by omega
            go_wp2
            go_ret2
            rw [HR.out, HC3.out]
            exact ⟨rfl, HW.out⟩
    · have HR : Hid (compareOf a b = (0, checkOf b)) := by unfold Hid compareOf; rw [if_pos c1, if_neg c2]
      have cb : (checkOf b == 0) = false := by simp [c2]
      go_enter Try.func22, Try.ntmps22
      go_wp2_with fail
      refine (refCheck_any a _ _ HA.out).mono ?_
      rintro e w1 ⟨rfl, rfl⟩
      rw [c1]
      go_wp2_with fail
      refine (refCheck_any b _ _ HB.out).mono ?_
      rintro e w2 ⟨rfl, rfl⟩
      go_wp2
      go_ret2
      rw [HR.out]
      exact ⟨rfl, Below.refl _ _⟩
  · have HR : Hid (compareOf a b = (0, checkOf a)) := by unfold Hid compareOf; rw [if_neg c1]
    have cb : (checkOf a == 0) = false := by simp [c1]
    go_enter Try.func22, Try.ntmps22
    go_wp2_with fail
    refine (refCheck_any a _ _ HA.out).mono ?_
    rintro e w1 ⟨rfl, rfl⟩
    go_wp2
    go_ret2
    rw [HR.out]
    exact ⟨rfl, Below.refl _ _⟩
end Go.Proofs.Ytjnbjooagdgfpaa
