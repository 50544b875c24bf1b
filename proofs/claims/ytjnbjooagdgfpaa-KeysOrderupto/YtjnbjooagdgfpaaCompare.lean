/- slices.CompareFunc over parts and keys.Compare return, for any two slices of parts, what the plain function 'compareOf' says. -/
import Derived.Test.YtjnbjooagdgfpaaCmp
namespace Go.Proofs.Ytjnbjooagdgfpaa
open Go.RowKit
set_option linter.unusedVariables false

theorem cmpLs_step (a b : List (Bool × Int × List Int)) (k : Nat) (ha : k < a.length) (hb : k < b.length) :
    cmpLs (a.drop k) (b.drop k) = if cmpP (a.getD k (false, 0, [])) (b.getD k (false, 0, [])) = 0 then cmpLs (a.drop (k + 1)) (b.drop (k + 1)) else cmpP (a.getD k (false, 0, [])) (b.getD k (false, 0, [])) := by
  have e1 : a.getD k (false, 0, []) = a[k] := by simp [List.getD, ha]
  have e2 : b.getD k (false, 0, []) = b[k] := by simp [List.getD, hb]
  rw [List.drop_eq_getElem_cons ha, List.drop_eq_getElem_cons hb, e1, e2]
  rfl

theorem cmpLs_end (a b : List (Bool × Int × List Int)) (k : Nat) (ha : ¬ k < a.length) (hka : k ≤ a.length) (hkb : k ≤ b.length) : cmpLs (a.drop k) (b.drop k) = if a.length < b.length then -1 else 0 := by
  have e1 : a.drop k = [] := List.drop_eq_nil_iff.2 (by omega)
  rw [e1]
  by_cases c : a.length < b.length
  · rw [if_pos c, List.drop_eq_getElem_cons (by omega)]
    rfl
  · have e2 : b.drop k = [] := List.drop_eq_nil_iff.2 (by omega)
    rw [if_neg c, e2]
    rfl

theorem cmpLs_over (a b : List (Bool × Int × List Int)) (k : Nat) (ha : k < a.length) (hb : ¬ k < b.length) : cmpLs (a.drop k) (b.drop k) = 1 := by
  have e2 : b.drop k = [] := List.drop_eq_nil_iff.2 (by omega)
  rw [List.drop_eq_getElem_cons ha, e2]
  rfl

theorem cmpP_bd (p q : Bool × Int × List Int) : -1 ≤ cmpP p q ∧ cmpP p q ≤ 1 := by
  unfold cmpP cmpI cmpT
  repeat' split
  all_goals omega

set_option maxHeartbeats 1000000 in
theorem compareFunc_any (a b : List (Bool × Int × List Int)) (va vb : Value) (w : World) (ha : Parts w va a) (hb : Parts w vb b) :
    Calls Try.prog 28 #[va, vb, .func (.func 29) #[] #[]] w fun e w' => e = .returned (.int .i64 (cmpLs a b)) ∧ Below w.heap.size w w' := by
  have HA : Hid (Parts w va a) := ha
  have HB : Hid (Parts w vb b) := hb
  obtain ⟨_, aa, ca, rfl, hca, hma, h3⟩ := ha
  obtain ⟨_, ab, cb, rfl, hcb, hmb, h4⟩ := hb
  clear h3 h4
  unfold maxLen at hma hmb
  go_enter Try.func28, Try.ntmps28
  go_wp2
  go_loopw [13] (fun i wr => ∃ k : Nat, k ≤ a.length ∧ k ≤ b.length ∧ i = .int .i64 k ∧ Hid (cmpLs (a.drop k) (b.drop k) = cmpLs a b) ∧ Hid (Below w.heap.size w wr)) (fun i _ => a.length - (intOf i).toNat)
  case atStart => exact ⟨0, Nat.zero_le _, Nat.zero_le _, rfl, rfl, Below.refl _ _⟩
  case round =>
    obtain ⟨k, hka, hkb, rfl, HC, HW⟩ := hrel
    by_cases hlt : k < a.length
    · obtain ⟨b1, o1, ca', e, _, _, c0, c1, c2⟩ := (HA.out.up HW.out).at k hlt
      simp at e
      obtain ⟨rfl, rfl⟩ := e
      have hlt' : (k : Int) < (a.length : Int) := by omega
      have hP := HA.out.1 (a.getD k (false, 0, [])) (by simp [List.getD, hlt])
      by_cases hlb : k < b.length
      · have hQ := HB.out.1 (b.getD k (false, 0, [])) (by simp [List.getD, hlb])
        have HP : Hid (Pwf (a.getD k (false, 0, []))) := hP
        have HQ : Hid (Pwf (b.getD k (false, 0, []))) := hQ
        have HS := cmpLs_step a b k hlt hlb
        have HS2 : Hid _ := HS
        clear hP hQ HS
        obtain ⟨b2, o2, cb', e, _, _, d0, d1, d2⟩ := (HB.out.up HW.out).at k hlb
        simp at e
        obtain ⟨rfl, rfl⟩ := e
        have hlb' : (k : Int) < (b.length : Int) := by omega
        have k1 : b1 < wr.heap.size := World.block_lt_of_cell? wr _ c0
        have k2 : b2 < wr.heap.size := World.block_lt_of_cell? wr _ d0
        generalize a.getD k (false, 0, []) = p at *
        generalize b.getD k (false, 0, []) = q at *
        go_wp2_with fail
        refine (cmpP_any p q HP.out HQ.out _).mono ?_
        rintro e w2 ⟨rfl, hb2⟩
        have HW2 : Hid (Below w.heap.size w w2) := up_trans (up_al (up_al HW.out _) _) hb2
        clear hb2
        have hbd := cmpP_bd p q
        by_cases c : cmpP p q = 0
        · have HC2 : Hid (cmpLs (a.drop (k + 1)) (b.drop (k + 1)) = cmpLs a b) := by
            unfold Hid
            have := HS2.out
            rw [if_pos c] at this
            rw [← this]
            exact HC.out
          clear HS2 HC
          rw [c]
          go_wp2
          exact ⟨⟨k + 1, by omega, by omega, by go_num, HC2, HW2⟩, by simp [intOf]; omega⟩
        · have cb : (cmpP p q == 0) = false := by simp [c]
          have HC2 : Hid (cmpLs a b = cmpP p q) := by
            unfold Hid
            have := HS2.out
            rw [if_neg c] at this
            rw [← this]
            exact HC.out.symm
          clear HS2 HC
          go_wp2
          go_ret
          exact ⟨by rw [HC2.out]; rfl, HW2.out⟩
      · have HC2 : Hid (cmpLs a b = 1) := HC.out.symm.trans (cmpLs_over a b k hlt hlb)
        have hlb' : ¬ (k : Int) < (b.length : Int) := by omega
        go_wp2
        go_ret
        exact ⟨by rw [HC2.out]; rfl, up_al HW.out _⟩
    · have HC2 : Hid (cmpLs a b = if a.length < b.length then -1 else 0) := HC.out.symm.trans (cmpLs_end a b k hlt hka hkb)
      have hlt' : ¬ (k : Int) < (a.length : Int) := by omega
      by_cases c : (a.length : Int) < (b.length : Int)
      · have HC3 : Hid (cmpLs a b = -1) := by unfold Hid; rw [HC2.out, if_pos (by omega)]
        go_wp2
        go_ret
        exact ⟨by rw [HC3.out]; rfl, HW.out⟩
      · have HC3 : Hid (cmpLs a b = 0) := by unfold Hid; rw [HC2.out, if_neg (by omega)]
        go_wp2
        go_ret
        exact ⟨by rw [HC3.out]; rfl, HW.out⟩

set_option maxHeartbeats 400000 in
theorem compare_any (a b : List (Bool × Int × List Int)) (va vb : Value) (w : World) (ha : Parts w va a) (hb : Parts w vb b) :
    Calls Try.prog 21 #[va, vb] w fun e w' => e = .returned (.tuple #[.int .i64 (compareOf a b).1, .int .i64 (compareOf a b).2]) ∧ Below w.heap.size w w' := by
  have HA : Hid (Parts w va a) := ha
  have HB : Hid (Parts w vb b) := hb
  clear ha hb
  by_cases c1 : checkOf a = 0
  · by_cases c2 : checkOf b = 0
    · have HR : Hid (compareOf a b = (cmpLs a b, 0)) := by unfold Hid compareOf; rw [if_pos c1, if_pos c2]
      go_enter Try.func21, Try.ntmps21
      go_wp2_with fail
      refine (check_any a _ _ HA.out).mono ?_
      rintro e w1 ⟨rfl, hb1⟩
      rw [c1]
      go_wp2_with fail
      refine (check_any b _ _ (HB.out.up hb1)).mono ?_
      rintro e w2 ⟨rfl, hb2⟩
      rw [c2]
      have h2 : Hid (Below w.heap.size w w2) := up_trans hb1 hb2
      clear hb1 hb2
      go_wp2_with fail
      refine (compareFunc_any a b _ _ _ (HA.out.up h2.out) (HB.out.up h2.out)).mono ?_
      rintro e w3 ⟨rfl, hb3⟩
      go_wp2
      go_ret2
      rw [HR.out]
      exact ⟨rfl, up_trans h2.out hb3⟩
    · have HR : Hid (compareOf a b = (0, checkOf b)) := by unfold Hid compareOf; rw [if_pos c1, if_neg c2]
      have cb : (checkOf b == 0) = false := by simp [c2]
      go_enter Try.func21, Try.ntmps21
      go_wp2_with fail
      refine (check_any a _ _ HA.out).mono ?_
      rintro e w1 ⟨rfl, hb1⟩
      rw [c1]
      go_wp2_with fail
      refine (check_any b _ _ (HB.out.up hb1)).mono ?_
      rintro e w2 ⟨rfl, hb2⟩
      have h2 : Hid (Below w.heap.size w w2) := up_trans hb1 hb2
      clear hb1 hb2
      go_wp2
      go_ret2
      rw [HR.out]
      exact ⟨rfl, h2.out⟩
  · have HR : Hid (compareOf a b = (0, checkOf a)) := by unfold Hid compareOf; rw [if_neg c1]
    have cb : (checkOf a == 0) = false := by simp [c1]
    go_enter Try.func21, Try.ntmps21
    go_wp2_with fail
    refine (check_any a _ _ HA.out).mono ?_
    rintro e w1 ⟨rfl, hb1⟩
    go_wp2
    go_ret2
    rw [HR.out]
    exact ⟨rfl, hb1⟩
end Go.Proofs.Ytjnbjooagdgfpaa
