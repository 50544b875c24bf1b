/- The statement on the order of texts. -/
import Derived.Test.YtgandogkjcljkaaDoorCLaw
namespace Go.Proofs.YtgandogkjcljkaaDoor
open Go.RowKit
set_option linter.unusedVariables false
set_option linter.unusedSimpArgs false

set_option maxHeartbeats 2000000 in
set_option maxRecDepth 20000 in
theorem order_walk (a b : Int) (w : World) (he : Env w) : Calls Tryd.prog 8 #[.int .i64 a, .int .i64 b] w fun e w' => e = .returned (.bool true) ∧ Below w.heap.size w w' := by
  have HV : Hid (∀ w', Below w.heap.size w w' → Calls Tryd.prog 22 #[] w' fun e w'' => e = .returned (.bool true) ∧ Below w'.heap.size w' w'') := fun w' hb => alive_any w' (he.up hb)
  have HA : Hid (∀ w', Below w.heap.size w w' → Calls Tryd.prog 17 #[.int .i64 a] w' fun e w'' => e = .returned (.tuple #[.string (strOfNums (textP a).1), .int .i64 (textP a).2]) ∧ Below w'.heap.size w' w'') := fun w' hb => text_any a w' (he.up hb)
  have HB : Hid (∀ w', Below w.heap.size w w' → Calls Tryd.prog 17 #[.int .i64 b] w' fun e w'' => e = .returned (.tuple #[.string (strOfNums (textP b).1), .int .i64 (textP b).2]) ∧ Below w'.heap.size w' w'') := fun w' hb => text_any b w' (he.up hb)
  clear he
  by_cases ha : 0 ≤ a ∧ a < 32503680000
  · have ea : textP a = (txtT a, 0) := if_pos ha
    rw [ea] at HA
    by_cases hb : 0 ≤ b ∧ b < 32503680000
    · have eb : textP b = (txtT b, 0) := if_pos hb
      rw [eb] at HB
      have oa := txt_octet a ha.1 ha.2
      have ob := txt_octet b hb.1 hb.2
      have sl : Op.bytesLess (strOfNums (txtT a)).toList (strOfNums (txtT b)).toList = decide (a < b) := (str_less _ _ oa ob).trans (txt_less ha.1 ha.2 hb.1 hb.2)
      have se : ((strOfNums (txtT a)).toList == (strOfNums (txtT b)).toList) = decide (a = b) := by
        rw [str_eq _ _ oa ob]
        exact decide_eq_decide.mpr (txt_same ha.1 ha.2 hb.1 hb.2)
      have sz : (strOfNums (txtT a)).size = 19 := by rw [strOfNums_size]; exact txt_length _ _ _ _ _ _
      clear ea eb oa ob ha hb
      generalize strOfNums (txtT a) = x at *
      generalize strOfNums (txtT b) = y at *
      go_enter Tryd.func8, Tryd.ntmps8
      go_wp2_with fail
      refine (HV.out _ (Below.refl _ _)).mono ?_
      rintro e v1 ⟨rfl, hv1⟩
      have hv1 := hid hv1
      go_wp2_with fail
      refine (HA.out _ hv1.out).mono ?_
      rintro e w1 ⟨rfl, hb1⟩
      have hb1 := hid (up_trans hv1.out hb1)
      go_wp2_with fail
      refine (HB.out _ hb1.out).mono ?_
      rintro e w2 ⟨rfl, hb2⟩
      have hb2 := hid (up_trans hb1.out hb2)
      go_wp2_with fail
      refine (num_any _ _).mono ?_
      rintro e w3 ⟨rfl, rfl⟩
      go_wp2_with fail
      refine (num_any _ _).mono ?_
      rintro e w3 ⟨rfl, rfl⟩
      go_wp2
      go_ret
      exact ⟨ret_bool (by by_cases q : a = b <;> simp [q]), hb2⟩
    · have eb : textP b = ([], 4) := if_neg hb
      rw [eb] at HB
      clear ea eb ha hb
      have E : strOfNums [] = { data := #[] } := rfl
      rw [E] at HB
      generalize strOfNums (txtT a) = x at *
      go_enter Tryd.func8, Tryd.ntmps8
      go_wp2_with fail
      refine (HV.out _ (Below.refl _ _)).mono ?_
      rintro e v1 ⟨rfl, hv1⟩
      have hv1 := hid hv1
      go_wp2_with fail
      refine (HA.out _ hv1.out).mono ?_
      rintro e w1 ⟨rfl, hb1⟩
      have hb1 := hid (up_trans hv1.out hb1)
      go_wp2_with fail
      refine (HB.out _ hb1.out).mono ?_
      rintro e w2 ⟨rfl, hb2⟩
      have hb2 := hid (up_trans hb1.out hb2)
      go_wp2_with fail
      refine (num_any _ _).mono ?_
      rintro e w3 ⟨rfl, rfl⟩
      go_wp2_with fail
      refine (num_any _ _).mono ?_
      rintro e w3 ⟨rfl, rfl⟩
      cases hx : (x.toList == [])
      · go_wp2
        go_ret
        exact ⟨rfl, hb2⟩
      · go_wp2
        go_ret
        exact ⟨rfl, hb2⟩
  · have ea : textP a = ([], 4) := if_neg ha
    rw [ea] at HA
    have E : strOfNums [] = { data := #[] } := rfl
    dsimp only at HA
    rw [E] at HA
    clear ea ha
    generalize strOfNums (textP b).1 = y at *
    generalize (textP b).2 = z at *
    go_enter Tryd.func8, Tryd.ntmps8
    go_wp2_with fail
    refine (HV.out _ (Below.refl _ _)).mono ?_
    rintro e v1 ⟨rfl, hv1⟩
    have hv1 := hid hv1
    go_wp2_with fail
    refine (HA.out _ hv1.out).mono ?_
    rintro e w1 ⟨rfl, hb1⟩
    have hb1 := hid (up_trans hv1.out hb1)
    go_wp2_with fail
    refine (HB.out _ hb1.out).mono ?_
    rintro e w2 ⟨rfl, hb2⟩
    have hb2 := hid (up_trans hb1.out hb2)
    go_wp2_with fail
    refine (num_any _ _).mono ?_
    rintro e w3 ⟨rfl, rfl⟩
    go_wp2
    go_ret
    exact ⟨rfl, hb2⟩
end Go.Proofs.YtgandogkjcljkaaDoor
