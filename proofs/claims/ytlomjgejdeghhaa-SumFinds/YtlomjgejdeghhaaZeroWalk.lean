/- The law SumZero, walked: what is guarded sums up to 0, and is bared again. -/
import Derived.Test.YtlomjgejdeghhaaBareAny
namespace Go.Proofs.Ytlomjgejdeghhaa
open Go.RowKit SumPlain
set_option linter.unusedVariables false

theorem guard_zero (l : List Int) : ext ones (guardOf l) = 0#32 := ext_guard ones l
theorem guard_bare (l : List Int) : bareOf (guardOf l) = (l, 0) := bare_guard l

set_option maxHeartbeats 1000000 in
theorem zero_walk (v : Value) (l : List Int) (w : World) (hv : Octs w v l) (hl : l.length ≤ 140737488351232) :
    Calls Try.prog 5 #[v] w fun e w' => e = .returned (.bool true) ∧ Below w.heap.size w w' := by
  have HV : Hid (Octs w v l) := hv
  clear hv
  go_enter Try.func5, Try.ntmps5
  go_wp2_with fail
  refine (guard_any l _ _ HV.out hl).mono ?_
  rintro e w1 ⟨v1, rfl, hown1, hb1⟩
  have HO1 : Hid (Octs w1 v1 (guardOf l)) := Octs.own hown1 (guard_octet l HV.out.1)
  have hgl := guard_len l
  go_wp2_with fail
  refine (bare_any (guardOf l) _ _ HO1.out (by rw [hgl]; omega)).mono ?_
  rintro e w2 ⟨v2, rfl, hown2, hb2⟩
  rw [guard_bare l] at hown2 ⊢
  have HO2 : Hid (Octs w2 v2 l) := Octs.own hown2 HV.out.1
  have HO3 : Hid (Octs w2 v1 (guardOf l)) := HO1.out.up hb2
  have HV2 : Hid (Octs w2 v l) := HV.out.up (up_trans hb1 hb2)
  have up2 : Hid (Below w.heap.size w w2) := up_trans hb1 hb2
  clear hown1 hown2 hgl
  go_wp2_with fail
  refine (sum_any (guardOf l) _ _ HO3.out).mono ?_
  rintro e w3 ⟨rfl, rfl⟩
  rw [guard_zero l]
  go_wp2_with fail
  refine (num_any _ _).mono ?_
  rintro e w4 ⟨rfl, rfl⟩
  go_wp2_with fail
  refine (same_any l l _ _ _ HO2.out HV2.out).mono ?_
  rintro e w4 ⟨rfl, rfl⟩
  rw [decide_eq_true (rfl : l = l)]
  go_wp2_with fail
  refine (alive_any _).mono ?_
  rintro e w5 ⟨rfl, hb5⟩
  go_wp2
  go_ret
  exact ⟨rfl, up_trans up2.out hb5⟩
end Go.Proofs.Ytlomjgejdeghhaa
