/- The law SumTells, walked: sums of any octets, octets guarded and any octets bared are the document's; what is handed in stays. -/
import Derived.Test.YtlomjgejdeghhaaBareAny
namespace Go.Proofs.Ytlomjgejdeghhaa
open Go.RowKit SumPlain
set_option linter.unusedVariables false

set_option maxRecDepth 4000 in
set_option maxHeartbeats 2000000 in
theorem tells_walk (v : Value) (c : BitVec 32) (vx : Value) (l lx : List Int) (w : World) (hv : Octs w v l) (hl : l.length ≤ 140737488351232) (hx : Octs w vx lx) (hlx : lx.length ≤ 140737488351232) :
    Calls Try.prog 3 #[v, .int .u32 (c.toNat : Int), vx] w fun e w' => e = .returned (.bool true) ∧ Below w.heap.size w w' := by
  have HV : Hid (Octs w v l) := hv
  have HX : Hid (Octs w vx lx) := hx
  clear hv hx
  go_enter Try.func3, Try.ntmps3
  go_wp2_with fail
  refine (copy_any l _ _ HV.out (by omega)).mono ?_
  rintro e w1 ⟨v1, rfl, hown1, hb1⟩
  have HX1 : Hid (Octs w1 vx lx) := HX.out.up hb1
  have HO1 : Hid (Octs w1 v1 l) := Octs.own hown1 HV.out.1
  go_wp2_with fail
  refine (copy_any lx _ _ HX1.out (by omega)).mono ?_
  rintro e w2 ⟨v2, rfl, hown2, hb2⟩
  have HO2 : Hid (Octs w2 v2 lx) := Octs.own hown2 HX.out.1
  go_wp2_with fail
  refine (bare_any lx _ _ HO2.out (by omega)).mono ?_
  rintro e w3 ⟨v3, rfl, hown3, hb3⟩
  have HO3 : Hid (Octs w3 v3 (bareOf lx).1) := Octs.own hown3 (bareOf_octet lx HX.out.1)
  have up3 : Hid (Below w.heap.size w w3) := up_trans hb1 (up_trans hb2 hb3)
  go_wp2_with fail
  refine (refBare_any lx _ _ (HX.out.up up3.out) hlx).mono ?_
  rintro e w4 ⟨v4, rfl, hown4, hb4⟩
  have HO4 : Hid (Octs w4 v4 (bareOf lx).1) := Octs.own hown4 (bareOf_octet lx HX.out.1)
  have HO34 : Hid (Octs w4 v3 (bareOf lx).1) := HO3.out.up hb4
  have up4 : Hid (Below w.heap.size w w4) := up_trans up3.out hb4
  have HO14 : Hid (Octs w4 v1 l) := HO1.out.up (up_trans hb2 (up_trans hb3 hb4))
  have HO24 : Hid (Octs w4 v2 lx) := HO2.out.up (up_trans hb3 hb4)
  clear hown1 hown2 hown3 hown4 hb1 hb2 hb3 hb4 HO1 HO2 HO3 HX1 up3
  generalize bareOf lx = bo at *
  obtain ⟨bl, be⟩ := bo
  simp only at HO4 HO34
  go_wp2_with fail
  refine (sum_any l _ _ HO14.out).mono ?_
  rintro e w5 ⟨rfl, rfl⟩
  go_wp2_with fail
  refine (refSum_any l _ _ (HV.out.up up4.out)).mono ?_
  rintro e w6 ⟨rfl, rfl⟩
  go_wp2_with fail
  refine (extend_any c l _ _ HO14.out).mono ?_
  rintro e w7 ⟨rfl, rfl⟩
  go_wp2_with fail
  refine (refExtend_any c l _ _ (HV.out.up up4.out)).mono ?_
  rintro e w8 ⟨rfl, rfl⟩
  go_wp2_with fail
  refine (guard_any l _ _ HO14.out (by omega)).mono ?_
  rintro e w9 ⟨v9, rfl, hown9, hb9⟩
  have HO9 : Hid (Octs w9 v9 (guardOf l)) := Octs.own hown9 (guard_octet l HV.out.1)
  go_wp2_with fail
  refine (refGuard_any l _ _ (HV.out.up (up_trans up4.out hb9)) (by omega)).mono ?_
  rintro e w10 ⟨v10, rfl, hown10, hb10⟩
  have HO10 : Hid (Octs w10 v10 (guardOf l)) := Octs.own hown10 (guard_octet l HV.out.1)
  have up10 : Hid (Below w8.heap.size w8 w10) := up_trans hb9 hb10
  have HO910 : Hid (Octs w10 v9 (guardOf l)) := HO9.out.up hb10
  clear hown9 hown10 hb9 hb10
  go_wp2_with fail
  refine (same_any (guardOf l) (guardOf l) _ _ _ HO910.out HO10.out).mono ?_
  rintro e w11 ⟨rfl, rfl⟩
  rw [decide_eq_true (rfl : guardOf l = guardOf l)]
  go_wp2_with fail
  refine (same_any bl bl _ _ _ (HO34.out.up up10.out) (HO4.out.up up10.out)).mono ?_
  rintro e w12 ⟨rfl, rfl⟩
  rw [decide_eq_true (rfl : bl = bl)]
  go_wp2_with fail
  refine (num_any _ _).mono ?_
  rintro e w13 ⟨rfl, rfl⟩
  go_wp2_with fail
  refine (same_any l l _ _ _ (HO14.out.up up10.out) (HV.out.up (up_trans up4.out up10.out))).mono ?_
  rintro e w14 ⟨rfl, rfl⟩
  rw [decide_eq_true (rfl : l = l)]
  go_wp2_with fail
  refine (same_any lx lx _ _ _ (HO24.out.up up10.out) (HX.out.up (up_trans up4.out up10.out))).mono ?_
  rintro e w15 ⟨rfl, rfl⟩
  rw [decide_eq_true (rfl : lx = lx)]
  go_wp2_with fail
  refine (alive_any _).mono ?_
  rintro e w16 ⟨rfl, hb16⟩
  go_wp2
  go_ret
  exact ⟨rfl, up_trans up4.out (up_trans up10.out hb16)⟩
end Go.Proofs.Ytlomjgejdeghhaa
