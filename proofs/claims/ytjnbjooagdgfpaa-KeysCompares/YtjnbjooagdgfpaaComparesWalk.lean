/- The law KeysCompares, walked: for any two slices of parts the Go function returns true and changes nothing that was there. -/
import Derived.Test.YtjnbjooagdgfpaaRefCompare
import Derived.Test.YtjnbjooagdgfpaaSame
import Derived.Test.YtjnbjooagdgfpaaAlive
namespace Go.Proofs.Ytjnbjooagdgfpaa
open Go.RowKit
set_option linter.unusedVariables false

set_option maxHeartbeats 2000000 in
theorem compares_walk (a b : List (Bool × Int × List Int)) (va vb : Value) (w : World) (ha : Parts w va a) (hb : Parts w vb b) (la : a.length ≤ 4398046511104) (lb : b.length ≤ 4398046511104) :
    Calls Try.prog 4 #[va, vb] w fun e w' => e = .returned (.bool true) ∧ Below w.heap.size w w' := by
  have HA : Hid (Parts w va a) := ha
  have HB : Hid (Parts w vb b) := hb
  clear ha hb
  go_enter Try.func4, Try.ntmps4
  go_wp2_with fail
  refine (of_any a _ _ HA.out la).mono ?_
  rintro e w1 ⟨x, rfl, ho1, hb1⟩
  have HX1 : Hid (Parts w1 x a) := Parts.own ho1 HA.out.1
  have HB1 : Hid (Parts w1 vb b) := HB.out.up hb1
  have U1 : Hid (Below w.heap.size w w1) := hb1
  clear ho1 hb1
  go_wp2_with fail
  refine (of_any b _ _ HB1.out lb).mono ?_
  rintro e w2 ⟨y, rfl, ho2, hb2⟩
  have HX2 : Hid (Parts w2 x a) := HX1.out.up hb2
  have HY2 : Hid (Parts w2 y b) := Parts.own ho2 HB.out.1
  have U2 : Hid (Below w.heap.size w w2) := up_trans U1.out hb2
  clear ho2 hb2 HX1 HB1 U1
  go_wp2_with fail
  refine (compare_any a b _ _ _ HX2.out HY2.out).mono ?_
  rintro e w3 ⟨rfl, hb3⟩
  have U3 : Hid (Below w.heap.size w w3) := up_trans U2.out hb3
  have HX3 : Hid (Parts w3 x a) := HX2.out.up hb3
  have HY3 : Hid (Parts w3 y b) := HY2.out.up hb3
  clear hb3 HX2 HY2 U2
  go_wp2_with fail
  refine (refCompare_any a b _ _ _ (HA.out.up U3.out) (HB.out.up U3.out)).mono ?_
  rintro e w4 ⟨rfl, hb4⟩
  have U4 : Hid (Below w.heap.size w w4) := up_trans U3.out hb4
  have HX4 : Hid (Parts w4 x a) := HX3.out.up hb4
  have HY4 : Hid (Parts w4 y b) := HY3.out.up hb4
  clear hb4 HX3 HY3 U3
  generalize (compareOf a b).1 = n at *
  generalize (compareOf a b).2 = m at *
  go_wp2_with fail
  refine (num_any _ _).mono ?_
  rintro e w5 ⟨rfl, rfl⟩
  go_wp2_with fail
  refine (same_one a _ _ _ HX4.out (HA.out.up U4.out)).mono ?_
  rintro e w6 ⟨rfl, d6, rfl⟩
  go_wp2_with fail
  refine (same_one b _ _ _ (HY4.out.up (up_drewN _ _)) (HB.out.up (up_trans U4.out (up_drewN _ _)))).mono ?_
  rintro e w7 ⟨rfl, d7, rfl⟩
  go_wp2_with fail
  refine (alive_any _).mono ?_
  rintro e w8 ⟨rfl, hb8⟩
  go_wp2
  go_ret
  exact ⟨rfl, up_trans (up_trans U4.out (up_drewN _ _)) hb8⟩
end Go.Proofs.Ytjnbjooagdgfpaa
