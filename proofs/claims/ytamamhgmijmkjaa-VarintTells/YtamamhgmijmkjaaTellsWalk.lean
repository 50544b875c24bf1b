/- The law VarintTells, walked: for any number, any octets and any int the Go function returns true and changes nothing that was there; the octets take at most 2^47 - 4096 bytes. -/
import Derived.Test.YtamamhgmijmkjaaRefPut
import Derived.Test.YtamamhgmijmkjaaRefGet
import Derived.BigCall
namespace Go.Proofs.Ytamamhgmijmkjaa
open Go.RowKit
set_option linter.unusedVariables false

set_option maxHeartbeats 2000000 in
theorem tells_walk (n : Int) (v : Value) (m : Int) (l : List Int) (w : World) (w0 : (Lit.int .u64 n).wf = true) (w2 : (Lit.int .i64 m).wf = true) (hO : Octs w v l) (hl : l.length ≤ 140737488351232) :
    Calls Try.prog 3 #[.int .u64 n, v, .int .i64 m] w fun e w' => e = .returned (.bool true) ∧ Below w.heap.size w w' := by
  obtain ⟨p0, p1⟩ := bounds_u64 w0
  obtain ⟨q0, q1⟩ := bounds_i64 w2
  clear w0 w2
  obtain ⟨N, K, E, hr⟩ : ∃ N K E, getRet l = .tuple #[.int .u64 N, .int .i64 K, .int .i64 E] := ⟨_, _, _, rfl⟩
  have HR : Hid (getRet l = .tuple #[.int .u64 N, .int .i64 K, .int .i64 E]) := hr
  have HO : Hid (Octs w v l) := hO
  clear hr hO
  go_enter Try.func3, Try.ntmps3
  go_wp2_with fail
  refine (copy_any l _ _ HO.out (by omega)).mono ?_
  rintro e w1 ⟨v1, rfl, hown1, hb1⟩
  have HO1 : Hid (Octs w1 v1 l) := Octs.own hown1 HO.out.1
  have HO2 : Hid (Octs w1 v l) := HO.out.up hb1
  clear hown1
  go_wp2_with fail
  refine (get_any l _ _ HO1.out).mono ?_
  rintro e w2 ⟨rfl, d2, rfl⟩
  rw [HR.out]
  go_wp2_with fail
  refine (refGet_any l _ _ (HO2.out.drewN d2)).mono ?_
  rintro e w3 ⟨rfl, d3, rfl⟩
  rw [HR.out]
  clear HR
  go_wp2_with fail
  refine (size_any n _ p0 p1).mono ?_
  rintro e w4 ⟨rfl, rfl⟩
  go_wp2_with fail
  refine (refSize_any n _ p0 p1).mono ?_
  rintro e w4 ⟨rfl, rfl⟩
  go_wp2_with fail
  refine (put_kept n _ p0 p1).mono ?_
  rintro e w4 ⟨v4, rfl, hK4, hb4⟩
  have HO4 : Hid (Octs w4 v4 (octets n)) := hK4.1
  clear hK4
  go_wp2_with fail
  refine (refPut_any n _ p0 p1).mono ?_
  rintro e w5 ⟨v5, rfl, hO5, hb5⟩
  have HO5 : Hid (Octs w5 v5 (octets n)) := hO5
  have HO6 : Hid (Octs w5 v4 (octets n)) := HO4.out.up hb5
  clear hO5 HO4
  go_wp2_with fail
  refine (same_any (octets n) (octets n) _ _ _ HO6.out HO5.out).mono ?_
  rintro e w6 ⟨rfl, rfl⟩
  rw [decide_eq_true (rfl : octets n = octets n)]
  go_wp2_with fail
  refine (num_any _ _).mono ?_
  rintro e w7 ⟨rfl, rfl⟩
  go_wp2_with fail
  refine (zig_any m _ q0 q1).mono ?_
  rintro e w7 ⟨rfl, rfl⟩
  go_wp2_with fail
  refine (refZig_any m _ q0 q1).mono ?_
  rintro e w7 ⟨rfl, rfl⟩
  go_wp2_with fail
  refine (zag_any n _ p0 p1).mono ?_
  rintro e w7 ⟨rfl, rfl⟩
  go_wp2_with fail
  refine (refZag_any n _ p0 p1).mono ?_
  rintro e w7 ⟨rfl, rfl⟩
  have up7 : Hid (Below w1.heap.size w1 w7) := up_trans (up_drewN w1 _) (up_trans hb4 hb5)
  go_wp2_with fail
  refine (same_any l l _ _ _ (HO1.out.up up7.out) (HO2.out.up up7.out)).mono ?_
  rintro e w8 ⟨rfl, rfl⟩
  rw [decide_eq_true (rfl : l = l)]
  go_wp2_with fail
  refine (alive_any _).mono ?_
  rintro e w9 ⟨rfl, hb9⟩
  go_wp2
  go_ret
  exact ⟨rfl, up_trans hb1 (up_trans up7.out hb9)⟩
end Go.Proofs.Ytamamhgmijmkjaa
