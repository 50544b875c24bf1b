/- The law KeysTells, walked: for any slice of parts and any text, of bulk at most 2^20, the Go function returns true and changes nothing that was there. -/
import Derived.Test.YtjnbjooagdgfpaaRefEnc
import Derived.Test.YtjnbjooagdgfpaaBackMath
namespace Go.Proofs.Ytjnbjooagdgfpaa
open Go.RowKit
set_option linter.unusedVariables false

set_option maxHeartbeats 4000000 in
set_option maxRecDepth 4000 in
theorem tells_upto (l : List (Bool × Int × List Int)) (v : Value) {w : World} (hv : Parts w v l) (hl : l.length ≤ 1048576) (hlt : ∀ p ∈ l, p.2.2.length ≤ 1048576) (s : List Int) (hs : ∀ x ∈ s, 0 ≤ x ∧ x ≤ 255) (hm : s.length ≤ 1048576) :
    Calls Try.prog 3 #[v, .string (strOfNums s)] w fun e w' => e = .returned (.bool true) ∧ Below w.heap.size w w' := by
  have HV : Hid (Parts w v l) := hv
  have HS : Hid (∀ x ∈ s, 0 ≤ x ∧ x ≤ 255) := hs
  have HLT : Hid (∀ p ∈ l, p.2.2.length ≤ 1099511627776) := fun p hp => by have := hlt p hp; omega
  have HWF : Hid (∀ p ∈ (decodeOf s).1, Pwf p) := decoded_wf s hs (by omega)
  clear hv hs hlt
  go_enter Try.func3, Try.ntmps3
  go_wp2_with fail
  refine (of_any l _ _ HV.out (by omega)).mono ?_
  rintro e w1 ⟨x, rfl, ho1, hb1⟩
  have U1 : Hid (Below w.heap.size w w1) := hb1
  have HX1 : Hid (Parts w1 x l) := Parts.own ho1 HV.out.1
  clear ho1 hb1
  go_wp2_with fail
  refine (encode_any l _ _ HX1.out HLT.out).mono ?_
  rintro e w2 ⟨rfl, hb2⟩
  have U2 : Hid (Below w.heap.size w w2) := up_trans U1.out hb2
  have HX2 : Hid (Parts w2 x l) := HX1.out.up hb2
  clear hb2 HX1 U1
  go_wp2_with fail
  refine (refEncode_any l _ _ (HV.out.up U2.out) HLT.out).mono ?_
  rintro e w3 ⟨rfl, hb3⟩
  have U3 : Hid (Below w.heap.size w w3) := up_trans U2.out hb3
  have HX3 : Hid (Parts w3 x l) := HX2.out.up hb3
  clear hb3 HX2 U2
  go_wp2_with fail
  refine (decode_any s HS.out (by omega) _).mono ?_
  rintro e w4 ⟨vc, rfl, ho4, hb4⟩
  have U4 : Hid (Below w.heap.size w w4) := up_trans U3.out hb4
  have HX4 : Hid (Parts w4 x l) := HX3.out.up hb4
  have HC4 : Hid (Parts w4 vc (decodeOf s).1) := Parts.own ho4 HWF.out
  clear ho4 hb4 HX3 U3
  go_wp2_with fail
  refine (refDecode_any s HS.out (by omega) _).mono ?_
  rintro e w5 ⟨vd, rfl, ho5, hb5⟩
  have U5 : Hid (Below w.heap.size w w5) := up_trans U4.out hb5
  have HX5 : Hid (Parts w5 x l) := HX4.out.up hb5
  have HC5 : Hid (Parts w5 vc (decodeOf s).1) := HC4.out.up hb5
  have HD5 : Hid (Parts w5 vd (decodeOf s).1) := Parts.own ho5 HWF.out
  clear ho5 hb5 HX4 HC4 U4
  go_wp2_with fail
  refine (above_any s HS.out (by omega) _).mono ?_
  rintro e w6 ⟨rfl, hb6⟩
  have U6 : Hid (Below w.heap.size w w6) := up_trans U5.out hb6
  have HX6 : Hid (Parts w6 x l) := HX5.out.up hb6
  have HC6 : Hid (Parts w6 vc (decodeOf s).1) := HC5.out.up hb6
  have HD6 : Hid (Parts w6 vd (decodeOf s).1) := HD5.out.up hb6
  clear hb6 HX5 HC5 HD5 U5
  go_wp2_with fail
  refine (refAbove_any s HS.out (by omega) _).mono ?_
  rintro e w7 ⟨rfl, hb7⟩
  have U7 : Hid (Below w.heap.size w w7) := up_trans U6.out hb7
  have HX7 : Hid (Parts w7 x l) := HX6.out.up hb7
  have HC7 : Hid (Parts w7 vc (decodeOf s).1) := HC6.out.up hb7
  have HD7 : Hid (Parts w7 vd (decodeOf s).1) := HD6.out.up hb7
  clear hb7 HX6 HC6 HD6 U6
  generalize strOfNums (encodeOf l).1 = A at *
  generalize (encodeOf l).2 = ea at *
  generalize strOfNums (aboveOf s).1 = P at *
  generalize hq : (aboveOf s).2 = q at *
  generalize (decodeOf s).2 = ed at *
  generalize (decodeOf s).1 = dl at *
  clear hq
  go_wp2_with fail
  refine (num_any _ _).mono ?_
  rintro e w8 ⟨rfl, rfl⟩
  go_wp2_with fail
  refine (same_one dl _ _ _ HC7.out HD7.out).mono ?_
  rintro e w9 ⟨rfl, d9, rfl⟩
  have U9 : Hid (Below w.heap.size w (w8.drewN d9)) := up_trans U7.out (up_drewN _ _)
  have HX9 : Hid (Parts (w8.drewN d9) x l) := HX7.out.up (up_drewN _ _)
  clear HX7 HC7 HD7 U7
  generalize w8.drewN d9 = wa at *
  go_wp2_with fail
  refine (num_any _ _).mono ?_
  rintro e wb ⟨rfl, rfl⟩
  have fin : Hid (∀ we, Below wb.heap.size wb we → Below w.heap.size w we) := fun we h => up_trans U9.out h
  cases q
  all_goals
    go_wp2_with fail
    refine (check_any l _ _ HX9.out).mono ?_
    rintro e w10 ⟨rfl, hb10⟩
    have HX10 : Hid (Parts w10 x l) := HX9.out.up hb10
    have U10 : Hid (Below w.heap.size w w10) := up_trans U9.out hb10
    go_wp2_with fail
    refine (num_any _ _).mono ?_
    rintro e w11 ⟨rfl, rfl⟩
    go_wp2_with fail
    refine (refCheck_any l _ _ (HV.out.up U10.out)).mono ?_
    rintro e w12 ⟨rfl, rfl⟩
    clear hb10
    generalize checkOf l = ck at *
    go_wp2_with fail
    refine (same_one l _ _ _ HX10.out (HV.out.up U10.out)).mono ?_
    rintro e w13 ⟨rfl, d13, rfl⟩
    go_wp2_with fail
    refine (alive_any _).mono ?_
    rintro e w14 ⟨rfl, hb14⟩
    go_wp2
    go_ret
    exact ⟨rfl, up_trans (up_trans U10.out (up_drewN _ _)) hb14⟩
end Go.Proofs.Ytjnbjooagdgfpaa
