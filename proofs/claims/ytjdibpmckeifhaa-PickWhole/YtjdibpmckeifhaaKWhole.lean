/- PickWhole, walked. -/
import Derived.Test.YtjdibpmckeifhaaJAlive
import Derived.Test.YtjdibpmckeifhaaLOf
import Derived.Test.YtjdibpmckeifhaaRChk
import Derived.Test.YtjdibpmckeifhaaKWhM
namespace Go.Proofs.Ytjdibpmckeifhaa
open Go.RowKit
set_option linter.unusedVariables false
set_option linter.unusedSimpArgs false

set_option maxHeartbeats 4000000 in
set_option maxRecDepth 100000 in
theorem whole_walk (ts : List Me) (seq next : Int) (va : Option Addr) (vn vc : Nat) (w : World) (hv : MetsR w (.slice va vn vc) ts) (hl : ts.length ≤ 4000000000000) :
    Calls Try.prog 4 #[.agg #[.slice va vn vc, .int .i64 seq, .int .i64 next]] w fun e w' => e = .returned (.bool true) ∧ Below w.heap.size w w' := by
  obtain ⟨a', c', e', hc1, hc2⟩ := hv.len
  simp only [Value.slice.injEq] at e'
  obtain ⟨rfl, rfl, rfl⟩ := e'
  have HV : Hid (MetsR w (.slice va ts.length vc) ts) := hv
  have HL : Hid (ts.length ≤ 4000000000000) := hl
  clear hv hl hc1 hc2
  obtain ⟨w0, hw0⟩ : ∃ w0, w0 = w.alloc (.cells #[.slice va ts.length vc, .int .i64 seq, .int .i64 next] 24) := ⟨_, rfl⟩
  have HW0 : Hid (w.alloc (.cells #[.slice va ts.length vc, .int .i64 seq, .int .i64 next] 24) = w0) := hw0.symm
  have U0 : Hid (Below w.heap.size w w0) := by rw [hw0]; exact up_alloc _ _
  have B0 : Hid (w0.heap[w.heap.size]? = some (.cells #[.slice va ts.length vc, .int .i64 seq, .int .i64 next] 24)) := by rw [hw0]; exact blk_new _ _
  clear hw0
  have x0 := blk_cell B0.out 0 _ rfl
  have x1 := blk_cell B0.out 1 _ rfl
  have x2 := blk_cell B0.out 2 _ rfl
  have HAL := hid (alive_any w0)
  generalize hNB : w.heap.size = NB at *
  have HNB := hid hNB
  clear hNB
  go_enter Try.func4, Try.ntmps4
  go_upto_region 1 with fail
  rw [HW0.out, HNB.out]
  clear HW0
  go_wp2_with fail
  refine HAL.out.mono ?_
  rintro e w1 ⟨rfl, u1⟩
  have U1 : Hid (Below NB w w1) := U0.out.trans (u1.out.mono (Nat.le_of_lt (blk_lt B0.out)))
  have B1 := hid (blk_up B0.out u1.out)
  have HV1 : Hid (MetsR w1 (.slice va ts.length vc) ts) := HV.out.up (by rw [HNB.out]; exact U1.out)
  clear u1 HAL x0 x1 x2 U0 B0
  clear w0
  have x0 := blk_cell B1.out 0 _ rfl
  have x1 := blk_cell B1.out 1 _ rfl
  have x2 := blk_cell B1.out 2 _ rfl
  have HOF := hid (of_any ts seq next va ts.length vc w1 HV1.out HL.out)
  go_wp2_with fail
  refine HOF.out.mono ?_
  rintro e w2 ⟨oa, on, oc, rfl, HO2, u2⟩
  have U2 : Hid (Below NB w w2) := U1.out.trans (u2.out.mono (Nat.le_of_lt (blk_lt B1.out)))
  have B2 := hid (blk_up B1.out u2.out)
  have HV2 := hid (HV1.out.up u2.out)
  have HM2 : Hid (MetsR w2 (.slice oa on oc) ts) := HO2.out.read
  clear u2 HOF x0 x1 x2 U1 B1 HO2 HV1
  clear w1
  have HCC : Hid (Calls Try.prog 11 #[.agg #[.slice oa on oc, .int .i64 seq, .int .i64 next]] w2 (ChoE w2 (choM ts seq next))) := choose_any ts seq next oa on oc w2 HM2.out
  rcases errV_cases ts seq next with hc | hc
  case inr =>
    have HC9 := hid hc
    rw [cho_err hc] at HCC
    replace HCC : Hid (Calls Try.prog 11 #[.agg #[.slice oa on oc, .int .i64 seq, .int .i64 next]] w2 fun e w' => ∃ a n cc, e = .returned (.tuple #[.agg #[.int .i64 0, .slice a n cc, .bool false], .bool false, .int .i64 9]) ∧ Hid (n = 0) ∧ Hid (IntsR w' (.slice a n cc) []) ∧ Hid (Below w2.heap.size w2 w')) := HCC.out
    clear hc
    go_wp2_with fail
    refine HCC.out.mono ?_
    rintro e w3 ⟨la, ln, lc, rfl, HN, HI, u3⟩
    obtain rfl : ln = 0 := HN.out
    have U3 : Hid (Below NB w w3) := U2.out.trans (u3.out.mono (Nat.le_of_lt (blk_lt B2.out)))
    have B3 := hid (blk_up B2.out u3.out)
    have HV3 := hid (HV2.out.up u3.out)
    clear u3 U2 B2 HV2 HM2
    have x0 := blk_cell B3.out 0 _ rfl
    have x1 := blk_cell B3.out 1 _ rfl
    have x2 := blk_cell B3.out 2 _ rfl
    have U4 : Hid (Below w3.heap.size w3 (w3.alloc (.cells #[.int .i64 0, .slice la 0 lc, .bool false] 36))) := up_alloc _ _
    have P4 : Hid ((w3.alloc (.cells #[.int .i64 0, .slice la 0 lc, .bool false] 36)).heap[w3.heap.size]? = some (.cells #[.int .i64 0, .slice la 0 lc, .bool false] 36)) := blk_new _ _
    obtain ⟨w4, hw4⟩ : ∃ w4, w4 = w3.alloc (.cells #[.int .i64 0, .slice la 0 lc, .bool false] 36) := ⟨_, rfl⟩
    have HW4 : Hid (w3.alloc (.cells #[.int .i64 0, .slice la 0 lc, .bool false] 36) = w4) := hw4.symm
    rw [← hw4] at U4 P4
    clear hw4 HCC
    go_upto_region 4 with fail
    rw [HW4.out]
    clear HW4 x0 x1 x2
    have B4 := hid (blk_up B3.out U4.out)
    have HV4 := hid (HV3.out.up U4.out)
    have UW4 : Hid (Below NB w w4) := U3.out.trans (U4.out.mono (Nat.le_of_lt (blk_lt B3.out)))
    generalize w3.heap.size = NP at *
    clear U4 U3 B3 HV3 HI
    have p0 := blk_cell P4.out 0 _ rfl
    have p1 := blk_cell P4.out 1 _ rfl
    have p2 := blk_cell P4.out 2 _ rfl
    have x0 := blk_cell B4.out 0 _ rfl
    have x1 := blk_cell B4.out 1 _ rfl
    have x2 := blk_cell B4.out 2 _ rfl
    have HCK : Hid (Calls Try.prog 20 #[.agg #[.slice va ts.length vc, .int .i64 seq, .int .i64 next]] w4 fun e w' => e = .returned (.int .i64 (errV ts seq next)) ∧ Hid (Below w4.heap.size w4 w')) := refCheck_any ts seq next va ts.length vc w4 HV4.out
    rw [HC9.out] at HCK
    go_wp2_with fail
    refine (num_any _ _).mono ?_
    rintro e w5 ⟨rfl, rfl⟩
    go_wp2_with fail
    refine (num_any _ _).mono ?_
    rintro e w6 ⟨rfl, rfl⟩
    go_wp2_with fail
    refine HCK.out.mono ?_
    rintro e w7 ⟨rfl, u5⟩
    go_wp2_with fail
    go_ret
    exact ⟨rfl, UW4.out.trans (u5.out.mono (Nat.le_of_lt (blk_lt B4.out)))⟩
  have HC0 := hid hc
  cases hf : fullM ts with
  | nil =>
    rw [cho_none hc hf] at HCC
    replace HCC : Hid (Calls Try.prog 11 #[.agg #[.slice oa on oc, .int .i64 seq, .int .i64 next]] w2 fun e w' => ∃ a n cc, e = .returned (.tuple #[.agg #[.int .i64 0, .slice a n cc, .bool false], .bool false, .int .i64 0]) ∧ Hid (n = 0) ∧ Hid (IntsR w' (.slice a n cc) []) ∧ Hid (Below w2.heap.size w2 w')) := HCC.out
    clear hc hf
    go_wp2_with fail
    refine HCC.out.mono ?_
    rintro e w3 ⟨la, ln, lc, rfl, HN, HI, u3⟩
    obtain rfl : ln = 0 := HN.out
    have U3 : Hid (Below NB w w3) := U2.out.trans (u3.out.mono (Nat.le_of_lt (blk_lt B2.out)))
    have B3 := hid (blk_up B2.out u3.out)
    have HV3 := hid (HV2.out.up u3.out)
    clear u3 U2 B2 HV2 HM2
    have x0 := blk_cell B3.out 0 _ rfl
    have x1 := blk_cell B3.out 1 _ rfl
    have x2 := blk_cell B3.out 2 _ rfl
    have U4 : Hid (Below w3.heap.size w3 (w3.alloc (.cells #[.int .i64 0, .slice la 0 lc, .bool false] 36))) := up_alloc _ _
    have P4 : Hid ((w3.alloc (.cells #[.int .i64 0, .slice la 0 lc, .bool false] 36)).heap[w3.heap.size]? = some (.cells #[.int .i64 0, .slice la 0 lc, .bool false] 36)) := blk_new _ _
    obtain ⟨w4, hw4⟩ : ∃ w4, w4 = w3.alloc (.cells #[.int .i64 0, .slice la 0 lc, .bool false] 36) := ⟨_, rfl⟩
    have HW4 : Hid (w3.alloc (.cells #[.int .i64 0, .slice la 0 lc, .bool false] 36) = w4) := hw4.symm
    rw [← hw4] at U4 P4
    clear hw4 HCC
    go_upto_region 4 with fail
    rw [HW4.out]
    clear HW4 x0 x1 x2
    have B4 := hid (blk_up B3.out U4.out)
    have HV4 := hid (HV3.out.up U4.out)
    have UW4 : Hid (Below NB w w4) := U3.out.trans (U4.out.mono (Nat.le_of_lt (blk_lt B3.out)))
    generalize w3.heap.size = NP at *
    clear U4 U3 B3 HV3 HI
    have p0 := blk_cell P4.out 0 _ rfl
    have p1 := blk_cell P4.out 1 _ rfl
    have p2 := blk_cell P4.out 2 _ rfl
    have x0 := blk_cell B4.out 0 _ rfl
    have x1 := blk_cell B4.out 1 _ rfl
    have x2 := blk_cell B4.out 2 _ rfl
    go_wp2_with fail
    refine (num_any _ _).mono ?_
    rintro e w5 ⟨rfl, rfl⟩
    go_wp2_with fail
    refine (num_any _ _).mono ?_
    rintro e w6 ⟨rfl, rfl⟩
    go_wp2_with fail
    go_ret
    exact ⟨rfl, UW4.out⟩
  | cons lev rest =>
    obtain ⟨p, hp⟩ := plan_some hf
    have HWF := hid (whole_facts hc hf hp)
    rw [cho_some hc hf hp] at HCC
    have HPL := hid hp
    have HFM := hid hf
    clear hc hf hp
    obtain ⟨ids, hids⟩ : ∃ ids, ids = (p.top ++ p.below).map (·.id) := ⟨_, rfl⟩
    have HIDS := hid hids
    rw [← hids] at HCC HWF
    clear hids
    replace HCC : Hid (Calls Try.prog 11 #[.agg #[.slice oa on oc, .int .i64 seq, .int .i64 next]] w2 fun e w' => ∃ a n cc, e = .returned (.tuple #[.agg #[.int .i64 lev, .slice a n cc, .bool p.bot], .bool true, .int .i64 0]) ∧ Hid (n = ids.length) ∧ Hid (IntsR w' (.slice a n cc) ids) ∧ Hid (Below w2.heap.size w2 w')) := HCC.out
    go_wp2_with fail
    refine HCC.out.mono ?_
    rintro e w3 ⟨la, ln, lc, rfl, HN, HI, u3⟩
    have U3 : Hid (Below NB w w3) := U2.out.trans (u3.out.mono (Nat.le_of_lt (blk_lt B2.out)))
    have B3 := hid (blk_up B2.out u3.out)
    have HV3 := hid (HV2.out.up u3.out)
    clear u3 U2 B2 HV2 HM2
    have x0 := blk_cell B3.out 0 _ rfl
    have x1 := blk_cell B3.out 1 _ rfl
    have x2 := blk_cell B3.out 2 _ rfl
    have hL : ts.length ≤ 256 := chk_len HC0.out
    have hlv1 := HWF.out.lv.1
    have hlv2 := HWF.out.lv.2
    have U4 : Hid (Below w3.heap.size w3 (w3.alloc (.cells #[.int .i64 lev, .slice la ln lc, .bool p.bot] 36))) := up_alloc _ _
    have P4 : Hid ((w3.alloc (.cells #[.int .i64 lev, .slice la ln lc, .bool p.bot] 36)).heap[w3.heap.size]? = some (.cells #[.int .i64 lev, .slice la ln lc, .bool p.bot] 36)) := blk_new _ _
    obtain ⟨w4, hw4⟩ : ∃ w4, w4 = w3.alloc (.cells #[.int .i64 lev, .slice la ln lc, .bool p.bot] 36) := ⟨_, rfl⟩
    have HW4 : Hid (w3.alloc (.cells #[.int .i64 lev, .slice la ln lc, .bool p.bot] 36) = w4) := hw4.symm
    rw [← hw4] at U4 P4
    clear hw4 HCC
    go_upto_region 4 with fail
    rw [HW4.out]
    clear HW4 x0 x1 x2
    have B4 := hid (blk_up B3.out U4.out)
    have HV4 := hid (HV3.out.up U4.out)
    have HI4 := hid (HI.out.up U4.out)
    have UW4 : Hid (Below NB w w4) := U3.out.trans (U4.out.mono (Nat.le_of_lt (blk_lt B3.out)))
    generalize w3.heap.size = NP at *
    clear U4 U3 B3 HV3 HI
    have p2 := blk_cell P4.out 2 _ rfl
    go_wp2_with fail
    refine (num_any _ _).mono ?_
    rintro e w5 ⟨rfl, rfl⟩
    go_wp2_with fail
    clear p2
    go_loopw [6, 7] (fun a i wr => ∃ (k : Nat), k ≤ ts.length ∧ i = .int .i64 k ∧ a = .int .i64 (cntI ts ids k : Int) ∧ Hid (Below w5.heap.size w5 wr)) (fun _ i _ => ts.length - (intOf i).toNat)
    case atStart => exact ⟨0, Nat.zero_le _, rfl, rfl, Below.refl _ _⟩
    case round =>
      obtain ⟨k, hk, rfl, rfl, HB⟩ := hrel
      have BR := hid (blk_up B4.out HB.out)
      have x0 := blk_cell BR.out 0 _ rfl
      by_cases hlt : k < ts.length
      · have hlt' : (k : Int) < (ts.length : Int) := by omega
        obtain ⟨b, off, cap, x, e, hx, m0, m1, m2, m3, m4⟩ := (HV4.out.up HB.out).at k hlt
        simp only [Value.slice.injEq] at e
        obtain ⟨rfl, _, rfl⟩ := e
        have HMX := hid (List.mem_of_getElem? hx)
        have HSTEP := hid (cntI_step hx ids)
        have hbnd : (cntI ts ids k : Int) ≤ 256 := by have := cntI_le ts ids k; omega
        have HIN := hid (in_any ids x.id (.slice la ln lc) (wr.alloc (meObj x)) (HI4.out.up (up_al HB.out _)))
        have HB2 : Hid (Below w5.heap.size w5 (wr.alloc (meObj x))) := up_al HB.out _
        have BX : Hid ((wr.alloc (meObj x)).heap[wr.heap.size]? = some (meObj x)) := blk_new _ _
        clear hx
        obtain ⟨w6, hw6⟩ : ∃ w6, w6 = wr.alloc (meObj x) := ⟨_, rfl⟩
        have HW6 : Hid (wr.alloc (.cells #[.int .i64 x.id, .int .i64 x.lvl, .int .i64 x.cnt, .string x.low, .string x.high] 52) = w6) := hw6.symm
        rw [← hw6] at HB2 BX HIN
        clear hw6
        generalize cntI ts ids k = CK at *
        go_upto_region 11 with fail
        rw [HW6.out]
        clear HW6 m0 m1 m2 m3 m4 x0
        generalize wr.heap.size = NX at *
        have P6 := hid (blk_up P4.out HB2.out)
        have B6 := hid (blk_up B4.out HB2.out)
        have m0 := blk_cell BX.out 0 _ rfl
        have m1 := blk_cell BX.out 1 _ rfl
        have p0 := blk_cell P6.out 0 _ rfl
        have p1 := blk_cell P6.out 1 _ rfl
        cases hin : decide (x.id ∈ ids) with
        | true =>
          rw [hin] at HIN HSTEP
          have HLV := hid (HWF.out.lvl x HMX.out (of_decide_eq_true hin))
          clear hin
          rcases HLV.out with hq | hq
          · have e1 : (x.lvl != lev) = false := by simp [hq]
            have e2 : (x.lvl = lev) = True := eq_true hq
            clear hq
            go_wp2_with fail
            refine HIN.out.mono ?_
            rintro e w7 ⟨rfl, rfl⟩
            go_wp2_with fail
            exact ⟨⟨k + 1, by omega, by go_num, by rw [HSTEP.out]; go_num, HB2⟩, by simp [intOf]; omega⟩
          · have e0 : ¬ x.lvl = lev := by omega
            have e1 : (x.lvl != lev) = true := by simp [e0]
            have e2 : (x.lvl != lev + 1) = false := by simp [hq]
            have e3 : (x.lvl = lev + 1) = True := eq_true hq
            clear hq
            go_wp2_with fail
            refine HIN.out.mono ?_
            rintro e w7 ⟨rfl, rfl⟩
            go_wp2_with fail
            exact ⟨⟨k + 1, by omega, by go_num, by rw [HSTEP.out]; go_num, HB2⟩, by simp [intOf]; omega⟩
        | false =>
          rw [hin] at HIN HSTEP
          have HNI := hid (of_decide_eq_false hin)
          have HZ : Hid ((x.lvl == 0) = false ∨ ((x.lvl == 0) = true ∧ (lev == 0) = false)) := by
            by_cases q : x.lvl = 0
            · exact .inr ⟨by simp [q], by rw [beq_eq_false_iff_ne]; exact HWF.out.zero x HMX.out HNI.out q⟩
            · exact .inl (by simp [q])
          clear hin
          have HQL : Hid ((x.lvl == lev + 1) = decide (x.lvl = lev + 1)) := by unfold Hid; rw [Bool.eq_iff_iff]; simp
          have BX3 := hid (blk_cell BX.out 3 _ rfl)
          have BX4 := hid (blk_cell BX.out 4 _ rfl)
          rcases HZ.out with h0 | ⟨h0, h00⟩
          all_goals
            go_wp2_with fail
            refine HIN.out.mono ?_
            rintro e w7 ⟨rfl, rfl⟩
            go_wp2_with fail
            clear m0 m1 p0 p1
            go_loopw [9] (fun i wr2 => ∃ (j : Nat), j ≤ ts.length ∧ i = .int .i64 j ∧ Hid (Below w7.heap.size w7 wr2)) (fun i _ => ts.length - (intOf i).toNat)
            case atStart => exact ⟨0, Nat.zero_le _, rfl, Below.refl _ _⟩
            case round =>
              obtain ⟨j, hj, rfl, HJ⟩ := hrel
              have BRJ := hid (blk_up B6.out HJ.out)
              have PJ := hid (blk_up P6.out HJ.out)
              have XJ := hid (blk_up BX.out HJ.out)
              have x0 := blk_cell BRJ.out 0 _ rfl
              have p0 := blk_cell PJ.out 0 _ rfl
              have m1 := blk_cell XJ.out 1 _ rfl
              by_cases hlj : j < ts.length
              · have hlj' : (j : Int) < (ts.length : Int) := by omega
                by_cases hq : x.lvl = lev + 1
                · have hq' : (x.lvl == lev + 1) = true := by simp [hq]
                  have HQ := hid hq
                  obtain ⟨b2, off2, cap2, o, e, ho, o0, o1, o2, o3, o4⟩ := ((HV4.out.up HB2.out).up HJ.out).at j hlj
                  simp only [Value.slice.injEq, Option.some.injEq, Addr.mk.injEq] at e
                  obtain ⟨⟨rfl, rfl, _⟩, _, rfl⟩ := e
                  have HMO := hid (List.mem_of_getElem? ho)
                  have HIO := hid (in_any ids o.id (.slice la ln lc) (wr.alloc (meObj o)) ((HI4.out.up HB2.out).up (up_al HJ.out _)))
                  have HJ2 : Hid (Below w7.heap.size w7 (wr.alloc (meObj o))) := up_al HJ.out _
                  have BO : Hid ((wr.alloc (meObj o)).heap[wr.heap.size]? = some (meObj o)) := blk_new _ _
                  clear ho hq
                  obtain ⟨w8, hw8⟩ : ∃ w8, w8 = wr.alloc (meObj o) := ⟨_, rfl⟩
                  have HW8 : Hid (wr.alloc (.cells #[.int .i64 o.id, .int .i64 o.lvl, .int .i64 o.cnt, .string o.low, .string o.high] 52) = w8) := hw8.symm
                  rw [← hw8] at HJ2 BO HIO
                  clear hw8
                  go_upto_region 21 with fail
                  rw [HW8.out]
                  clear HW8 o0 o1 o2 o3 o4 x0 p0 m1
                  generalize wr.heap.size = NO at *
                  have P8 := hid (blk_up P6.out HJ2.out)
                  have X8 := hid (blk_up BX.out HJ2.out)
                  have o0 := blk_cell BO.out 0 _ rfl
                  have o1 := blk_cell BO.out 1 _ rfl
                  have o3 := blk_cell BO.out 3 _ rfl
                  have o4 := blk_cell BO.out 4 _ rfl
                  have m3 := blk_cell X8.out 3 _ rfl
                  have m4 := blk_cell X8.out 4 _ rfl
                  have p0 := blk_cell P8.out 0 _ rfl
                  have p1 := blk_cell P8.out 1 _ rfl
                  by_cases g1 : o.lvl = lev
                  case neg =>
                    have g1' : (o.lvl == lev) = false := by simp [g1]
                    clear g1
                    go_wp2_with fail
                    exact ⟨⟨j + 1, by omega, by go_num, HJ2⟩, by simp [intOf]; omega⟩
                  have g1' : (o.lvl == lev) = true := by simp [g1]
                  have HG1 := hid g1
                  clear g1
                  cases g2 : decide (o.id ∈ ids) with
                  | false =>
                    rw [g2] at HIO
                    clear g2
                    go_wp2_with fail
                    refine HIO.out.mono ?_
                    rintro e w9 ⟨rfl, rfl⟩
                    go_wp2_with fail
                    exact ⟨⟨j + 1, by omega, by go_num, HJ2⟩, by simp [intOf]; omega⟩
                  | true =>
                    rw [g2] at HIO
                    have HG2 := hid (of_decide_eq_true g2)
                    clear g2
                    cases g3 : (Op.bytesLess o.low.toList x.high.toList || (o.low.toList == x.high.toList)) with
                    | false =>
                      go_wp2_with fail
                      refine HIO.out.mono ?_
                      rintro e w9 ⟨rfl, rfl⟩
                      go_wp2_with fail
                      exact ⟨⟨j + 1, by omega, by go_num, HJ2⟩, by simp [intOf]; omega⟩
                    | true =>
                      cases g4 : (Op.bytesLess x.low.toList o.high.toList || (x.low.toList == o.high.toList)) with
                      | false =>
                        go_wp2_with fail
                        refine HIO.out.mono ?_
                        rintro e w9 ⟨rfl, rfl⟩
                        go_wp2_with fail
                        exact ⟨⟨j + 1, by omega, by go_num, HJ2⟩, by simp [intOf]; omega⟩
                      | true => exact absurd (HWF.out.apart x HMX.out o HMO.out HNI.out HQ.out HG1.out HG2.out g3 g4) id
                · have hq' : (x.lvl == lev + 1) = false := by simp [hq]
                  clear hq
                  go_wp2_with fail
                  exact ⟨⟨k + 1, by omega, by go_num, by rw [HSTEP.out]; rfl, up_trans HB2.out HJ.out⟩, by simp [intOf]; omega⟩
              · have hlj' : ¬ (j : Int) < (ts.length : Int) := by omega
                go_wp2_with fail
                exact ⟨⟨k + 1, by omega, by go_num, by rw [HSTEP.out]; rfl, up_trans HB2.out HJ.out⟩, by simp [intOf]; omega⟩
      · have hlt' : ¬ (k : Int) < (ts.length : Int) := by omega
        obtain rfl : k = ts.length := by omega
        have P6 := hid (blk_up P4.out HB.out)
        have p1 := blk_cell P6.out 1 _ rfl
        have HEQ : Hid (cntI ts ids ts.length = ln) := by
          unfold Hid cntI
          rw [List.take_length, HWF.out.cnt, HN.out]
        have hpos : 0 < ln := by
          have h1 := HWF.out.pos
          have h2 := HN.out
          omega
        rw [HEQ.out]
        go_wp2_with fail
        go_ret
        exact ⟨rfl, UW4.out.trans (HB.out.mono (Nat.le_of_lt (blk_lt B4.out)))⟩
end Go.Proofs.Ytjdibpmckeifhaa
