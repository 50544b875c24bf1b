/- PickTells, walked. -/
import Derived.Test.YtjdibpmckeifhaaJAlive
import Derived.Test.YtjdibpmckeifhaaLOf
import Derived.Test.YtjdibpmckeifhaaRChk
import Derived.Test.YtjdibpmckeifhaaKSame
import Derived.Test.YtjdibpmckeifhaaRCho
namespace Go.Proofs.Ytjdibpmckeifhaa
open Go.RowKit
set_option linter.unusedVariables false
set_option linter.unusedSimpArgs false

set_option maxHeartbeats 4000000 in
set_option maxRecDepth 100000 in
theorem tells_walk (ts : List Me) (seq next : Int) (lev : Int) (f t : ByteArray) (va : Option Addr) (vn vc : Nat) (w : World) (hv : MetsR w (.slice va vn vc) ts) (hl : ts.length ≤ 4000000000000) :
    Calls Try.prog 3 #[.agg #[.slice va vn vc, .int .i64 seq, .int .i64 next], .int .i64 lev, .string f, .string t] w fun e w' => e = .returned (.bool true) ∧ Below w.heap.size w w' := by
  obtain ⟨a', c', e', hc1, hc2⟩ := hv.len
  simp only [Value.slice.injEq] at e'
  obtain ⟨rfl, rfl, rfl⟩ := e'
  have HV : Hid (MetsR w (.slice va ts.length vc) ts) := hv
  have HL : Hid (ts.length ≤ 4000000000000) := hl
  clear hv hl hc1 hc2
  obtain ⟨w0, hw0⟩ : ∃ w0, w0 = w.alloc (.cells #[.slice va ts.length vc, .int .i64 seq, .int .i64 next] 24) := ⟨_, rfl⟩
  have HW0 : Hid (w.alloc (.cells #[.slice va ts.length vc, .int .i64 seq, .int .i64 next] 24) = w0) := hw0.symm
  have U0 : Hid (Below w.heap.size w w0) := by rw [hw0]; exact up_alloc _ _
  have B0 : Hid (w0.heap[w.heap.size]? = some (.cells #[.slice va ts.length vc, .int .i64 seq, .int .i64 next] 24)) := by rw [hw0]; exact blk_new _ _
  clear hw0
  have MV := hid (HV.out.up U0.out)
  have BV := B0
  clear B0 HV
  have x0 := blk_cell BV.out 0 _ rfl
  have x1 := blk_cell BV.out 1 _ rfl
  have x2 := blk_cell BV.out 2 _ rfl
  have HOF := hid (of_any ts seq next va ts.length vc w0 MV.out HL.out)
  generalize hNB : w.heap.size = NB at *
  have HNB := hid hNB
  clear hNB
  go_enter Try.func3, Try.ntmps3
  go_upto_region 1 with fail
  rw [HW0.out, HNB.out]
  clear HW0
  go_wp2_with fail
  refine HOF.out.mono ?_
  rintro e w1 ⟨oa, on, oc, rfl, HO1, u1⟩
  have UW : Hid (Below NB w w1) := U0.out.trans (u1.out.mono (Nat.le_of_lt (blk_lt BV.out)))
  replace BV := hid (blk_up BV.out u1.out)
  replace MV := hid (MV.out.up u1.out)
  have MX : Hid (MetsR w1 (.slice oa on oc) ts) := HO1.out.read
  clear u1 HOF HO1 x0 x1 x2 U0
  clear w0
  have UA := up_alloc w1 (.cells #[.slice oa on oc, .int .i64 seq, .int .i64 next] 27)
  have BX := hid (blk_new w1 (.cells #[.slice oa on oc, .int .i64 seq, .int .i64 next] 27))
  obtain ⟨wA, hwA⟩ : ∃ wA, wA = w1.alloc (.cells #[.slice oa on oc, .int .i64 seq, .int .i64 next] 27) := ⟨_, rfl⟩
  have HWA : Hid (w1.alloc (.cells #[.slice oa on oc, .int .i64 seq, .int .i64 next] 27) = wA) := hwA.symm
  rw [← hwA] at UA BX
  clear hwA
  go_upto_region 2 with fail
  rw [HWA.out]
  clear HWA
  replace UW := hid (UW.out.trans (UA.mono (Nat.le_of_lt (blk_lt BV.out))))
  replace BV := hid (blk_up BV.out UA)
  replace MV := hid (MV.out.up UA)
  replace MX := hid (MX.out.up UA)
  clear UA
  generalize w1.heap.size = NX at *
  clear w1

  have x0 := blk_cell BX.out 0 _ rfl
  have x1 := blk_cell BX.out 1 _ rfl
  have x2 := blk_cell BX.out 2 _ rfl
  have HC2 := hid (full_any ts seq next oa on oc wA MX.out)
  go_wp2_with fail
  refine HC2.out.mono ?_
  rintro e w2 h2
  obtain ⟨fa, fn, fc, rfl, IF, u2⟩ := fullE_eq h2
  replace UW := hid (UW.out.trans (u2.out.mono (Nat.le_of_lt (blk_lt BV.out))))
  replace BV := hid (blk_up BV.out u2.out)
  replace MV := hid (MV.out.up u2.out)
  replace BX := hid (blk_up BX.out u2.out)
  replace MX := hid (MX.out.up u2.out)
  clear HC2 u2
  clear x0 x1 x2
  have x0 := blk_cell BV.out 0 _ rfl
  have x1 := blk_cell BV.out 1 _ rfl
  have x2 := blk_cell BV.out 2 _ rfl
  have HC3 := hid (refFull_any ts seq next va ts.length vc w2 MV.out)
  go_wp2_with fail
  refine HC3.out.mono ?_
  rintro e w3 h3
  obtain ⟨ga, gn, gc, rfl, IG, u3⟩ := fullE_eq h3
  replace UW := hid (UW.out.trans (u3.out.mono (Nat.le_of_lt (blk_lt BV.out))))
  replace BV := hid (blk_up BV.out u3.out)
  replace MV := hid (MV.out.up u3.out)
  replace BX := hid (blk_up BX.out u3.out)
  replace MX := hid (MX.out.up u3.out)
  replace IF := hid (IF.out.up u3.out)
  clear HC3 u3
  clear x0 x1 x2
  obtain ⟨CM, hCM⟩ : ∃ CM, CM = choM ts seq next := ⟨_, rfl⟩
  have HCM : Hid (choM ts seq next = CM) := hCM.symm
  clear hCM
  have HC40 := hid (choose_any ts seq next oa on oc w3 MX.out)
  rw [HCM.out] at HC40
  have x0 := blk_cell BX.out 0 _ rfl
  have x1 := blk_cell BX.out 1 _ rfl
  have x2 := blk_cell BX.out 2 _ rfl
  have HC4 := hid (HC40.out)
  go_wp2_with fail
  refine HC4.out.mono ?_
  rintro e w4 h4
  obtain ⟨ca, cn, cc, rfl, _, IC, u4⟩ := h4
  replace UW := hid (UW.out.trans (u4.out.mono (Nat.le_of_lt (blk_lt BV.out))))
  replace BV := hid (blk_up BV.out u4.out)
  replace MV := hid (MV.out.up u4.out)
  replace BX := hid (blk_up BX.out u4.out)
  replace MX := hid (MX.out.up u4.out)
  replace IF := hid (IF.out.up u4.out)
  replace IG := hid (IG.out.up u4.out)
  clear HC4 u4
  clear x0 x1 x2
  clear HC40
  have UA := up_alloc w4 (.cells #[.int .i64 CM.lev, .slice ca cn cc, .bool CM.bot] 36)
  have BC := hid (blk_new w4 (.cells #[.int .i64 CM.lev, .slice ca cn cc, .bool CM.bot] 36))
  obtain ⟨w4b, hwA⟩ : ∃ wz, wz = w4.alloc (.cells #[.int .i64 CM.lev, .slice ca cn cc, .bool CM.bot] 36) := ⟨_, rfl⟩
  have HWA : Hid (w4.alloc (.cells #[.int .i64 CM.lev, .slice ca cn cc, .bool CM.bot] 36) = w4b) := hwA.symm
  rw [← hwA] at UA BC
  clear hwA
  go_upto_region 5 with fail
  rw [HWA.out]
  clear HWA
  replace UW := hid (UW.out.trans (UA.mono (Nat.le_of_lt (blk_lt BV.out))))
  replace BV := hid (blk_up BV.out UA)
  replace MV := hid (MV.out.up UA)
  replace BX := hid (blk_up BX.out UA)
  replace MX := hid (MX.out.up UA)
  replace IF := hid (IF.out.up UA)
  replace IG := hid (IG.out.up UA)
  replace IC := hid (IC.out.up UA)
  clear UA
  generalize w4.heap.size = NC at *
  have HCD0 := hid (refChoose_any ts seq next va ts.length vc w4b MV.out)
  rw [HCM.out] at HCD0
  have x0 := blk_cell BV.out 0 _ rfl
  have x1 := blk_cell BV.out 1 _ rfl
  have x2 := blk_cell BV.out 2 _ rfl
  have HC5 := hid (HCD0.out)
  go_wp2_with fail
  refine HC5.out.mono ?_
  rintro e w5 h5
  obtain ⟨da, dn, dc, rfl, _, ID, u5⟩ := h5
  replace UW := hid (UW.out.trans (u5.out.mono (Nat.le_of_lt (blk_lt BV.out))))
  replace BV := hid (blk_up BV.out u5.out)
  replace MV := hid (MV.out.up u5.out)
  replace BX := hid (blk_up BX.out u5.out)
  replace MX := hid (MX.out.up u5.out)
  replace IF := hid (IF.out.up u5.out)
  replace IG := hid (IG.out.up u5.out)
  replace IC := hid (IC.out.up u5.out)
  replace BC := hid (blk_up BC.out u5.out)
  clear HC5 u5
  clear x0 x1 x2
  clear HCD0
  have UA := up_alloc w5 (.cells #[.int .i64 CM.lev, .slice da dn dc, .bool CM.bot] 39)
  have BD := hid (blk_new w5 (.cells #[.int .i64 CM.lev, .slice da dn dc, .bool CM.bot] 39))
  obtain ⟨w5b, hwA⟩ : ∃ wz, wz = w5.alloc (.cells #[.int .i64 CM.lev, .slice da dn dc, .bool CM.bot] 39) := ⟨_, rfl⟩
  have HWA : Hid (w5.alloc (.cells #[.int .i64 CM.lev, .slice da dn dc, .bool CM.bot] 39) = w5b) := hwA.symm
  rw [← hwA] at UA BD
  clear hwA
  go_upto_region 6 with fail
  rw [HWA.out]
  clear HWA
  replace UW := hid (UW.out.trans (UA.mono (Nat.le_of_lt (blk_lt BV.out))))
  replace BV := hid (blk_up BV.out UA)
  replace MV := hid (MV.out.up UA)
  replace BX := hid (blk_up BX.out UA)
  replace MX := hid (MX.out.up UA)
  replace IF := hid (IF.out.up UA)
  replace IG := hid (IG.out.up UA)
  replace IC := hid (IC.out.up UA)
  replace BC := hid (blk_up BC.out UA)
  replace ID := hid (ID.out.up UA)
  clear UA
  generalize w5.heap.size = ND at *
  have x0 := blk_cell BX.out 0 _ rfl
  have x1 := blk_cell BX.out 1 _ rfl
  have x2 := blk_cell BX.out 2 _ rfl
  have HC6 := hid (touch_any ts seq next lev f t oa on oc w5b MX.out)
  go_wp2_with fail
  refine HC6.out.mono ?_
  rintro e w6 h6
  obtain ⟨ta, tn, tc, rfl, IT, u6⟩ := tchE_eq h6
  replace UW := hid (UW.out.trans (u6.out.mono (Nat.le_of_lt (blk_lt BV.out))))
  replace BV := hid (blk_up BV.out u6.out)
  replace MV := hid (MV.out.up u6.out)
  replace BX := hid (blk_up BX.out u6.out)
  replace MX := hid (MX.out.up u6.out)
  replace IF := hid (IF.out.up u6.out)
  replace IG := hid (IG.out.up u6.out)
  replace IC := hid (IC.out.up u6.out)
  replace BC := hid (blk_up BC.out u6.out)
  replace ID := hid (ID.out.up u6.out)
  replace BD := hid (blk_up BD.out u6.out)
  clear HC6 u6
  clear x0 x1 x2
  have x0 := blk_cell BV.out 0 _ rfl
  have x1 := blk_cell BV.out 1 _ rfl
  have x2 := blk_cell BV.out 2 _ rfl
  have HC7 := hid (refTouch_any ts seq next lev f t va ts.length vc w6 MV.out)
  go_wp2_with fail
  refine HC7.out.mono ?_
  rintro e w7 h7
  obtain ⟨sa, sn, sc, rfl, IS, u7⟩ := tchE_eq h7
  replace UW := hid (UW.out.trans (u7.out.mono (Nat.le_of_lt (blk_lt BV.out))))
  replace BV := hid (blk_up BV.out u7.out)
  replace MV := hid (MV.out.up u7.out)
  replace BX := hid (blk_up BX.out u7.out)
  replace MX := hid (MX.out.up u7.out)
  replace IF := hid (IF.out.up u7.out)
  replace IG := hid (IG.out.up u7.out)
  replace IC := hid (IC.out.up u7.out)
  replace BC := hid (blk_up BC.out u7.out)
  replace ID := hid (ID.out.up u7.out)
  replace BD := hid (blk_up BD.out u7.out)
  replace IT := hid (IT.out.up u7.out)
  clear HC7 u7
  clear x0 x1 x2
  generalize errV ts seq next = EV at *
  have hEV : (EV == EV) = true := by simp
  have hER : (CM.err == CM.err) = true := by simp
  have hHS : (CM.has == CM.has) = true := by simp
  have HC8 := hid (same_eq (fulL ts seq next) _ _ w7 IF.out IG.out)
  go_wp2_with fail
  refine HC8.out.mono ?_
  rintro e w8 ⟨rfl, u8⟩
  replace UW := hid (UW.out.trans (u8.out.mono (Nat.le_of_lt (blk_lt BV.out))))
  replace BV := hid (blk_up BV.out u8.out)
  replace MV := hid (MV.out.up u8.out)
  replace BX := hid (blk_up BX.out u8.out)
  replace MX := hid (MX.out.up u8.out)
  replace IF := hid (IF.out.up u8.out)
  replace IG := hid (IG.out.up u8.out)
  replace IC := hid (IC.out.up u8.out)
  replace BC := hid (blk_up BC.out u8.out)
  replace ID := hid (ID.out.up u8.out)
  replace BD := hid (blk_up BD.out u8.out)
  replace IT := hid (IT.out.up u8.out)
  replace IS := hid (IS.out.up u8.out)
  clear HC8 u8
  have HCN := hid (num_any EV w8)
  go_wp2_with fail
  refine HCN.out.mono ?_
  rintro e w9 ⟨rfl, rfl⟩
  clear HCN
  have k0 := blk_cell BC.out 0 _ rfl
  have k1 := blk_cell BC.out 1 _ rfl
  have k2 := blk_cell BC.out 2 _ rfl
  have l0 := blk_cell BD.out 0 _ rfl
  have l1 := blk_cell BD.out 1 _ rfl
  have l2 := blk_cell BD.out 2 _ rfl
  have HCa := hid (samePlan_self CM.lev CM.ids CM.bot ca da cn cc dn dc w9 IC.out ID.out)
  go_wp2_with fail
  refine HCa.out.mono ?_
  rintro e w10 ⟨rfl, ua⟩
  replace UW := hid (UW.out.trans (ua.out.mono (Nat.le_of_lt (blk_lt BV.out))))
  replace BV := hid (blk_up BV.out ua.out)
  replace MV := hid (MV.out.up ua.out)
  replace BX := hid (blk_up BX.out ua.out)
  replace MX := hid (MX.out.up ua.out)
  replace IF := hid (IF.out.up ua.out)
  replace IG := hid (IG.out.up ua.out)
  replace IC := hid (IC.out.up ua.out)
  replace BC := hid (blk_up BC.out ua.out)
  replace ID := hid (ID.out.up ua.out)
  replace BD := hid (blk_up BD.out ua.out)
  replace IT := hid (IT.out.up ua.out)
  replace IS := hid (IS.out.up ua.out)
  clear HCa ua
  clear k0 k1 k2
  clear l0 l1 l2
  have HCN := hid (num_any CM.err w10)
  go_wp2_with fail
  refine HCN.out.mono ?_
  rintro e w11 ⟨rfl, rfl⟩
  clear HCN
  have HCb := hid (same_eq (tchM ts seq next lev f t) _ _ w11 IT.out IS.out)
  go_wp2_with fail
  refine HCb.out.mono ?_
  rintro e w12 ⟨rfl, ub⟩
  replace UW := hid (UW.out.trans (ub.out.mono (Nat.le_of_lt (blk_lt BV.out))))
  replace BV := hid (blk_up BV.out ub.out)
  replace MV := hid (MV.out.up ub.out)
  replace BX := hid (blk_up BX.out ub.out)
  replace MX := hid (MX.out.up ub.out)
  replace IF := hid (IF.out.up ub.out)
  replace IG := hid (IG.out.up ub.out)
  replace IC := hid (IC.out.up ub.out)
  replace BC := hid (blk_up BC.out ub.out)
  replace ID := hid (ID.out.up ub.out)
  replace BD := hid (blk_up BD.out ub.out)
  replace IT := hid (IT.out.up ub.out)
  replace IS := hid (IS.out.up ub.out)
  clear HCb ub
  have HCN := hid (num_any EV w12)
  go_wp2_with fail
  refine HCN.out.mono ?_
  rintro e w13 ⟨rfl, rfl⟩
  clear HCN
  have k0 := blk_cell BX.out 0 _ rfl
  have k1 := blk_cell BX.out 1 _ rfl
  have k2 := blk_cell BX.out 2 _ rfl
  have l0 := blk_cell BV.out 0 _ rfl
  have l1 := blk_cell BV.out 1 _ rfl
  have l2 := blk_cell BV.out 2 _ rfl
  have HCc := hid (alike_self ts seq next oa va on oc ts.length vc w13 MX.out MV.out)
  go_wp2_with fail
  refine HCc.out.mono ?_
  rintro e w14 ⟨rfl, uc⟩
  replace UW := hid (UW.out.trans (uc.out.mono (Nat.le_of_lt (blk_lt BV.out))))
  replace BV := hid (blk_up BV.out uc.out)
  replace MV := hid (MV.out.up uc.out)
  replace BX := hid (blk_up BX.out uc.out)
  replace MX := hid (MX.out.up uc.out)
  replace IF := hid (IF.out.up uc.out)
  replace IG := hid (IG.out.up uc.out)
  replace IC := hid (IC.out.up uc.out)
  replace BC := hid (blk_up BC.out uc.out)
  replace ID := hid (ID.out.up uc.out)
  replace BD := hid (blk_up BD.out uc.out)
  replace IT := hid (IT.out.up uc.out)
  replace IS := hid (IS.out.up uc.out)
  clear HCc uc
  clear k0 k1 k2
  clear l0 l1 l2
  have HCd := hid (alive_any w14)
  go_wp2_with fail
  refine HCd.out.mono ?_
  rintro e w15 ⟨rfl, ud⟩
  replace UW := hid (UW.out.trans (ud.out.mono (Nat.le_of_lt (blk_lt BV.out))))
  replace BV := hid (blk_up BV.out ud.out)
  replace MV := hid (MV.out.up ud.out)
  replace BX := hid (blk_up BX.out ud.out)
  replace MX := hid (MX.out.up ud.out)
  replace IF := hid (IF.out.up ud.out)
  replace IG := hid (IG.out.up ud.out)
  replace IC := hid (IC.out.up ud.out)
  replace BC := hid (blk_up BC.out ud.out)
  replace ID := hid (ID.out.up ud.out)
  replace BD := hid (blk_up BD.out ud.out)
  replace IT := hid (IT.out.up ud.out)
  replace IS := hid (IS.out.up ud.out)
  clear HCd ud
  go_wp2_with fail
  go_ret
  exact ⟨rfl, UW.out⟩
end Go.Proofs.Ytjdibpmckeifhaa
