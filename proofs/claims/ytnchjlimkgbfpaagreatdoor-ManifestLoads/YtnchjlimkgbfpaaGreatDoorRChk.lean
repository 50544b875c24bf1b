
import Derived.Test.YtnchjlimkgbfpaaGreatDoorE16
import Derived.Deep.CutRange
namespace Go.Proofs.YtnchjlimkgbfpaaGreatDoor
open Go.RowKit
set_option linter.unusedVariables false
set_option maxRecDepth 20000
set_option linter.unusedSimpArgs false
set_option maxHeartbeats 8000000 in
set_option maxRecDepth 100000 in
theorem refCheck_anyE (ts : List Me) (seq next : Int) (a : Option Addr) (n c : Nat) (w : World) (hv : MetsR w (.slice a n c) ts) :
    Calls Tryz.prog 26 #[.agg #[.slice a n c, .int .i64 seq, .int .i64 next]] w fun e w' => e = .returned (.int .i64 (errV ts seq next)) ∧ Hid (Below w.heap.size w w') := by
  obtain ⟨a', c', e', hc1, hc2⟩ := hv.len
  simp only [Value.slice.injEq] at e'
  obtain ⟨rfl, rfl, rfl⟩ := e'
  have hl63 : (ts.length : Int) ≤ 9223372036854775807 := by unfold maxLen at hc2; omega
  have HV : Hid (MetsR w (.slice a ts.length c) ts) := hv
  clear hv hc1 hc2
  have HU0 : Hid (Below w.heap.size w (w.alloc (.cells #[.slice a ts.length c, .int .i64 seq, .int .i64 next] 28))) := up_alloc _ _
  by_cases h0 : ts.length ≤ 256
  case neg =>
    have h0' : (256 : Int) < (ts.length : Int) := by omega
    have HE : Hid ((9 : Int) = errV ts seq next) := (errV_bad (fun q => h0 q.1)).symm
    go_enter Tryz.func26, Tryz.ntmps26
    go_wp2_with fail
    go_ret
    exact ⟨ret35 HE.out, HU0⟩
  have h0' : ¬ (256 : Int) < (ts.length : Int) := by omega
  by_cases h1 : 1 ≤ next
  case neg =>
    have h1' : next < 1 := by omega
    have HE : Hid ((9 : Int) = errV ts seq next) := (errV_bad (fun q => h1 q.2.1)).symm
    go_enter Tryz.func26, Tryz.ntmps26
    go_wp2_with fail
    go_ret
    exact ⟨ret35 HE.out, HU0⟩
  have h1' : ¬ next < 1 := by omega
  by_cases h2 : next ≤ 2147483647
  case neg =>
    have h2' : 2147483647 < next := by omega
    have HE : Hid ((9 : Int) = errV ts seq next) := (errV_bad (fun q => h2 q.2.2.1)).symm
    go_enter Tryz.func26, Tryz.ntmps26
    go_wp2_with fail
    go_ret
    exact ⟨ret35 HE.out, HU0⟩
  have h2' : ¬ 2147483647 < next := by omega
  by_cases h3 : 0 ≤ seq
  case neg =>
    have h3' : seq < 0 := by omega
    have HE : Hid ((9 : Int) = errV ts seq next) := (errV_bad (fun q => h3 q.2.2.2.1)).symm
    go_enter Tryz.func26, Tryz.ntmps26
    go_wp2_with fail
    go_ret
    exact ⟨ret35 HE.out, HU0⟩
  have h3' : ¬ seq < 0 := by omega
  by_cases h4 : seq ≤ 1099511627776
  case neg =>
    have h4' : 1099511627776 < seq := by omega
    have HE : Hid ((9 : Int) = errV ts seq next) := (errV_bad (fun q => h4 q.2.2.2.2)).symm
    go_enter Tryz.func26, Tryz.ntmps26
    go_wp2_with fail
    go_ret
    exact ⟨ret35 HE.out, HU0⟩
  have h4' : ¬ 1099511627776 < seq := by omega
  have HH : Hid (ts.length ≤ 256 ∧ 1 ≤ next ∧ next ≤ 2147483647 ∧ 0 ≤ seq ∧ seq ≤ 1099511627776) := ⟨h0, h1, h2, h3, h4⟩
  have HB0 : Hid ((w.alloc (.cells #[.slice a ts.length c, .int .i64 seq, .int .i64 next] 28)).heap[w.heap.size]? = some (.cells #[.slice a ts.length c, .int .i64 seq, .int .i64 next] 28)) := blk_new _ _
  clear h0 h1 h2 h3 h4
  go_enter Tryz.func26, Tryz.ntmps26
  go_wp2_with fail
  go_loopw [3] (fun i wr => ∃ k : Nat, k ≤ ts.length ∧ i = .int .i64 k ∧ Hid (errV ts seq next = if allM next (ts.take k) (ts.drop k) = true then 0 else 9) ∧ Hid (Below w.heap.size w wr) ∧ Hid (wr.heap[w.heap.size]? = some (.cells #[.slice a ts.length c, .int .i64 seq, .int .i64 next] 28))) (fun i _ => ts.length - (intOf i).toNat)
  case atStart => exact ⟨0, Nat.zero_le _, rfl, errV_start HH.out, HU0, HB0⟩
  case round =>
    clear HU0 HB0
    obtain ⟨k, hk, rfl, HK, HB, HBX⟩ := hrel
    have q0 := blk_cell HBX.out 0 _ rfl
    by_cases hlt : k < ts.length
    · have hlt' : (k : Int) < (ts.length : Int) := by omega
      obtain ⟨b, off, cap, m, e, hm, z0, z1, z2, z3, z4⟩ := (HV.out.up HB.out).at k hlt
      simp at e
      obtain ⟨rfl, rfl⟩ := e
      have HM : Hid (ts[k]? = some m) := hm
      clear hm
      have UB : Hid (Below wr.heap.size wr (wr.alloc (meObj m))) := up_alloc _ _
      have BX : Hid ((wr.alloc (meObj m)).heap[wr.heap.size]? = some (meObj m)) := blk_new _ _
      obtain ⟨w2, hw2⟩ : ∃ w2, w2 = wr.alloc (meObj m) := ⟨_, rfl⟩
      have HW2 : Hid (wr.alloc (.cells #[.int .i64 m.id, .int .i64 m.lvl, .int .i64 m.cnt, .string m.low, .string m.high] 139) = w2) := hw2.symm
      rw [← hw2] at UB BX
      clear hw2
      have HB2 : Hid (Below w.heap.size w w2) := up_trans HB.out UB.out
      have HBX2 := hid (blk_up HBX.out UB.out)
      have HRB : Hid (MetsR w2 (.slice (some ⟨b, off, none⟩) ts.length c) ts) := HV.out.up HB2.out
      go_upto_region 7 with fail
      rw [HW2.out]
      clear HW2 UB HB HBX q0 z0 z1 z2 z3 z4
      generalize wr.heap.size = NX at *
      clear wr
      unfold meObj at BX
      go_cut [99] from 42 to 99 (fun v wx => v = .bool (!(headM next (lastM ts k) m)) ∧ Hid (Below w2.heap.size w2 wx))
      case first =>
        have HMY : Hid (∀ W : World, Calls Tryz.prog 65 #[.agg #[.int .i64 m.id, .int .i64 m.lvl, .int .i64 m.cnt, .string m.low, .string m.high]] W fun e w' => e = .returned (.bool (mayM m)) ∧ Below W.heap.size W w') := fun W => refMayP m _ rfl W
        have m0 := cell_up (blk_cell BX.out 0 _ rfl)
        have m1 := cell_up (blk_cell BX.out 1 _ rfl)
        have m2 := cell_up (blk_cell BX.out 2 _ rfl)
        have m3 := cell_up (blk_cell BX.out 3 _ rfl)
        have m4 := cell_up (blk_cell BX.out 4 _ rfl)
        have y0 := cell_up (blk_cell HBX2.out 0 _ rfl)
        have y2 := cell_up (blk_cell HBX2.out 2 _ rfl)
        cases hmy : mayM m
        · have HR : Hid (headM next (lastM ts k) m = false) := by unfold Hid headM; rw [hmy]; rfl
          rw [hmy] at HMY
          clear hmy
          refine wp_region_up (by kernel_rfl) (by kernel_rfl) ?_
          repeat (go_big_quiet_step ((first | (go_at_call 65; refine calls_up (HMY.out _)))))
          refine wpQuiet_nil ?_
          intro _ hw'
          obtain ⟨p, hw''⟩ := hw'
          subst hw''
          go_wp2_with fail
          go_meet
          case rel => exact ⟨by rw [HR.out]; rfl, p.up⟩
        rw [hmy] at HMY
        by_cases hn : m.id < next
        case neg =>
          have hn' : next ≤ m.id := by omega
          have HR : Hid (headM next (lastM ts k) m = false) := by unfold Hid headM; rw [hmy, decide_eq_false hn]; rfl
          clear hmy
          refine wp_region_up (by kernel_rfl) (by kernel_rfl) ?_
          repeat (go_big_quiet_step ((first | (go_at_call 65; refine calls_up (HMY.out _)))))
          refine wpQuiet_nil ?_
          intro _ hw'
          obtain ⟨p, hw''⟩ := hw'
          subst hw''
          go_wp2_with fail
          go_meet
          case rel => exact ⟨by rw [HR.out]; rfl, p.up⟩
        have hn' : ¬ next ≤ m.id := by omega
        by_cases h0 : k = 0
        · subst h0
          have HR : Hid (headM next (lastM ts 0) m = true) := by unfold Hid headM lastM; rw [hmy, decide_eq_true hn]; rfl
          clear hmy
          refine wp_region_up (by kernel_rfl) (by kernel_rfl) ?_
          repeat (go_big_quiet_step ((first | (go_at_call 65; refine calls_up (HMY.out _)))))
          refine wpQuiet_nil ?_
          intro _ hw'
          obtain ⟨p, hw''⟩ := hw'
          subst hw''
          go_wp2_with fail
          go_meet
          case rel => exact ⟨by rw [HR.out]; rfl, p.up⟩
        obtain ⟨j, hj⟩ : ∃ j, k = j + 1 := ⟨k - 1, by omega⟩
        obtain ⟨b2, off2, cap2, y, e2, hy, t0, t1, t2, t3, t4⟩ := HRB.out.at j (by omega)
        simp at e2
        obtain ⟨⟨rfl, rfl⟩, rfl⟩ := e2
        have hjj : (k : Int) - 1 = (j : Int) := by omega
        have hj0 : 0 < k := by omega
        have hwj : IntKind.i64.wrap (j : Int) = (j : Int) := by rw [IntKind.wrap_i64]; omega
        have hjl : (j : Int) < (ts.length : Int) := by omega
        have HLM : Hid (lastM ts k = some y) := by unfold Hid lastM; rw [if_neg (by omega), hj]; exact hy
        have HHM : Hid (headM next (lastM ts k) m = (befM y m && !(decide (0 < m.lvl) && (decide (y.lvl = m.lvl) && leM m.low y.high)))) := by
          unfold Hid headM
          rw [HLM.out, hmy, decide_eq_true hn]
          rfl
        have HQ : Hid (∀ W : World, Calls Tryz.prog 66 #[.agg #[.int .i64 y.id, .int .i64 y.lvl, .int .i64 y.cnt, .string y.low, .string y.high], .agg #[.int .i64 m.id, .int .i64 m.lvl, .int .i64 m.cnt, .string m.low, .string m.high]] W fun e w' => e = .returned (.bool (befM y m)) ∧ Below W.heap.size W w') := fun W => refBefP y m _ rfl W
        have t0 := cell_up t0
        have t1 := cell_up t1
        have t2 := cell_up t2
        have t3 := cell_up t3
        have t4 := cell_up t4
        clear hj hy hmy HLM
        cases hbf : befM y m
        · have HR : Hid (headM next (lastM ts k) m = false) := by unfold Hid; rw [HHM.out, hbf]; rfl
          rw [hbf] at HQ
          clear hbf HHM
          refine wp_region_up (by kernel_rfl) (by kernel_rfl) ?_
          repeat (go_big_quiet_step ((first | (go_at_call 65; refine calls_up (HMY.out _)) | (go_at_call 66; refine calls_up (HQ.out _)))))
          refine wpQuiet_nil ?_
          intro _ hw'
          obtain ⟨p, hw''⟩ := hw'
          subst hw''
          go_wp2_with fail
          go_meet
          case rel => exact ⟨by rw [HR.out]; rfl, p.up⟩
        rw [hbf] at HQ HHM
        clear hbf
        by_cases hl0 : 0 < m.lvl
        case neg =>
          have HR : Hid (headM next (lastM ts k) m = true) := by unfold Hid; rw [HHM.out, decide_eq_false hl0]; rfl
          clear HHM
          refine wp_region_up (by kernel_rfl) (by kernel_rfl) ?_
          repeat (go_big_quiet_step ((first | (go_at_call 65; refine calls_up (HMY.out _)) | (go_at_call 66; refine calls_up (HQ.out _)))))
          refine wpQuiet_nil ?_
          intro _ hw'
          obtain ⟨p, hw''⟩ := hw'
          subst hw''
          go_wp2_with fail
          go_meet
          case rel => exact ⟨by rw [HR.out]; rfl, p.up⟩
        by_cases hll : y.lvl = m.lvl
        case neg =>
          have hll' : (y.lvl == m.lvl) = false := by simp [hll]
          have HR : Hid (headM next (lastM ts k) m = true) := by unfold Hid; rw [HHM.out, decide_eq_true hl0, decide_eq_false hll]; rfl
          clear HHM
          refine wp_region_up (by kernel_rfl) (by kernel_rfl) ?_
          repeat (go_big_quiet_step ((first | (go_at_call 65; refine calls_up (HMY.out _)) | (go_at_call 66; refine calls_up (HQ.out _)))))
          refine wpQuiet_nil ?_
          intro _ hw'
          obtain ⟨p, hw''⟩ := hw'
          subst hw''
          go_wp2_with fail
          go_meet
          case rel => exact ⟨by rw [HR.out]; rfl, p.up⟩
        have hll' : (y.lvl == m.lvl) = true := by simp [hll]
        cases hle : leM m.low y.high
        · have HR : Hid (headM next (lastM ts k) m = true) := by unfold Hid; rw [HHM.out, decide_eq_true hl0, decide_eq_true hll, hle]; rfl
          have hle' : (Op.bytesLess m.low.toList y.high.toList || (m.low.toList == y.high.toList)) = false := hle
          clear HHM hle hll
          refine wp_region_up (by kernel_rfl) (by kernel_rfl) ?_
          repeat (go_big_quiet_step ((first | (go_at_call 65; refine calls_up (HMY.out _)) | (go_at_call 66; refine calls_up (HQ.out _)))))
          refine wpQuiet_nil ?_
          intro _ hw'
          obtain ⟨p, hw''⟩ := hw'
          subst hw''
          go_wp2_with fail
          go_meet
          case rel => exact ⟨by rw [HR.out]; rfl, p.up⟩
        · have HR : Hid (headM next (lastM ts k) m = false) := by unfold Hid; rw [HHM.out, decide_eq_true hl0, decide_eq_true hll, hle]; rfl
          have hle' : (Op.bytesLess m.low.toList y.high.toList || (m.low.toList == y.high.toList)) = true := hle
          clear HHM hle hll
          refine wp_region_up (by kernel_rfl) (by kernel_rfl) ?_
          repeat (go_big_quiet_step ((first | (go_at_call 65; refine calls_up (HMY.out _)) | (go_at_call 66; refine calls_up (HQ.out _)))))
          refine wpQuiet_nil ?_
          intro _ hw'
          obtain ⟨p, hw''⟩ := hw'
          subst hw''
          go_wp2_with fail
          go_meet
          case rel => exact ⟨by rw [HR.out]; rfl, p.up⟩
      case rest =>
        obtain ⟨rfl, U3⟩ := hcut
        have HB3 : Hid (Below w.heap.size w wc) := up_trans HB2.out U3.out
        have HBX3 := hid (blk_up HBX2.out U3.out)
        have BX3 := hid (blk_up BX.out U3.out)
        have HR3 : Hid (MetsR wc (.slice (some ⟨b, off, none⟩) ts.length c) ts) := HRB.out.up U3.out
        clear HB2 HBX2 BX HRB U3
        cases hh : headM next (lastM ts k) m
        · have HE : Hid ((9 : Int) = errV ts seq next) := (errV_ends HK.out HM.out (.inl hh)).symm
          go_wp2_with fail
          go_ret
          exact ⟨ret35 HE.out, HB3⟩
        have HHH : Hid (headM next (lastM ts k) m = true) := hh
        clear hh
        have q0 := blk_cell HBX3.out 0 _ rfl
        have p0 := blk_cell BX3.out 0 _ rfl
        go_wp2_with fail
        go_loopw [5] (fun q wx => ∃ i : Nat, i ≤ k ∧ q = .int .i64 (i : Int) ∧ Hid (∀ j p, j < i → ts[j]? = some p → p.id ≠ m.id) ∧ ∃ d, wx = wc.drewN d) (fun q _ => k - (intOf q).toNat)
        case atStart => exact ⟨0, by omega, rfl, fun j p hj => by omega, 0, rfl⟩
        case round =>
          obtain ⟨i, hi, rfl, HD, d, rfl⟩ := hrel
          by_cases hik : i < k
          · have hik' : (i : Int) < (k : Int) := by omega
            have hil : (i : Int) < (ts.length : Int) := by omega
            obtain ⟨b2, off2, cap2, y, e2, hy, t0, t1, t2, t3, t4⟩ := HR3.out.at i (by omega)
            simp at e2
            obtain ⟨⟨rfl, rfl⟩, rfl⟩ := e2
            have HY : Hid (ts[i]? = some y) := hy
            clear hy
            by_cases hid1 : y.id = m.id
            · have hid2 : (y.id == m.id) = true := by simp [hid1]
              have HE : Hid ((9 : Int) = errV ts seq next) := by
                refine (errV_ends HK.out HM.out (.inr ?_)).symm
                rw [List.all_eq_false]
                refine ⟨y, ?_, by simp [hid1]⟩
                rw [List.mem_take_iff_getElem]
                have q := List.getElem?_eq_some_iff.1 HY.out
                exact ⟨i, by have := q.1; omega, q.2⟩
              clear hid1
              go_wp2_with fail
              go_quiet (fail)
              go_wp2_with fail
              go_ret
              exact ⟨ret35 HE.out, below_drewN (below_drewN HB3.out d) nq⟩
            · have hid2 : (y.id == m.id) = false := by simp [hid1]
              have HD2 : Hid (∀ j p, j < i + 1 → ts[j]? = some p → p.id ≠ m.id) := by
                intro j p hj hp
                by_cases e : j = i
                · subst e
                  rw [HY.out] at hp
                  injection hp with hp
                  subst hp
                  exact hid1
                · exact HD.out j p (by omega) hp
              go_wp2_with fail
              go_quiet (fail)
              go_wp2_with fail
              exact ⟨⟨i + 1, by omega, by go_num, HD2, d + nq, rfl⟩, by simp [intOf]; omega⟩
          · have hik' : ¬ (i : Int) < (k : Int) := by omega
            obtain rfl : i = k := by omega
            have HK2 : Hid (errV ts seq next = if allM next (ts.take (i + 1)) (ts.drop (i + 1)) = true then 0 else 9) := by
              refine errV_goes HK.out HM.out HHH.out ?_
              rw [List.all_eq_true]
              intro p hp
              rw [List.mem_take_iff_getElem] at hp
              obtain ⟨j, hj, rfl⟩ := hp
              simpa using HD.out j _ (by omega) (List.getElem?_eq_getElem (by omega))
            go_wp2_with fail
            exact ⟨⟨i + 1, by omega, by go_num, HK2, below_drewN HB3.out d, blk_up HBX3.out (up_drewN _ _)⟩, by simp [intOf]; omega⟩
    · have hlt' : ¬ (k : Int) < (ts.length : Int) := by omega
      have HE : Hid ((0 : Int) = errV ts seq next) := (errV_done HK.out (by omega)).symm
      go_wp2_with fail
      go_ret
      exact ⟨ret35 HE.out, HB⟩
end Go.Proofs.YtnchjlimkgbfpaaGreatDoor
