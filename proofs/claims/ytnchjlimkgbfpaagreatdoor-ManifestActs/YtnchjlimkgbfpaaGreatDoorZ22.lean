/- The texts AChk2, ELaw, AWith, ASort, LInts, AWo, AApM, in this order. -/
import Derived.Test.YtnchjlimkgbfpaaGreatDoorZ21
import Derived.Deep.Cut
import Derived.Test.YtnchjlimkgbfpaaGreatDoorZ20
import Derived.Shelf.SlSortCmp.WholeK
import Derived.Shelf.SlSortCmp.NoneTotal

namespace Go.Proofs.YtnchjlimkgbfpaaGreatDoor
open Go.RowKit
set_option linter.unusedVariables false
set_option maxRecDepth 20000
set_option linter.unusedSimpArgs false
theorem turned_blk {w w' : World} {b i : Nat} {o : Obj} (h : w.mapTurned w' b) (hi : i ≠ b) (hb : w.heap[i]? = some o) : w'.heap[i]? = some o := by
  have := h.grown.block i (Array.getElem?_eq_some_iff.1 hb).1 (by simp [hi])
  rw [this]; exact hb
theorem cnt_len {w : World} {b : Nat} {ids : List Int} (h : CntW w b ids) : (Builtin.len_ #[200] 3 #[.map (some b)]).run Tryz.prog w = .ok (.int .i64 (ids.length : Int)) w := by
  obtain ⟨D, h1, h2, h3, h4⟩ := h
  rw [h1.len Tryz.underlying200 3, h3]
def ChainM (next : Int) (ts : List Me) (k : Nat) : Prop := ∀ j m, j < k → ts[j]? = some m → headM next (lastM ts j) m = true
theorem ret35 {a b : Int} (h : a = b) : Ending.returned (Value.int IntKind.i64 a) = Ending.returned (Value.int IntKind.i64 b) := by rw [h]
set_option maxHeartbeats 8000000 in
set_option maxRecDepth 100000 in
theorem check_anyE (ts : List Me) (seq next : Int) (a : Option Addr) (n c : Nat) (w : World) (hv : MetsR w (.slice a n c) ts) :
    Calls Tryz.prog 71 #[.agg #[.slice a n c, .int .i64 seq, .int .i64 next]] w fun e w' => e = .returned (.int .i64 (errV ts seq next)) ∧ Hid (Below w.heap.size w w') := by
  obtain ⟨a', c', e', hc1, hc2⟩ := hv.len
  simp only [Value.slice.injEq] at e'
  obtain ⟨rfl, rfl, rfl⟩ := e'
  have hl63 : (ts.length : Int) ≤ 9223372036854775807 := by unfold maxLen at hc2; omega
  have HV : Hid (MetsR w (.slice a ts.length c) ts) := hv
  clear hv hc1 hc2
  have HU0 : Hid (Below w.heap.size w (w.alloc (.cells #[.slice a ts.length c, .int .i64 seq, .int .i64 next] 39))) := up_alloc _ _
  have W1 : Hid (∀ w, Calls Tryz.prog 113 #[.int .i64 next, .int .i64 1, .int .i64 2147483647] w fun e w' => e = .returned (.bool (decide (1 ≤ next ∧ next ≤ 2147483647))) ∧ w' = w) := fun w => within_any _ _ _ _
  have W2 : Hid (∀ w, Calls Tryz.prog 113 #[.int .i64 seq, .int .i64 0, .int .i64 1099511627776] w fun e w' => e = .returned (.bool (decide (0 ≤ seq ∧ seq ≤ 1099511627776))) ∧ w' = w) := fun w => within_any _ _ _ _
  by_cases h1 : ts.length ≤ 256
  case neg =>
    have h1' : (256 : Int) < (ts.length : Int) := by omega
    have HE : Hid ((9 : Int) = errV ts seq next) := (errV_bad (fun q => h1 q.1)).symm
    go_enter Tryz.func71, Tryz.ntmps71
    go_wp2_with fail
    go_ret
    exact ⟨ret35 HE.out, HU0⟩
  have h1' : ¬ (256 : Int) < (ts.length : Int) := by omega
  by_cases h2 : 1 ≤ next ∧ next ≤ 2147483647
  case neg =>
    have HE : Hid ((9 : Int) = errV ts seq next) := (errV_bad (fun q => h2 ⟨q.2.1, q.2.2.1⟩)).symm
    rw [decide_eq_false h2] at W1
    go_enter Tryz.func71, Tryz.ntmps71
    go_wp2_with fail
    refine (W1.out _).mono ?_
    rintro e w1 ⟨rfl, rfl⟩
    go_wp2_with fail
    go_ret
    exact ⟨ret35 HE.out, HU0⟩
  rw [decide_eq_true h2] at W1
  by_cases h3 : 0 ≤ seq ∧ seq ≤ 1099511627776
  case neg =>
    have HE : Hid ((9 : Int) = errV ts seq next) := (errV_bad (fun q => h3 q.2.2.2)).symm
    rw [decide_eq_false h3] at W2
    go_enter Tryz.func71, Tryz.ntmps71
    go_wp2_with fail
    refine (W1.out _).mono ?_
    rintro e w1 ⟨rfl, rfl⟩
    go_wp2_with fail
    refine (W2.out _).mono ?_
    rintro e w1 ⟨rfl, rfl⟩
    go_wp2_with fail
    go_ret
    exact ⟨ret35 HE.out, HU0⟩
  rw [decide_eq_true h3] at W2
  have HH : Hid (HdrV ts.length seq next) := ⟨h1, h2.1, h2.2, h3.1, h3.2⟩
  have HB0 : Hid ((w.alloc (.cells #[.slice a ts.length c, .int .i64 seq, .int .i64 next] 39)).heap[w.heap.size]? = some (.cells #[.slice a ts.length c, .int .i64 seq, .int .i64 next] 39)) := blk_new _ _
  obtain ⟨w0, hw0⟩ : ∃ w0, w0 = w.alloc (.cells #[.slice a ts.length c, .int .i64 seq, .int .i64 next] 39) := ⟨_, rfl⟩
  have HW0 : Hid (w.alloc (.cells #[.slice a ts.length c, .int .i64 seq, .int .i64 next] 39) = w0) := hw0.symm
  rw [← hw0] at HB0 HU0
  have HSZ : Hid (w0.heap.size = w.heap.size + 1) := by rw [hw0]; unfold Hid; simp
  have x0 := blk_cell HB0.out 0 _ rfl
  have x1 := blk_cell HB0.out 1 _ rfl
  have x2 := blk_cell HB0.out 2 _ rfl
  clear hw0
  have HC0 : Hid (CntW (w0.alloc (.map #[] 0)) w0.heap.size (idsM (ts.take 0))) := KeyW.made _ w0
  have HU1 : Hid (Below w.heap.size w (w0.alloc (.map #[] 0))) := up_al HU0.out _
  have HB1 : Hid ((w0.alloc (.map #[] 0)).heap[w.heap.size]? = some (.cells #[.slice a ts.length c, .int .i64 seq, .int .i64 next] 39)) := blk_up HB0.out (up_alloc _ _)
  have HNB : Hid (w.heap.size + 1 = w0.heap.size) := HSZ.out.symm
  clear HU0 HB0 h1 h2 h3
  have hmm := @run_makeMap Tryz.prog
  go_enter Tryz.func71, Tryz.ntmps71
  go_upto_region 1 with fail
  rw [HW0.out]
  clear HW0
  go_wp2_with fail
  refine (W1.out _).mono ?_
  rintro e w1 ⟨rfl, hw1⟩
  subst hw1
  go_wp2_with fail
  refine (W2.out _).mono ?_
  rintro e w1 ⟨rfl, hw1⟩
  subst hw1
  clear W1 W2
  generalize hNM : w1.heap.size = NM at *
  have HNE : Hid (w.heap.size ≠ NM ∧ w.heap.size ≤ NM) := by have := HSZ.out; unfold Hid; omega
  have y0 := blk_cell HB1.out 0 _ rfl
  clear x0 x1 x2 HSZ HNB
  go_wp2_with fail
  go_loopw [26] (fun i wr => ∃ k : Nat, k ≤ ts.length ∧ i = .int .i64 k ∧ Hid (ChainM next ts k) ∧ Hid (Below w.heap.size w wr) ∧ Hid (wr.heap[w.heap.size]? = some (.cells #[.slice a ts.length c, .int .i64 seq, .int .i64 next] 39)) ∧ Hid (CntW wr NM (idsM (ts.take k)))) (fun i _ => ts.length - (intOf i).toNat)
  case atStart => exact ⟨0, Nat.zero_le _, rfl, fun j m hj => by omega, HU1, HB1, HC0⟩
  case round =>
    clear HC0 HU1 HB1 y0 hNM
    obtain ⟨k, hk, rfl, HCH, HB, HBX, HCN⟩ := hrel
    by_cases hlt : k < ts.length
    · have hlt' : (k : Int) < (ts.length : Int) := by omega
      obtain ⟨b, off, cap, m, e, hm, z0, z1, z2, z3, z4⟩ := (HV.out.up HB.out).at k hlt
      simp at e
      obtain ⟨rfl, rfl⟩ := e
      have HM : Hid (ts[k]? = some m) := hm
      clear hm
      have HMY : Hid (∀ W : World, Calls Tryz.prog 114 #[.agg #[.int .i64 m.id, .int .i64 m.lvl, .int .i64 m.cnt, .string m.low, .string m.high]] W fun e w' => e = .returned (.bool (mayM m)) ∧ Hid (Below W.heap.size W w')) := fun W => mayBe_any m W
      have UB : Hid (Below wr.heap.size wr (wr.alloc (meBox m))) := up_alloc _ _
      have BX : Hid (BoxM (wr.alloc (meBox m)) wr.heap.size m) := blk_new _ _
      unfold meBox at UB BX
      have HEH : Hid (headM next (lastM ts k) m = false → (9 : Int) = errV ts seq next) := fun h => (errV_head HM.out h).symm
      cases hmy : mayM m
      · rw [hmy] at HMY
        have HR : Hid ((9 : Int) = errV ts seq next) := HEH.out (by unfold headM; rw [hmy]; rfl)
        go_wp2_with fail
        refine (HMY.out _).mono ?_
        rintro e w2 ⟨rfl, u2⟩
        go_wp2_with fail
        go_ret
        exact ⟨ret35 HR.out, up_trans HB.out (up_trans UB.out u2.out)⟩
      have HMM : Hid (mayM m = true) := hmy
      rw [hmy] at HMY
      go_wp2_with fail
      refine (HMY.out _).mono ?_
      rintro e w2 ⟨rfl, u2⟩
      have U2 : Hid (Below wr.heap.size wr w2) := up_trans UB.out u2.out
      have HB2 : Hid (Below w.heap.size w w2) := up_trans HB.out U2.out
      have BX2 : Hid (BoxM w2 wr.heap.size m) := BX.out.up u2.out
      have HBX2 := hid (blk_up HBX.out U2.out)
      have HCN2 : Hid (CntW w2 NM (idsM (ts.take k))) := KeyW.up HCN.out U2.out
      have HNX : Hid (wr.heap.size ≠ NM) := by have := KeyW.lt HCN.out; unfold Hid; omega
      clear UB BX u2 U2 z0 z1 z2 z3 z4 HMY HB HBX HCN
      generalize wr.heap.size = NX at *
      clear wr
      obtain ⟨m0, m1, m2, m3, m4⟩ := BX2.out.cells
      have y0 := blk_cell HBX2.out 0 _ rfl
      have y2 := blk_cell HBX2.out 2 _ rfl
      by_cases hid1 : m.id < next
      case neg =>
        have hid2 : next ≤ m.id := by omega
        have HR : Hid ((9 : Int) = errV ts seq next) := HEH.out (by unfold headM; rw [HMM.out, decide_eq_false hid1]; rfl)
        go_wp2_with fail
        go_ret
        exact ⟨ret35 HR.out, HB2⟩
      have hid2 : ¬ next ≤ m.id := by omega
      have HID : Hid (In64 m.id) := by
        have := HMM.out
        rw [mayM_eq] at this
        simp only [Bool.and_eq_true, decide_eq_true_eq] at this
        unfold Hid In64; omega
      have HSL : Hid ((idsM (ts.take k)).length < maxLen) := by
        have := idsM_len (ts.take k)
        rw [List.length_take] at this
        unfold Hid maxLen
        omega
      have HSN : Hid (addId (idsM (ts.take k)) m.id = idsM (ts.take (k + 1))) := by
        rw [List.take_add_one, HM.out]
        exact (idsM_snoc _ _).symm
      have HCS : Hid (headM next (lastM ts k) m = true → ChainM next ts (k + 1)) := by
        intro h j q hj hq
        by_cases e : j = k
        · subst e
          rw [HM.out] at hq
          injection hq with hq
          subst hq
          exact h
        · exact HCH.out j q (by omega) hq
      generalize idsM (ts.take k) = ids at *
      have HST : Hid (∀ W : World, Below w.heap.size w W → W.heap[w.heap.size]? = some (.cells #[.slice (some ⟨b, off, none⟩) ts.length c, .int .i64 seq, .int .i64 next] 39) → ∀ W', CntW W' NM (addId ids m.id) → W.mapTurned W' NM → Below w.heap.size w W' ∧ W'.heap[w.heap.size]? = some (.cells #[.slice (some ⟨b, off, none⟩) ts.length c, .int .i64 seq, .int .i64 next] 39) ∧ CntW W' NM (idsM (ts.take (k + 1)))) := by
        intro W h1 h2 W' h3 h4
        refine ⟨h1.trans (turned_below h4 HNE.out.2 h1.size), turned_blk h4 HNE.out.1 h2, ?_⟩
        rw [← HSN.out]
        exact h3
      by_cases h0 : k = 0
      · subst h0
        have HC1 : Hid (ChainM next ts (0 + 1)) := HCS.out (by unfold headM lastM; rw [HMM.out, decide_eq_true hid1]; rfl)
        have HWR : Hid (∀ c : Int, In64 (wrap64 (c + 1))) := by intro c; unfold In64 wrap64; omega
        go_wp2_with fail
        go_quiet (fail)
        have HB3 := hid (up_trans HB2.out (up_drewN w2 nq))
        have HBX3 := hid (blk_up HBX2.out (up_drewN w2 nq))
        have HCN3 : Hid (CntW (w2.drewN nq) NM ids) := KeyW.up HCN2.out (up_drewN w2 nq)
        have mm0 := (BX2.out.up (up_drewN w2 nq)).cells.1
        clear HB2 HBX2 HCN2 BX2 m0 m1 m2 m3 m4 y0 y2 HEH HCS
        generalize w2.drewN nq = w3 at *
        go_wp2_with (first | (at_lookup; refine wpList_cnt_get _ rfl _ _ rfl NM ids rfl HCN3.out m.id HID.out rfl ?_; intro cc) | (at_mapUpdate; refine wpList_cnt_put _ rfl _ _ _ rfl NM ids rfl HCN3.out HSL.out m.id HID.out rfl _ (HWR.out _) rfl ?_; intro W4 hC hT))
        have HFI := hid (HST.out _ HB3.out HBX3.out _ hC hT)
        clear hC hT
        go_wp2_with fail
        exact ⟨⟨0 + 1, by omega, by go_num, HC1, HFI.out.1, HFI.out.2.1, HFI.out.2.2⟩, by simp [intOf]; omega⟩
      · obtain ⟨j, hj⟩ : ∃ j, k = j + 1 := ⟨k - 1, by omega⟩
        obtain ⟨b2, off2, cap2, y, e2, hy, t0, t1, t2, t3, t4⟩ := (HV.out.up HB2.out).at j (by omega)
        simp at e2
        obtain ⟨⟨rfl, rfl⟩, rfl⟩ := e2
        have hjj : (k : Int) - 1 = (j : Int) := by omega
        have hj0 : 0 < k := by omega
        have hwj : IntKind.i64.wrap (j : Int) = (j : Int) := by rw [IntKind.wrap_i64]; omega
        have hjl : (j : Int) < (ts.length : Int) := by omega
        have HLM : Hid (lastM ts k = some y) := by unfold Hid lastM; rw [if_neg (by omega), hj]; exact hy
        have HWR : Hid (∀ c : Int, In64 (wrap64 (c + 1))) := by intro c; unfold In64 wrap64; omega
        have HYM : Hid (leM y.low y.high = true) := by
          have := HCH.out j y (by omega) hy
          unfold headM at this
          simp only [Bool.and_eq_true] at this
          have := this.1
          rw [mayM_eq] at this
          simp only [Bool.and_eq_true] at this
          exact this.2.2.2.2.2
        have HHM : Hid (headM next (lastM ts k) m = folM y m) := by
          unfold Hid headM
          rw [HLM.out, HMM.out, decide_eq_true hid1, folM_eq y m HYM.out]
          rfl
        have HQ : Hid (∀ W : World, Calls Tryz.prog 115 #[.agg #[.int .i64 y.id, .int .i64 y.lvl, .int .i64 y.cnt, .string y.low, .string y.high], .agg #[.int .i64 m.id, .int .i64 m.lvl, .int .i64 m.cnt, .string m.low, .string m.high]] W fun e w' => e = .returned (.bool (folM y m)) ∧ Below W.heap.size W w') := fun W => follows_any y m W
        clear hj hy
        have m0 := cell_up m0
        have m1 := cell_up m1
        have m2 := cell_up m2
        have m3 := cell_up m3
        have m4 := cell_up m4
        have t0 := cell_up t0
        have t1 := cell_up t1
        have t2 := cell_up t2
        have t3 := cell_up t3
        have t4 := cell_up t4
        have y0 := cell_up y0
        have y2 := cell_up y2
        cases hfo : folM y m
        · have HR : Hid ((9 : Int) = errV ts seq next) := HEH.out (by rw [HHM.out, hfo])
          rw [hfo] at HQ
          clear hfo
          go_wp2_with fail
          refine wp_region_up (by kernel_rfl) (by kernel_rfl) ?_
          repeat (go_big_quiet_step ((go_at_call 115; refine calls_up (HQ.out _))))
          refine wpQuiet_nil ?_
          intro _ hw'
          obtain ⟨p, hw''⟩ := hw'
          subst hw''
          go_wp2_with fail
          go_ret
          exact ⟨ret35 HR.out, up_trans HB2.out p.up⟩
        · have HC1 : Hid (ChainM next ts (k + 1)) := HCS.out (by rw [HHM.out, hfo])
          rw [hfo] at HQ
          clear hfo
          go_wp2_with fail
          refine wp_region_up (by kernel_rfl) (by kernel_rfl) ?_
          repeat (go_big_quiet_step ((go_at_call 115; refine calls_up (HQ.out _))))
          refine wpQuiet_nil ?_
          intro _ hw'
          obtain ⟨p, hw''⟩ := hw'
          subst hw''
          have HB3 := hid (up_trans HB2.out p.up)
          have HBX3 := hid (blk_up HBX2.out p.up)
          have HCN3 : Hid (CntW p.val NM ids) := KeyW.up HCN2.out p.up
          have mm0 := (BX2.out.up p.up).cells.1
          clear HB2 HBX2 HCN2 BX2 m0 m1 m2 m3 m4 y0 y2 t0 t1 t2 t3 t4 HQ HEH HCS
          generalize p.val = w3 at *
          clear p
          go_wp2_with (first | (at_lookup; refine wpList_cnt_get _ rfl _ _ rfl NM ids rfl HCN3.out m.id HID.out rfl ?_; intro cc) | (at_mapUpdate; refine wpList_cnt_put _ rfl _ _ _ rfl NM ids rfl HCN3.out HSL.out m.id HID.out rfl _ (HWR.out _) rfl ?_; intro W4 hC hT))
          have HFI := hid (HST.out _ HB3.out HBX3.out _ hC hT)
          clear hC hT
          go_wp2_with fail
          exact ⟨⟨k + 1, by omega, by go_num, HC1, HFI.out.1, HFI.out.2.1, HFI.out.2.2⟩, by simp [intOf]; omega⟩
    · have hlt' : ¬ (k : Int) < (ts.length : Int) := by omega
      obtain rfl : k = ts.length := by omega
      rw [List.take_length] at HCN
      have y0 := blk_cell HBX.out 0 _ rfl
      have HIL : Hid ((idsM ts).length ≤ 256) := by have := idsM_len ts; have := HH.out.1; unfold Hid; omega
      by_cases hd : (idsM ts).length < ts.length
      · have HR : Hid ((9 : Int) = errV ts seq next) := (errV_twice hd).symm
        have hd' : ((idsM ts).length : Int) < (ts.length : Int) := by omega
        have hln := cnt_len HCN.out
        generalize idsM ts = ids at *
        go_wp2_with fail
        go_ret
        exact ⟨ret35 HR.out, HB⟩
      · have HR : Hid ((0 : Int) = errV ts seq next) := (errV_fine HH.out (fun k m hm => HCH.out k m (List.getElem?_eq_some_iff.1 hm).1 hm) hd).symm
        have hd' : ¬ ((idsM ts).length : Int) < (ts.length : Int) := by omega
        have hln := cnt_len HCN.out
        generalize idsM ts = ids at *
        go_wp2_with fail
        go_ret
        exact ⟨ret35 HR.out, HB⟩
end Go.Proofs.YtnchjlimkgbfpaaGreatDoor

namespace Go.Proofs.YtnchjlimkgbfpaaGreatDoor
open Go.RowKit
set_option linter.unusedVariables false
set_option maxRecDepth 20000
set_option linter.unusedSimpArgs false
theorem Tryz.info139 : (Tryz.prog.info? 139).map (fun i => (i.zero, i.size, i.bytes)) = some (some (.agg #[.int .i64 0, .int .i64 0, .int .i64 0, .string ⟨#[]⟩, .string ⟨#[]⟩]), 5, 56) := by kernel_rfl
theorem Tryz.info148 : (Tryz.prog.info? 148).map (fun i => (i.zero, i.size, i.bytes)) = some (some (.agg #[.int .i64 0, .int .i64 0, .int .i64 0, .string ⟨#[]⟩, .string ⟨#[]⟩]), 5, 56) := by kernel_rfl
theorem meRow_one (y : Me) : ∀ u ∈ meRow y, u.oneCell' = true := by
  intro u hu
  simp only [meRow, List.mem_cons, List.mem_nil_iff, or_false] at hu
  rcases hu with rfl | rfl | rfl | rfl | rfl <;> rfl
set_option maxHeartbeats 1000000 in
set_option maxRecDepth 100000 in
theorem sameMetas_self (l : List Me) (v u : Value) (w : World) (hv : MetsR w v l) (hu : MetsR w u l) :
    Calls Tryz.prog 48 #[v, u] w fun e w' => e = .returned (.bool true) ∧ ∃ d, w' = w.drewN d := by
  have HV : Hid (MetsR w v l) := hv
  have HU : Hid (MetsR w u l) := hu
  obtain ⟨a1, c1, rfl, g1, m1⟩ := hv.len
  obtain ⟨a2, c2, rfl, g2, m2⟩ := hu.len
  have hl63 : l.length ≤ 9223372036854775807 := by unfold maxLen at m1; omega
  clear hv hu g1 g2 m1 m2
  go_enter Tryz.func48, Tryz.ntmps48
  go_wp2_with fail
  go_loopw [5] (fun i wr => ∃ (k d : Nat), k ≤ l.length ∧ i = .int .i64 k ∧ wr = w.drewN d) (fun i _ => l.length - (intOf i).toNat)
  case atStart => exact ⟨0, 0, Nat.zero_le _, rfl, rfl⟩
  case round =>
    obtain ⟨k, d, hk, rfl, rfl⟩ := hrel
    by_cases hlt : k < l.length
    · have hlt' : (k : Int) < (l.length : Int) := by omega
      obtain ⟨b, off, cap, x, e, hx, x0, x1, x2, x3, x4⟩ := HV.out.at k hlt
      obtain ⟨b', off', cap', y, e', hy, y0, y1, y2, y3, y4⟩ := HU.out.at k hlt
      simp at e e'
      obtain ⟨rfl, rfl⟩ := e
      obtain ⟨rfl, rfl⟩ := e'
      obtain rfl : x = y := by rw [hx] at hy; simpa using hy
      clear hx hy
      go_wp2_with fail
      go_quiet (fail)
      go_wp2_with fail
      exact ⟨⟨k + 1, d + nq, by omega, by go_num, rfl⟩, by simp [intOf]; omega⟩
    · have hlt' : ¬ (k : Int) < (l.length : Int) := by omega
      go_wp2_with fail
      go_ret
      exact ⟨rfl, d, rfl⟩
set_option maxHeartbeats 1000000 in
set_option maxRecDepth 100000 in
theorem refMetas_own (l : List Me) (v : Value) (w : World) (hv : MetsR w v l) (hl : l.length ≤ 4000000000000) :
    Calls Tryz.prog 68 #[v] w fun e w' => ∃ a n c, e = .returned (.slice a n c) ∧ Hid (OwnR w' w.heap.size 139 5 (.slice a n c) (l.map meRow)) ∧ Hid (Below w.heap.size w w') := by
  have HV : Hid (Rws 5 w v (l.map meRow)) := hv
  have HB : Hid ((((([] : List (List Value)).length + (l.map meRow).length) + (([] : List (List Value)).length + (l.map meRow).length) / 4 + 192) * 56 ≤ 281474976710656) ∧ ([] : List (List Value)).length + (l.map meRow).length ≤ maxLen) := by
    unfold Hid
    rw [List.length_map]
    unfold maxLen
    simp only [List.length_nil]
    omega
  clear hv
  go_enter Tryz.func68, Tryz.ntmps68
  go_wp2_with (at_builtin; refine wpList_append_rows w rfl _ _ 26 139 _ 5 56 rfl Tryz.underlying26 Tryz.info139 rfl (by decide) w.heap.size (.slice none 0 0) [] rfl (OwnR.nil _ _ _ _) v (l.map meRow) rfl HV.out ?c1 HB.out.1 HB.out.2 (Nat.le_refl _) ?_)
  case c1 =>
    intro cs hcs u hu
    obtain ⟨s, _, rfl⟩ := List.mem_map.1 hcs
    exact meRow_one s u hu
  intro v' w' hown hg
  have HT : Hid (OwnR w' w.heap.size 139 5 v' (l.map meRow)) := hown
  have HU : Hid (Below w.heap.size w w') := (Below.refl _ _).grown hg (Nat.le_refl _) (by simp [Value.ownBlock])
  clear hown hg
  obtain ⟨a, c, e, _, _⟩ := (Rws.own HT.out).len
  obtain ⟨n, hn⟩ : ∃ n, n = (l.map meRow).length := ⟨_, rfl⟩
  rw [← hn] at e
  subst e
  clear hn
  go_wp2
  go_ret
  exact ⟨a, n, c, rfl, HT, HU⟩
set_option maxHeartbeats 2000000 in
set_option maxRecDepth 100000 in
theorem ofMetas_own (l : List Me) (v : Value) (w : World) (hv : MetsR w v l) (hl : l.length ≤ 4000000000000) :
    Calls Tryz.prog 31 #[v] w fun e w' => ∃ a c, e = .returned (.slice a l.length c) ∧ Hid (OwnR w' w.heap.size 148 5 (.slice a l.length c) (l.map meRow)) ∧ Hid (Below w.heap.size w w') := by
  have HV : Hid (MetsR w v l) := hv
  obtain ⟨a1, c1, rfl, g1, m1⟩ := hv.len
  have hl63 : l.length ≤ 9223372036854775807 := by unfold maxLen at m1; omega
  clear hv g1 m1
  go_enter Tryz.func31, Tryz.ntmps31
  go_wp2_with fail
  go_loopw [3, 4] (fun o i wr => ∃ (k : Nat) (ao : Option Addr) (co : Nat), k ≤ l.length ∧ i = .int .i64 k ∧ o = .slice ao k co ∧ Hid (OwnR wr w.heap.size 148 5 (.slice ao k co) ((l.take k).map meRow)) ∧ Hid (Below w.heap.size w wr)) (fun _ i _ => l.length - (intOf i).toNat)
  case atStart => exact ⟨0, none, 0, Nat.zero_le _, rfl, rfl, OwnR.nil _ _ _ _, Below.refl _ _⟩
  case round =>
    obtain ⟨k, ao, co, hk, rfl, rfl, HO, HB⟩ := hrel
    by_cases hlt : k < l.length
    · have hlt' : (k : Int) < (l.length : Int) := by omega
      obtain ⟨b, off, cap, x, e, hx, x0, x1, x2, x3, x4⟩ := (HV.out.up HB.out).at k hlt
      simp at e
      obtain ⟨rfl, rfl⟩ := e
      have HT : Hid ((l.take k).map meRow ++ [[.int .i64 x.id, .int .i64 x.lvl, .int .i64 x.cnt, .string x.low, .string x.high]] = (l.take (k + 1)).map meRow) := by
        unfold Hid; rw [List.take_add_one, hx, List.map_append]; rfl
      have HLT : Hid (((l.take k).map meRow).length = k) := by unfold Hid; rw [List.length_map, List.length_take]; omega
      have HC : Hid ((((l.take k).map meRow).length + 1 + (((l.take k).map meRow).length + 1) / 4 + 192) * 56 ≤ 281474976710656 ∧ ((l.take k).map meRow).length + 1 ≤ maxLen) := by
        unfold Hid; rw [HLT.out]; unfold maxLen; omega
      have HLT1 : Hid (((l.take (k + 1)).map meRow).length = k + 1) := by unfold Hid; rw [List.length_map, List.length_take]; omega
      have HO1 : Hid (∀ u ∈ ([.int .i64 x.id, .int .i64 x.lvl, .int .i64 x.cnt, .string x.low, .string x.high] : List Value), u.oneCell' = true) := meRow_one x
      have S0 : Hid (w.heap.size ≤ wr.heap.size) := HB.out.size
      clear hx
      generalize (l.take k).map meRow = T1 at *
      obtain ⟨T2, hT2⟩ : ∃ T2, (l.take (k + 1)).map meRow = T2 := ⟨_, rfl⟩
      rw [hT2] at HT HLT1
      have HT2 : Hid ((l.take (k + 1)).map meRow = T2) := hT2
      clear hT2
      go_wp2_with (at_builtin; refine wpList_append_row wr rfl _ _ 37 148 _ 5 56 rfl Tryz.underlying37 Tryz.info148 rfl (by decide) w.heap.size (.slice ao k co) T1 rfl HO.out [.int .i64 x.id, .int .i64 x.lvl, .int .i64 x.cnt, .string x.low, .string x.high] _ _ rfl rfl rfl rfl HO1.out HC.out.1 HC.out.2 S0.out ?_)
      intro v2 w2 O2 B2
      rw [HT.out] at O2
      have U2 : Hid (Below w.heap.size w w2) := HB.out.trans B2
      obtain ⟨a3, c3, e3, _, _⟩ := (Rws.own O2).len
      rw [HLT1.out] at e3
      subst e3
      have O3 : Hid (OwnR w2 w.heap.size 148 5 (.slice a3 (k + 1) c3) T2) := O2
      clear O2 B2 HO HT HLT HC HLT1
      go_wp2_with fail
      exact ⟨⟨k + 1, a3, c3, by omega, by go_num, rfl, by rw [HT2.out]; exact O3, U2⟩, by simp [intOf]; omega⟩
    · have hlt' : ¬ (k : Int) < (l.length : Int) := by omega
      obtain rfl : k = l.length := by omega
      rw [List.take_length] at HO
      go_wp2_with fail
      go_ret
      exact ⟨ao, co, rfl, HO, HB⟩
end Go.Proofs.YtnchjlimkgbfpaaGreatDoor

namespace Go.Proofs.YtnchjlimkgbfpaaGreatDoor
open Go.RowKit
set_option linter.unusedVariables false
set_option maxRecDepth 20000
set_option linter.unusedSimpArgs false
end Go.Proofs.YtnchjlimkgbfpaaGreatDoor

namespace Go.Proofs.YtnchjlimkgbfpaaGreatDoor
open Go.Shelf Go.RowKit Go.Lib Go.Sort
set_option linter.unusedVariables false
set_option maxRecDepth 20000
set_option linter.unusedSimpArgs false
end Go.Proofs.YtnchjlimkgbfpaaGreatDoor

namespace Go.Proofs.YtnchjlimkgbfpaaGreatDoor
open Go.RowKit
set_option linter.unusedVariables false
set_option maxRecDepth 20000
def irow (n : Int) : List Value := [.int .i64 n]
def IntsR (w : World) (v : Value) (l : List Int) : Prop := Rws 1 w v (l.map irow)
theorem IntsR.up {w w' : World} {v : Value} {l : List Int} (h : IntsR w v l) (hb : Below w.heap.size w w') : IntsR w' v l := Rws.up h hb
theorem IntsR.len {w : World} {v : Value} {l : List Int} (h : IntsR w v l) : ∃ a cap, v = .slice a l.length cap ∧ l.length ≤ cap ∧ cap ≤ maxLen := by
  obtain ⟨a, c, e, h1, h2⟩ := Rws.len h
  simp only [List.length_map] at e h1
  exact ⟨a, c, e, h1, h2⟩
theorem IntsR.at {w : World} {v : Value} {l : List Int} (h : IntsR w v l) (k : Nat) (hk : k < l.length) :
    ∃ b off cap n, v = .slice (some ⟨b, off, none⟩) l.length cap ∧ l[k]? = some n ∧ w.cell? ⟨b, off + k, none⟩ = some (.int .i64 n) := by
  obtain ⟨b, off, cap, e, _, _, hc⟩ := Rws.at h k (by simpa using hk)
  simp only [List.length_map] at e
  refine ⟨b, off, cap, l[k], e, by simp [hk], ?_⟩
  have := hc 0 (.int .i64 l[k]) (by simp [List.getD, hk, irow])
  simpa using this
theorem one_int (l : List Int) : ∀ cs ∈ l.map irow, ∀ u ∈ cs, u.oneCell' = true := by
  intro cs h u hu
  simp only [List.mem_map] at h
  obtain ⟨n, _, rfl⟩ := h
  simp only [irow, List.mem_singleton] at hu
  subst hu
  rfl
theorem Tryz.info3 : (Tryz.prog.info? 3).map (fun i => (i.zero, i.size, i.bytes)) = some (some (.int .i64 0), 1, 8) := by kernel_rfl
set_option maxRecDepth 100000 in
theorem copyInts_any (l : List Int) (v : Value) (w : World) (hv : IntsR w v l) (hl : l.length ≤ 17592186044416) :
    Calls Tryz.prog 32 #[v] w fun e w' => ∃ a c, e = .returned (.slice a l.length c) ∧ Hid (OwnR w' w.heap.size 3 1 (.slice a l.length c) (l.map irow)) ∧ Hid (Below w.heap.size w w') := by
  have HV : Hid (Rws 1 w v (l.map irow)) := hv
  have HC1 : Hid (((([] : List (List Value)).length + (l.map irow).length) + (([] : List (List Value)).length + (l.map irow).length) / 4 + 192) * 8 ≤ 281474976710656) := by
    unfold Hid; simp only [List.length_nil, List.length_map]; omega
  have HC2 : Hid (([] : List (List Value)).length + (l.map irow).length ≤ maxLen) := by
    unfold Hid maxLen; simp only [List.length_nil, List.length_map]; omega
  have H1 : Hid (∀ cs ∈ l.map irow, ∀ u ∈ cs, u.oneCell' = true) := one_int l
  have HN : Hid ((l.map irow).length = l.length) := List.length_map _
  obtain ⟨av, cv, rfl, _, _⟩ := hv.len
  clear hv
  generalize l.map irow = T at *
  go_enter Tryz.func32, Tryz.ntmps32
  go_wp2_with (at_builtin; refine wpList_append_rows _ rfl _ _ 29 3 _ 1 8 rfl Tryz.underlying29 Tryz.info3 rfl (by decide) w.heap.size (.slice none 0 0) [] rfl (OwnR.nil _ _ _ _) (.slice av l.length cv) T rfl HV.out H1.out HC1.out HC2.out (Nat.le_refl _) ?_)
  intro v1 w1 O1 G1
  have U1 : Hid (Below w.heap.size w w1) := (Below.refl _ _).grown G1 (Nat.le_refl _) (by simp [Value.ownBlock])
  have O1' : OwnR w1 w.heap.size 3 1 v1 T := O1
  obtain ⟨a1, c1, rfl, _, _⟩ := (Rws.own O1').len
  rw [HN.out] at O1' ⊢
  have O2 : Hid (OwnR w1 w.heap.size 3 1 (.slice a1 l.length c1) T) := O1'
  clear O1 G1 O1'
  go_wp2
  go_ret
  exact ⟨a1, c1, rfl, O2, U1⟩
end Go.Proofs.YtnchjlimkgbfpaaGreatDoor

namespace Go.Proofs.YtnchjlimkgbfpaaGreatDoor
open Go.RowKit
set_option linter.unusedVariables false
set_option maxRecDepth 20000
set_option linter.unusedSimpArgs false
theorem IntsR.elt {w : World} {v : Value} {l : List Int} (h : IntsR w v l) (k : Nat) (hk : k < l.length) : ∃ b off cap n, v = .slice (some ⟨b, off, none⟩) l.length cap ∧ l[k]? = some n ∧ w.cell? ⟨b, off + k, none⟩ = some (.int .i64 n) := by
  obtain ⟨b, off, cap, e, _, _, hc⟩ := Rws.at h k (by simpa using hk)
  simp only [List.length_map] at e
  have hg : (l.map irow).getD k [] = irow l[k] := by simp [List.getD, hk]
  rw [hg] at hc
  exact ⟨b, off, cap, l[k], e, by simp [hk], by simpa using hc 0 _ rfl⟩
end Go.Proofs.YtnchjlimkgbfpaaGreatDoor

namespace Go.Proofs.YtnchjlimkgbfpaaGreatDoor
open Go.RowKit
set_option linter.unusedVariables false
set_option maxRecDepth 20000
set_option linter.unusedSimpArgs false
theorem putM_perm (m : Me) : ∀ l, (putM m l).Perm (l ++ [m])
  | [] => .refl _
  | x :: r => by
    rw [putM]
    by_cases h : befM x m = true
    · rw [if_pos h]
      exact (putM_perm m r).cons x
    · rw [if_neg h]
      have : (m :: x :: r).Perm ((x :: r) ++ [m]) := (List.perm_append_singleton m (x :: r)).symm
      exact this
theorem putsM_perm : ∀ (add l : List Me), (putsM add l).Perm (l ++ add)
  | [], l => by simp [putsM]
  | m :: r, l => by
    rw [putsM]
    have h1 := putsM_perm r (putM m l)
    have h2 := (putM_perm m l).append_right r
    refine h1.trans (h2.trans ?_)
    simp
theorem errV_cases (ts : List Me) (s n : Int) : errV ts s n = 0 ∨ errV ts s n = 9 := by
  unfold errV
  split
  · exact .inl rfl
  · exact .inr rfl
theorem errV_zero {ts : List Me} {s n : Int} : errV ts s n = 0 ↔ chkV ts s n = true := by
  unfold errV
  constructor
  · intro h
    by_cases q : chkV ts s n = true
    · exact q
    · rw [if_neg q] at h; cases h
  · intro h; rw [if_pos h]
theorem chk_len {ts : List Me} {s n : Int} (h : errV ts s n = 0) : ts.length ≤ 256 := by
  have := errV_zero.1 h
  unfold chkV at this
  rw [Bool.and_eq_true, decide_eq_true_eq] at this
  exact this.1.1
end Go.Proofs.YtnchjlimkgbfpaaGreatDoor
