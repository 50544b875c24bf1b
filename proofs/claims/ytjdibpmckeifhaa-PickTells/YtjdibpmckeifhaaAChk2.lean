/- The program's Check. -/
import Derived.Test.YtjdibpmckeifhaaAChk
import Derived.Deep.Cut
namespace Go.Proofs.Ytjdibpmckeifhaa
open Go.RowKit
set_option linter.unusedVariables false
set_option linter.unusedSimpArgs false

theorem turned_blk {w w' : World} {b i : Nat} {o : Obj} (h : w.mapTurned w' b) (hi : i ≠ b) (hb : w.heap[i]? = some o) : w'.heap[i]? = some o := by
  have := h.grown.block i (Array.getElem?_eq_some_iff.1 hb).1 (by simp [hi])
  rw [this]; exact hb
theorem cnt_len {w : World} {b : Nat} {ids : List Int} (h : CntW w b ids) : (Builtin.len_ #[74] 3 #[.map (some b)]).run Try.prog w = .ok (.int .i64 (ids.length : Int)) w := by
  obtain ⟨D, h1, h2, h3, h4⟩ := h
  rw [h1.len Try.underlying74 3, h3]
def ChainM (next : Int) (ts : List Me) (k : Nat) : Prop := ∀ j m, j < k → ts[j]? = some m → headM next (lastM ts j) m = true
theorem ret35 {a b : Int} (h : a = b) : Ending.returned (Value.int IntKind.i64 a) = Ending.returned (Value.int IntKind.i64 b) := by rw [h]

set_option maxHeartbeats 8000000 in
set_option maxRecDepth 100000 in
theorem check_any (ts : List Me) (seq next : Int) (a : Option Addr) (n c : Nat) (w : World) (hv : MetsR w (.slice a n c) ts) :
    Calls Try.prog 23 #[.agg #[.slice a n c, .int .i64 seq, .int .i64 next]] w fun e w' => e = .returned (.int .i64 (errV ts seq next)) ∧ Hid (Below w.heap.size w w') := by
  obtain ⟨a', c', e', hc1, hc2⟩ := hv.len
  simp only [Value.slice.injEq] at e'
  obtain ⟨rfl, rfl, rfl⟩ := e'
  have hl63 : (ts.length : Int) ≤ 9223372036854775807 := by unfold maxLen at hc2; omega
  have HV : Hid (MetsR w (.slice a ts.length c) ts) := hv
  clear hv hc1 hc2
  have HU0 : Hid (Below w.heap.size w (w.alloc (.cells #[.slice a ts.length c, .int .i64 seq, .int .i64 next] 27))) := up_alloc _ _
  have W1 : Hid (∀ w, Calls Try.prog 38 #[.int .i64 next, .int .i64 1, .int .i64 2147483647] w fun e w' => e = .returned (.bool (decide (1 ≤ next ∧ next ≤ 2147483647))) ∧ w' = w) := fun w => within_any _ _ _ _
  have W2 : Hid (∀ w, Calls Try.prog 38 #[.int .i64 seq, .int .i64 0, .int .i64 1099511627776] w fun e w' => e = .returned (.bool (decide (0 ≤ seq ∧ seq ≤ 1099511627776))) ∧ w' = w) := fun w => within_any _ _ _ _
  by_cases h1 : ts.length ≤ 256
  case neg =>
    have h1' : (256 : Int) < (ts.length : Int) := by omega
    have HE : Hid ((9 : Int) = errV ts seq next) := (errV_bad (fun q => h1 q.1)).symm
    go_enter Try.func23, Try.ntmps23
    go_wp2_with fail
    go_ret
    exact ⟨ret35 HE.out, HU0⟩
  have h1' : ¬ (256 : Int) < (ts.length : Int) := by omega
  by_cases h2 : 1 ≤ next ∧ next ≤ 2147483647
  case neg =>
    have HE : Hid ((9 : Int) = errV ts seq next) := (errV_bad (fun q => h2 ⟨q.2.1, q.2.2.1⟩)).symm
    rw [decide_eq_false h2] at W1
    go_enter Try.func23, Try.ntmps23
    go_wp2_with fail
    refine (W1.out _).mono ?_
    rintro e w1 ⟨rfl, rfl⟩
    go_wp2_with fail
    go_ret
    exact ⟨ret35 HE.out, HU0⟩
  rw [decide_eq_true h2] at W1
  by_cases h3 : 0 ≤ seq ∧ seq ≤ 1099511627776
  case neg =>
    have HE : Hid ((9 : Int) = errV ts seq next) := (errV_bad (fun q => h3 q.2.2.2)).symm
    rw [decide_eq_false h3] at W2
    go_enter Try.func23, Try.ntmps23
    go_wp2_with fail
    refine (W1.out _).mono ?_
    rintro e w1 ⟨rfl, rfl⟩
    go_wp2_with fail
    refine (W2.out _).mono ?_
    rintro e w1 ⟨rfl, rfl⟩
    go_wp2_with fail
    go_ret
    exact ⟨ret35 HE.out, HU0⟩
  rw [decide_eq_true h3] at W2
  have HH : Hid (HdrV ts.length seq next) := ⟨h1, h2.1, h2.2, h3.1, h3.2⟩
  have HB0 : Hid ((w.alloc (.cells #[.slice a ts.length c, .int .i64 seq, .int .i64 next] 27)).heap[w.heap.size]? = some (.cells #[.slice a ts.length c, .int .i64 seq, .int .i64 next] 27)) := blk_new _ _
  obtain ⟨w0, hw0⟩ : ∃ w0, w0 = w.alloc (.cells #[.slice a ts.length c, .int .i64 seq, .int .i64 next] 27) := ⟨_, rfl⟩
  have HW0 : Hid (w.alloc (.cells #[.slice a ts.length c, .int .i64 seq, .int .i64 next] 27) = w0) := hw0.symm
  rw [← hw0] at HB0 HU0
  have HSZ : Hid (w0.heap.size = w.heap.size + 1) := by rw [hw0]; unfold Hid; simp
  have x0 := blk_cell HB0.out 0 _ rfl
  have x1 := blk_cell HB0.out 1 _ rfl
  have x2 := blk_cell HB0.out 2 _ rfl
  clear hw0
  have HC0 : Hid (CntW (w0.alloc (.map #[] 0)) w0.heap.size (idsM (ts.take 0))) := KeyW.made _ w0
  have HU1 : Hid (Below w.heap.size w (w0.alloc (.map #[] 0))) := up_al HU0.out _
  have HB1 : Hid ((w0.alloc (.map #[] 0)).heap[w.heap.size]? = some (.cells #[.slice a ts.length c, .int .i64 seq, .int .i64 next] 27)) := blk_up HB0.out (up_alloc _ _)
  have HNB : Hid (w.heap.size + 1 = w0.heap.size) := HSZ.out.symm
  clear HU0 HB0 h1 h2 h3
  have hmm := @run_makeMap Try.prog
  go_enter Try.func23, Try.ntmps23
  go_upto_region 1 with fail
  rw [HW0.out]
  clear HW0
  go_wp2_with fail
  refine (W1.out _).mono ?_
  rintro e w1 ⟨rfl, hw1⟩
  subst hw1
  go_wp2_with fail
  refine (W2.out _).mono ?_
  rintro e w1 ⟨rfl, hw1⟩
  subst hw1
  clear W1 W2
  generalize hNM : w1.heap.size = NM at *
  have HNE : Hid (w.heap.size ≠ NM ∧ w.heap.size ≤ NM) := by have := HSZ.out; unfold Hid; omega
  have y0 := blk_cell HB1.out 0 _ rfl
  clear x0 x1 x2 HSZ HNB
  go_wp2_with fail
  go_loopw [26] (fun i wr => ∃ k : Nat, k ≤ ts.length ∧ i = .int .i64 k ∧ Hid (ChainM next ts k) ∧ Hid (Below w.heap.size w wr) ∧ Hid (wr.heap[w.heap.size]? = some (.cells #[.slice a ts.length c, .int .i64 seq, .int .i64 next] 27)) ∧ Hid (CntW wr NM (idsM (ts.take k)))) (fun i _ => ts.length - (intOf i).toNat)
  case atStart => exact ⟨0, Nat.zero_le _, rfl, fun j m hj => by omega, HU1, HB1, HC0⟩
  case round =>
    clear HC0 HU1 HB1 y0 hNM
    obtain ⟨k, hk, rfl, HCH, HB, HBX, HCN⟩ := hrel
    by_cases hlt : k < ts.length
    · have hlt' : (k : Int) < (ts.length : Int) := by omega
      obtain ⟨b, off, cap, m, e, hm, z0, z1, z2, z3, z4⟩ := (HV.out.up HB.out).at k hlt
      simp at e
      obtain ⟨rfl, rfl⟩ := e
      have HM : Hid (ts[k]? = some m) := hm
      clear hm
      have HMY : Hid (∀ W : World, Calls Try.prog 39 #[.agg #[.int .i64 m.id, .int .i64 m.lvl, .int .i64 m.cnt, .string m.low, .string m.high]] W fun e w' => e = .returned (.bool (mayM m)) ∧ Hid (Below W.heap.size W w')) := fun W => mayBe_any m W
      have UB : Hid (Below wr.heap.size wr (wr.alloc (meBox m))) := up_alloc _ _
      have BX : Hid (BoxM (wr.alloc (meBox m)) wr.heap.size m) := blk_new _ _
      unfold meBox at UB BX
      have HEH : Hid (headM next (lastM ts k) m = false → (9 : Int) = errV ts seq next) := fun h => (errV_head HM.out h).symm
      cases hmy : mayM m
      · rw [hmy] at HMY
        have HR : Hid ((9 : Int) = errV ts seq next) := HEH.out (by unfold headM; rw [hmy]; rfl)
        go_wp2_with fail
        refine (HMY.out _).mono ?_
        rintro e w2 ⟨rfl, u2⟩
        go_wp2_with fail
        go_ret
        exact ⟨ret35 HR.out, up_trans HB.out (up_trans UB.out u2.out)⟩
      have HMM : Hid (mayM m = true) := hmy
      rw [hmy] at HMY
      go_wp2_with fail
      refine (HMY.out _).mono ?_
      rintro e w2 ⟨rfl, u2⟩
      have U2 : Hid (Below wr.heap.size wr w2) := up_trans UB.out u2.out
      have HB2 : Hid (Below w.heap.size w w2) := up_trans HB.out U2.out
      have BX2 : Hid (BoxM w2 wr.heap.size m) := BX.out.up u2.out
      have HBX2 := hid (blk_up HBX.out U2.out)
      have HCN2 : Hid (CntW w2 NM (idsM (ts.take k))) := KeyW.up HCN.out U2.out
      have HNX : Hid (wr.heap.size ≠ NM) := by have := KeyW.lt HCN.out; unfold Hid; omega
      clear UB BX u2 U2 z0 z1 z2 z3 z4 HMY HB HBX HCN
      generalize wr.heap.size = NX at *
      clear wr
      obtain ⟨m0, m1, m2, m3, m4⟩ := BX2.out.cells
      have y0 := blk_cell HBX2.out 0 _ rfl
      have y2 := blk_cell HBX2.out 2 _ rfl
      by_cases hid1 : m.id < next
      case neg =>
        have hid2 : next ≤ m.id := by omega
        have HR : Hid ((9 : Int) = errV ts seq next) := HEH.out (by unfold headM; rw [HMM.out, decide_eq_false hid1]; rfl)
        go_wp2_with fail
        go_ret
        exact ⟨ret35 HR.out, HB2⟩
      have hid2 : ¬ next ≤ m.id := by omega
      have HID : Hid (In64 m.id) := by
        have := HMM.out
        rw [mayM_eq] at this
        simp only [Bool.and_eq_true, decide_eq_true_eq] at this
        unfold Hid In64; omega
      have HSL : Hid ((idsM (ts.take k)).length < maxLen) := by
        have := idsM_len (ts.take k)
        rw [List.length_take] at this
        unfold Hid maxLen
        omega
      have HSN : Hid (addId (idsM (ts.take k)) m.id = idsM (ts.take (k + 1))) := by
        rw [List.take_add_one, HM.out]
        exact (idsM_snoc _ _).symm
      have HCS : Hid (headM next (lastM ts k) m = true → ChainM next ts (k + 1)) := by
        intro h j q hj hq
        by_cases e : j = k
        · subst e
          rw [HM.out] at hq
          injection hq with hq
          subst hq
          exact h
        · exact HCH.out j q (by omega) hq
      generalize idsM (ts.take k) = ids at *
      have HST : Hid (∀ W : World, Below w.heap.size w W → W.heap[w.heap.size]? = some (.cells #[.slice (some ⟨b, off, none⟩) ts.length c, .int .i64 seq, .int .i64 next] 27) → ∀ W', CntW W' NM (addId ids m.id) → W.mapTurned W' NM → Below w.heap.size w W' ∧ W'.heap[w.heap.size]? = some (.cells #[.slice (some ⟨b, off, none⟩) ts.length c, .int .i64 seq, .int .i64 next] 27) ∧ CntW W' NM (idsM (ts.take (k + 1)))) := by
        intro W h1 h2 W' h3 h4
        refine ⟨h1.trans (turned_below h4 HNE.out.2 h1.size), turned_blk h4 HNE.out.1 h2, ?_⟩
        rw [← HSN.out]
        exact h3
      by_cases h0 : k = 0
      · subst h0
        have HC1 : Hid (ChainM next ts (0 + 1)) := HCS.out (by unfold headM lastM; rw [HMM.out, decide_eq_true hid1]; rfl)
        have HWR : Hid (∀ c : Int, In64 (wrap64 (c + 1))) := by intro c; unfold In64 wrap64; omega
        go_wp2_with fail
        go_quiet (fail)
        have HB3 := hid (up_trans HB2.out (up_drewN w2 nq))
        have HBX3 := hid (blk_up HBX2.out (up_drewN w2 nq))
        have HCN3 : Hid (CntW (w2.drewN nq) NM ids) := KeyW.up HCN2.out (up_drewN w2 nq)
        have mm0 := (BX2.out.up (up_drewN w2 nq)).cells.1
        clear HB2 HBX2 HCN2 BX2 m0 m1 m2 m3 m4 y0 y2 HEH HCS
        generalize w2.drewN nq = w3 at *
        go_wp2_with (first | (at_lookup; refine wpList_cnt_get _ rfl _ _ rfl NM ids rfl HCN3.out m.id HID.out rfl ?_; intro cc) | (at_mapUpdate; refine wpList_cnt_put _ rfl _ _ _ rfl NM ids rfl HCN3.out HSL.out m.id HID.out rfl _ (HWR.out _) rfl ?_; intro W4 hC hT))
        have HFI := hid (HST.out _ HB3.out HBX3.out _ hC hT)
        clear hC hT
        go_wp2_with fail
        exact ⟨⟨0 + 1, by omega, by go_num, HC1, HFI.out.1, HFI.out.2.1, HFI.out.2.2⟩, by simp [intOf]; omega⟩
      · obtain ⟨j, hj⟩ : ∃ j, k = j + 1 := ⟨k - 1, by omega⟩
        obtain ⟨b2, off2, cap2, y, e2, hy, t0, t1, t2, t3, t4⟩ := (HV.out.up HB2.out).at j (by omega)
        simp at e2
        obtain ⟨⟨rfl, rfl⟩, rfl⟩ := e2
        have hjj : (k : Int) - 1 = (j : Int) := by omega
        have hj0 : 0 < k := by omega
        have hwj : IntKind.i64.wrap (j : Int) = (j : Int) := by rw [IntKind.wrap_i64]; omega
        have hjl : (j : Int) < (ts.length : Int) := by omega
        have HLM : Hid (lastM ts k = some y) := by unfold Hid lastM; rw [if_neg (by omega), hj]; exact hy
        have HWR : Hid (∀ c : Int, In64 (wrap64 (c + 1))) := by intro c; unfold In64 wrap64; omega
        have HYM : Hid (leM y.low y.high = true) := by
          have := HCH.out j y (by omega) hy
          unfold headM at this
          simp only [Bool.and_eq_true] at this
          have := this.1
          rw [mayM_eq] at this
          simp only [Bool.and_eq_true] at this
          exact this.2.2.2.2.2
        have HHM : Hid (headM next (lastM ts k) m = folM y m) := by
          unfold Hid headM
          rw [HLM.out, HMM.out, decide_eq_true hid1, folM_eq y m HYM.out]
          rfl
        have HQ : Hid (∀ W : World, Calls Try.prog 40 #[.agg #[.int .i64 y.id, .int .i64 y.lvl, .int .i64 y.cnt, .string y.low, .string y.high], .agg #[.int .i64 m.id, .int .i64 m.lvl, .int .i64 m.cnt, .string m.low, .string m.high]] W fun e w' => e = .returned (.bool (folM y m)) ∧ Below W.heap.size W w') := fun W => follows_any y m W
        clear hj hy
        have m0 := cell_up m0
        have m1 := cell_up m1
        have m2 := cell_up m2
        have m3 := cell_up m3
        have m4 := cell_up m4
        have t0 := cell_up t0
        have t1 := cell_up t1
        have t2 := cell_up t2
        have t3 := cell_up t3
        have t4 := cell_up t4
        have y0 := cell_up y0
        have y2 := cell_up y2
        cases hfo : folM y m
        · have HR : Hid ((9 : Int) = errV ts seq next) := HEH.out (by rw [HHM.out, hfo])
          rw [hfo] at HQ
          clear hfo
          go_wp2_with fail
          refine wp_region_up (by kernel_rfl) (by kernel_rfl) ?_
          repeat (go_big_quiet_step ((go_at_call 40; refine calls_up (HQ.out _))))
          refine wpQuiet_nil ?_
          intro _ hw'
          obtain ⟨p, hw''⟩ := hw'
          subst hw''
          go_wp2_with fail
          go_ret
          exact ⟨ret35 HR.out, up_trans HB2.out p.up⟩
        · have HC1 : Hid (ChainM next ts (k + 1)) := HCS.out (by rw [HHM.out, hfo])
          rw [hfo] at HQ
          clear hfo
          go_wp2_with fail
          refine wp_region_up (by kernel_rfl) (by kernel_rfl) ?_
          repeat (go_big_quiet_step ((go_at_call 40; refine calls_up (HQ.out _))))
          refine wpQuiet_nil ?_
          intro _ hw'
          obtain ⟨p, hw''⟩ := hw'
          subst hw''
          have HB3 := hid (up_trans HB2.out p.up)
          have HBX3 := hid (blk_up HBX2.out p.up)
          have HCN3 : Hid (CntW p.val NM ids) := KeyW.up HCN2.out p.up
          have mm0 := (BX2.out.up p.up).cells.1
          clear HB2 HBX2 HCN2 BX2 m0 m1 m2 m3 m4 y0 y2 t0 t1 t2 t3 t4 HQ HEH HCS
          generalize p.val = w3 at *
          clear p
          go_wp2_with (first | (at_lookup; refine wpList_cnt_get _ rfl _ _ rfl NM ids rfl HCN3.out m.id HID.out rfl ?_; intro cc) | (at_mapUpdate; refine wpList_cnt_put _ rfl _ _ _ rfl NM ids rfl HCN3.out HSL.out m.id HID.out rfl _ (HWR.out _) rfl ?_; intro W4 hC hT))
          have HFI := hid (HST.out _ HB3.out HBX3.out _ hC hT)
          clear hC hT
          go_wp2_with fail
          exact ⟨⟨k + 1, by omega, by go_num, HC1, HFI.out.1, HFI.out.2.1, HFI.out.2.2⟩, by simp [intOf]; omega⟩
    · have hlt' : ¬ (k : Int) < (ts.length : Int) := by omega
      obtain rfl : k = ts.length := by omega
      rw [List.take_length] at HCN
      have y0 := blk_cell HBX.out 0 _ rfl
      have HIL : Hid ((idsM ts).length ≤ 256) := by have := idsM_len ts; have := HH.out.1; unfold Hid; omega
      by_cases hd : (idsM ts).length < ts.length
      · have HR : Hid ((9 : Int) = errV ts seq next) := (errV_twice hd).symm
        have hd' : ((idsM ts).length : Int) < (ts.length : Int) := by omega
        have hln := cnt_len HCN.out
        generalize idsM ts = ids at *
        go_wp2_with fail
        go_ret
        exact ⟨ret35 HR.out, HB⟩
      · have HR : Hid ((0 : Int) = errV ts seq next) := (errV_fine HH.out (fun k m hm => HCH.out k m (List.getElem?_eq_some_iff.1 hm).1 hm) hd).symm
        have hd' : ¬ ((idsM ts).length : Int) < (ts.length : Int) := by omega
        have hln := cnt_len HCN.out
        generalize idsM ts = ids at *
        go_wp2_with fail
        go_ret
        exact ⟨ret35 HR.out, HB⟩
end Go.Proofs.Ytjdibpmckeifhaa
