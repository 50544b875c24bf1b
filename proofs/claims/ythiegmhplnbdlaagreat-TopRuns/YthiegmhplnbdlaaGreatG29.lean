/- Texts of layers 1 to 13, in this order. -/
import Derived.Test.YthiegmhplnbdlaaGreatG27
import Derived.Test.YthiegmhplnbdlaaGreatG21
import Derived.Test.YthiegmhplnbdlaaGreatG28
import Derived.Test.YthiegmhplnbdlaaGreatG25
import Derived.Test.YthiegmhplnbdlaaGreatG24
import Derived.Maps.OwnIn
import Derived.Stop.RegionWithIn

namespace Go.Proofs.YthiegmhplnbdlaaGreat
open Go.RowKit SumPlain
set_option linter.unusedVariables false
set_option linter.unusedSimpArgs false
set_option maxHeartbeats 2000000 in
set_option maxRecDepth 100000 in
theorem keysOf_any (l : List En) (v : Value) (w : World) (hv : EntsR w v l) (hl : l.length ≤ 8796093022208) :
    Calls Tryz.prog 68 #[v] w fun e w' => ∃ a n c, e = .returned (.slice a n c) ∧ Hid (n = (keysT none l).length) ∧ Hid (OwnR w' w.heap.size 9 1 (.slice a n c) ((keysT none l).map srow)) ∧ Hid (Below w.heap.size w w') := by
  have HV : Hid (EntsR w v l) := hv
  obtain ⟨a, c, rfl, hc, hm⟩ := hv.len
  obtain ⟨n, hn⟩ : ∃ n, n = l.length := ⟨_, rfl⟩
  have HL : Hid (l.length = n) := hn.symm
  rw [← hn] at HV hl ⊢
  clear hv hn hc hm
  go_enter Tryz.func68, Tryz.ntmps68
  go_wp2_with fail
  go_loopw [3, 8] (fun vo i wr => ∃ (k m : Nat) (oa : Option Addr) (oc : Nat), k ≤ n ∧ vo = .slice oa m oc ∧ i = .int .i64 k ∧ Hid (m = (keysT none (l.take k)).length) ∧ Hid (OwnR wr w.heap.size 9 1 (.slice oa m oc) ((keysT none (l.take k)).map srow)) ∧ Hid (Below w.heap.size w wr)) (fun _ i _ => n - (intOf i).toNat)
  case atStart => exact ⟨0, 0, none, 0, Nat.zero_le _, rfl, rfl, by simp [Hid, keysT], by simpa [Hid, keysT] using OwnR.nil _ _ _ _, Below.refl _ _⟩
  case round =>
    obtain ⟨k, m, oa, oc, hk, rfl, rfl, HM, HO, HB⟩ := hrel
    by_cases hlt : k < n
    · have hlt' : (k : Int) < (n : Int) := by omega
      obtain ⟨b, off, cap, x, e, hx, z0, z1, z2, z3⟩ := (HV.out.up HB.out).at k (by rw [HL.out]; exact hlt)
      simp only [Value.slice.injEq] at e
      obtain ⟨rfl, hnn, rfl⟩ := e
      clear hnn
      obtain ⟨WB, hWB⟩ : ∃ WB, WB = wr.alloc (.cells #[.string x.key, .int .i64 x.seq, .int .i64 x.kind, .string x.val] 50) := ⟨_, rfl⟩
      have HWB : Hid (wr.alloc (.cells #[.string x.key, .int .i64 x.seq, .int .i64 x.kind, .string x.val] 50) = WB) := hWB.symm
      have UB : Hid (Below wr.heap.size wr WB) := by rw [hWB]; exact up_alloc _ _
      have BX : Hid (WB.heap[wr.heap.size]? = some (.cells #[.string x.key, .int .i64 x.seq, .int .i64 x.kind, .string x.val] 50)) := by rw [hWB]; exact blk_new _ _
      have x0 := blk_cell BX.out 0 _ rfl
      clear hWB
      have HT : Hid (keysT none (l.take (k + 1)) = keysT none (l.take k) ++ cond (sameKT (lastKT none (l.take k)) (nums x.key)) [] [nums x.key]) := by
        unfold Hid
        rw [List.take_add_one, hx]
        exact keysT_snoc _ _ _
      have HAPP : Hid (sameKT (lastKT none (l.take k)) (nums x.key) = false → ∀ (W : World), Below wr.heap.size wr W → ∀ (a6 : Option Addr) (n6 c6 : Nat) (w6 : World), OwnR w6 w.heap.size 9 1 (.slice a6 n6 c6) ((keysT none (l.take k)).map srow ++ [srow (nums x.key)]) → W.grownBy w6 (Value.slice oa m oc).ownBlock → n6 = (keysT none (l.take (k + 1))).length ∧ Hid (OwnR w6 w.heap.size 9 1 (.slice a6 n6 c6) ((keysT none (l.take (k + 1))).map srow)) ∧ Hid (Below w.heap.size w w6)) := by
        intro hne W hb a6 n6 c6 w6 ho hg
        have e := HT.out
        rw [hne, cond_false] at e
        have ho' : OwnR w6 w.heap.size 9 1 (.slice a6 n6 c6) ((keysT none (l.take (k + 1))).map srow) := by rw [e, List.map_append]; exact ho
        obtain ⟨_, _, e6, _, _⟩ := (Rws.own ho').len
        simp only [Value.slice.injEq, List.length_map] at e6
        have u := up_trans HB.out hb
        exact ⟨e6.2.1, ho', u.grown hg u.size (fun q hq => (HO.out.2.lt q hq).1)⟩
      have HX : Hid (l[k]? = some x) := hx
      have HSM : Hid (((keysT none (l.take k)).map srow).length + [srow (nums x.key)].length ≤ 8796093022209) := by
        have := keysT_len (l.take k) none
        unfold Hid
        simp at this ⊢
        omega
      clear hx
      by_cases h0 : k = 0
      · subst h0
        have hne : sameKT (lastKT none (l.take 0)) (nums x.key) = false := rfl
        have HA := hid (HAPP.out hne)
        simp only [Nat.zero_mul, Nat.add_zero] at z0 z1 z2 z3
        go_wp2_with fail
        rw [HWB.out]
        go_wp2_with fail
        go_quiet (fail)
        have UQ0 : Hid (Below WB.heap.size WB (WB.drewN nq)) := up_drewN _ _
        have z0' : (WB.drewN nq).cell? ⟨wr.heap.size, 0, none⟩ = some (.string x.key) := (UQ0.out.cell (World.block_lt_of_cell? _ _ x0)).trans x0
        have UQ : Hid (Below wr.heap.size wr (WB.drewN nq)) := up_trans UB.out UQ0.out
        clear x0 z0 z1 z2 z3 UB UQ0 BX HWB
        generalize WB.drewN nq = W at *
        obtain ⟨WC, hWC⟩ : ∃ WC, WC = W.alloc (.cells #[.string x.key] 9) := ⟨_, rfl⟩
        have HWC : Hid (W.alloc (.cells #[.string x.key] 9) = WC) := hWC.symm
        have UC : Hid (Below W.heap.size W WC) := by rw [hWC]; exact up_alloc _ _
        have HR2 : Hid (Rws 1 WC (.slice (some ⟨W.heap.size, 0, none⟩) 1 1) [srow (nums x.key)]) := by
          have := Rws.made (sz := 1) W 9 [srow (nums x.key)] (by simp [srow]) (by simp [maxLen])
          unfold Hid
          rw [hWC]
          simpa [srow, str_nums] using this
        have OC : Hid (OwnR WC w.heap.size 9 1 (.slice oa m oc) ((keysT none (l.take 0)).map srow)) := (HO.out.up UQ.out).up UC.out
        have UWC : Hid (Below wr.heap.size wr WC) := up_trans UQ.out UC.out
        have HA4 : Hid ((((keysT none (l.take 0)).map srow).length + [srow (nums x.key)].length + (((keysT none (l.take 0)).map srow).length + [srow (nums x.key)].length) / 4 + 192) * 16 ≤ 281474976710656 ∧ ((keysT none (l.take 0)).map srow).length + [srow (nums x.key)].length ≤ maxLen) := by
          have := HSM.out
          unfold Hid maxLen; omega
        have HS5 : Hid (w.heap.size ≤ WC.heap.size) := (up_trans HB.out UWC.out).size
        clear hWC
        go_wp2_with (rw [HWC.out]; at_builtin; refine wpList_append_rows WC rfl _ _ 140 9 _ 1 16 rfl Tryz.underlying140 Tryz.info9 rfl (by decide) w.heap.size (.slice oa m oc) ((keysT none (l.take 0)).map srow) rfl OC.out (.slice (some ⟨W.heap.size, 0, none⟩) 1 1) [srow (nums x.key)] rfl HR2.out (srow_one _) HA4.out.1 HA4.out.2 HS5.out ?_)
        intro v6 w6 ho hg
        obtain ⟨a6, c6, e6, _, _⟩ := (Rws.own ho).len
        generalize hn6 : ((keysT none []).map srow ++ [srow (nums x.key)]).length = n6 at *
        subst e6
        obtain ⟨q1, q2, q3⟩ := HA.out WC UWC.out a6 n6 c6 w6 ho hg
        clear ho hg hn6
        go_wp2_with fail
        exact ⟨⟨0 + 1, n6, a6, c6, by omega, rfl, by go_num, q1, q2, q3⟩, by simp [intOf]; omega⟩
      · obtain ⟨j, hj⟩ : ∃ j, k = j + 1 := ⟨k - 1, by omega⟩
        obtain ⟨b2, off2, cap2, y, e2, hy, t0, _, _, _⟩ := (HV.out.up HB.out).at j (by rw [HL.out]; omega)
        simp only [Value.slice.injEq, Option.some.injEq, Addr.mk.injEq] at e2
        obtain ⟨⟨rfl, rfl, _⟩, hnn2, rfl⟩ := e2
        clear hnn2
        have hjj : (k : Int) - 1 = (j : Int) := by omega
        have hk0 : ((k : Int) == 0) = false := by simp; omega
        have hk1 : ¬ (k : Int) = 0 := by omega
        have hwj : IntKind.i64.wrap (j : Int) = (j : Int) := by rw [IntKind.wrap_i64]; omega
        have hjl : (j : Int) < (n : Int) := by omega
        have hj0 : (0 : Int) ≤ (j : Int) := by omega
        have hla : lastKT none (l.take k) = some (nums y.key) := by rw [hj]; exact lastKT_take l j y none hy
        have HSK : Hid (sameKT (lastKT none (l.take k)) (nums x.key) = (nums y.key == nums x.key)) := by unfold Hid; rw [hla]; rfl
        clear hj hla hy
        by_cases hsame : x.key.toList = y.key.toList
        · have hs1 : (x.key.toList == y.key.toList) = true := by simp [hsame]
          have hs2 : (x.key.toList != y.key.toList) = false := by simp [hsame]
          have HE : Hid (keysT none (l.take (k + 1)) = keysT none (l.take k)) := by
            have e := HT.out
            rw [HSK.out, show (nums y.key == nums x.key) = true by rw [beq_iff_eq]; exact (nums_eq_iff _ _).2 hsame.symm, cond_true, List.append_nil] at e
            exact e
          have HM2 : Hid (m = (keysT none (l.take (k + 1))).length) := by unfold Hid; rw [HE.out]; exact HM.out
          have HO2 : Hid (OwnR wr w.heap.size 9 1 (.slice oa m oc) ((keysT none (l.take (k + 1))).map srow)) := by unfold Hid; rw [HE.out]; exact HO.out
          have t0' := (UB.out.cell (World.block_lt_of_cell? _ _ t0)).trans t0
          go_wp2_with fail
          rw [HWB.out]
          clear z0 z1 z2 z3 t0 HWB
          go_wp2_with fail
          go_quiet (fail)
          go_wp2_with fail
          exact ⟨⟨k + 1, m, oa, oc, by omega, rfl, by go_num, HM2, (HO2.out.up UB.out).up (up_drewN _ _), up_trans (up_trans HB.out UB.out) (up_drewN _ _)⟩, by simp [intOf]; omega⟩
        · have hs1 : (x.key.toList == y.key.toList) = false := by simp [hsame]
          have hs2 : (x.key.toList != y.key.toList) = true := by simp [hsame]
          have hne : sameKT (lastKT none (l.take k)) (nums x.key) = false := by
            rw [HSK.out]
            rw [beq_eq_false_iff_ne]
            intro q
            exact hsame ((nums_eq_iff _ _).1 q).symm
          have HA := hid (HAPP.out hne)
          have t0' := (UB.out.cell (World.block_lt_of_cell? _ _ t0)).trans t0
          go_wp2_with fail
          rw [HWB.out]
          clear z0 z1 z2 z3 t0 HWB
          go_wp2_with fail
          go_quiet (fail)
          have UQ0 : Hid (Below WB.heap.size WB (WB.drewN nq)) := up_drewN _ _
          have z0' : (WB.drewN nq).cell? ⟨wr.heap.size, 0, none⟩ = some (.string x.key) := (UQ0.out.cell (World.block_lt_of_cell? _ _ x0)).trans x0
          have UQ : Hid (Below wr.heap.size wr (WB.drewN nq)) := up_trans UB.out UQ0.out
          clear x0 t0' UB UQ0 BX
          generalize WB.drewN nq = W at *
          obtain ⟨WC, hWC⟩ : ∃ WC, WC = W.alloc (.cells #[.string x.key] 9) := ⟨_, rfl⟩
          have HWC : Hid (W.alloc (.cells #[.string x.key] 9) = WC) := hWC.symm
          have UC : Hid (Below W.heap.size W WC) := by rw [hWC]; exact up_alloc _ _
          have HR2 : Hid (Rws 1 WC (.slice (some ⟨W.heap.size, 0, none⟩) 1 1) [srow (nums x.key)]) := by
            have := Rws.made (sz := 1) W 9 [srow (nums x.key)] (by simp [srow]) (by simp [maxLen])
            unfold Hid
            rw [hWC]
            simpa [srow, str_nums] using this
          have OC : Hid (OwnR WC w.heap.size 9 1 (.slice oa m oc) ((keysT none (l.take k)).map srow)) := (HO.out.up UQ.out).up UC.out
          have UWC : Hid (Below wr.heap.size wr WC) := up_trans UQ.out UC.out
          have HA4 : Hid ((((keysT none (l.take k)).map srow).length + [srow (nums x.key)].length + (((keysT none (l.take k)).map srow).length + [srow (nums x.key)].length) / 4 + 192) * 16 ≤ 281474976710656 ∧ ((keysT none (l.take k)).map srow).length + [srow (nums x.key)].length ≤ maxLen) := by
            have := HSM.out
            unfold Hid maxLen; omega
          have HS5 : Hid (w.heap.size ≤ WC.heap.size) := (up_trans HB.out UWC.out).size
          clear hWC
          go_wp2_with (rw [HWC.out]; at_builtin; refine wpList_append_rows WC rfl _ _ 140 9 _ 1 16 rfl Tryz.underlying140 Tryz.info9 rfl (by decide) w.heap.size (.slice oa m oc) ((keysT none (l.take k)).map srow) rfl OC.out (.slice (some ⟨W.heap.size, 0, none⟩) 1 1) [srow (nums x.key)] rfl HR2.out (srow_one _) HA4.out.1 HA4.out.2 HS5.out ?_)
          intro v6 w6 ho hg
          obtain ⟨a6, c6, e6, _, _⟩ := (Rws.own ho).len
          generalize hn6 : ((keysT none (l.take k)).map srow ++ [srow (nums x.key)]).length = n6 at *
          subst e6
          obtain ⟨q1, q2, q3⟩ := HA.out WC UWC.out a6 n6 c6 w6 ho hg
          clear ho hg hn6
          go_wp2_with fail
          exact ⟨⟨k + 1, n6, a6, c6, by omega, rfl, by go_num, q1, q2, q3⟩, by simp [intOf]; omega⟩
    · have hlt' : ¬ (k : Int) < (n : Int) := by omega
      obtain rfl : k = n := by omega
      have e : l.take k = l := List.take_of_length_le (by rw [HL.out]; exact Nat.le_refl _)
      rw [e] at HM HO
      go_wp2_with fail
      go_ret
      exact ⟨oa, m, oc, rfl, HM, HO, HB⟩
end Go.Proofs.YthiegmhplnbdlaaGreat

namespace Go.Proofs.YthiegmhplnbdlaaGreat
open Go.RowKit SumPlain
set_option linter.unusedVariables false
set_option linter.unusedSimpArgs false
theorem nums_none : nums ⟨#[]⟩ = [] := rfl
set_option maxHeartbeats 8000000 in
set_option maxRecDepth 100000 in
theorem encode_good (l : List En) (a : Option Addr) (c : Nat) (w : World) (hv : EntsR w (.slice a l.length c) l) (h0 : chkB l = 0) :
    Calls Tryz.prog 64 #[.slice a l.length c] w fun e w' => ∃ v', e = .returned (.tuple #[v', .int .i64 0]) ∧ OwnB w' w.heap.size v' (guardOf (blockO l)) ∧ Below w.heap.size w w' := by
  have HC : Hid (Calls Tryz.prog 63 #[.slice a l.length c] w fun e w' => e = .returned (.int .i64 0) ∧ Hid (Below w.heap.size w w')) := by
    have h := checkP_any l _ w hv
    rw [h0] at h
    exact h
  obtain ⟨l1, l2, hmay⟩ := chkB_may h0
  have HV : Hid (EntsR w (.slice a l.length c) l) := hv
  have HMAY : Hid (∀ x ∈ l, mayE x = true) := hmay
  obtain ⟨n, hn⟩ : ∃ n, n = l.length := ⟨_, rfl⟩
  have HL : Hid (l.length = n) := hn.symm
  rw [← hn] at HC HV l1 l2 ⊢
  clear hv hmay hn h0
  go_enter Tryz.func64, Tryz.ntmps64
  go_wp2_with fail
  refine HC.out.mono ?_
  rintro e w1 ⟨rfl, b1⟩
  have E0 : Hid (EnW w (.slice none 0 0) (.slice none 0 0) (bodyO 0 [] (l.take 0)) (tailO 0 [] 0 (l.take 0)) w1) := ⟨OwnB.nil _ _, OwnB.nil _ _, (fun g h => by simp [Value.ownBlock] at h), b1.out⟩
  clear b1 HC
  go_wp2_with fail
  go_loopw [5, 6, 7, 17] (fun vb vt vp i wr => ∃ (k : Nat) (ba ta : Option Addr) (bn bc tn tc : Nat) (pk : ByteArray), k ≤ n ∧ vb = .slice ba bn bc ∧ vt = .slice ta tn tc ∧ vp = .string pk ∧ i = .int .i64 k ∧ Hid (EnW w (.slice ba bn bc) (.slice ta tn tc) (bodyO 0 [] (l.take k)) (tailO 0 [] 0 (l.take k)) wr) ∧ Hid (nums pk = lastK [] (l.take k) ∧ pk.size ≤ 96)) (fun _ _ _ i _ => n - (intOf i).toNat)
  case atStart => exact ⟨0, none, none, 0, 0, 0, 0, ⟨#[]⟩, Nat.zero_le _, rfl, rfl, rfl, rfl, E0, by simp [lastK, nums_none], by decide⟩
  case round =>
    clear E0
    obtain ⟨k, ba, ta, bn, bc, tn, tc, pk, hk, rfl, rfl, rfl, rfl, EW, HPK⟩ := hrel
    by_cases hlt : k < n
    · have hlt' : (k : Int) < (n : Int) := by omega
      obtain ⟨b, off, cap, x, e, hx, z0, z1, z2, z3⟩ := (HV.out.up EW.out.up).at k (by rw [HL.out]; exact hlt)
      simp only [Value.slice.injEq] at e
      obtain ⟨rfl, hnn, rfl⟩ := e
      clear hnn
      have hmx : mayE x = true := HMAY.out x (List.mem_of_getElem? hx)
      obtain ⟨mk1, mk2, ms1, ms2, md1, md2, mv1⟩ := mayE_le hmx
      have HBS : Hid (bodyO 0 [] (l.take (k + 1)) = bodyO 0 [] (l.take k) ++ entO (shareN k (lastK [] (l.take k)) x) x) := by
        unfold Hid
        rw [take_at l k x hx, bodyO_snoc, Nat.zero_add, List.length_take, HL.out, Nat.min_eq_left (by omega)]
      have HTS : Hid (tailO 0 [] 0 (l.take (k + 1)) = tailO 0 [] 0 (l.take k) ++ (if k % 4 = 0 then [(((bodyO 0 [] (l.take k)).length / 256 % 256 : Nat) : Int), (((bodyO 0 [] (l.take k)).length % 256 : Nat) : Int)] else [])) := by
        unfold Hid
        rw [take_at l k x hx, tailO_snoc, Nat.zero_add, Nat.zero_add, List.length_take, HL.out, Nat.min_eq_left (by omega)]
      have hbl := bodyO_le (l.take k) 0 [] (fun y hy => HMAY.out y (List.mem_of_mem_take hy))
      have hlk : (l.take k).length = k := by rw [List.length_take, HL.out]; omega
      rw [hlk] at hbl
      obtain ⟨_, c2, e2, hc2⟩ := own_len EW.out.ob
      simp only [Value.slice.injEq] at e2
      have HBN : Hid (bn = (bodyO 0 [] (l.take k)).length) := e2.2.1
      clear e2 hc2 hlk
      have htl := tailO_len (l.take k) 0 [] 0
      have HTL : Hid ((tailO 0 [] 0 (l.take k)).length ≤ 128) := by
        unfold Hid
        have := htl.2
        rw [List.length_take, HL.out] at this
        omega
      clear htl
      have HLK : Hid (nums x.key = lastK [] (l.take (k + 1)) ∧ x.key.size ≤ 96) := ⟨(lastK_take l k x [] hx).symm, by rw [← nums_length]; exact mk2⟩
      clear hx
      have hbb : (bodyO 0 [] (l.take k)).length ≤ 41280 := by omega
      have HBL : Hid ((bodyO 0 [] (l.take k)).length ≤ 41280) := hbb
      clear hbl
      rw [← HBN.out] at HTS hbb
      have UB : Hid (Below wr.heap.size wr (wr.alloc (enObj x))) := up_alloc _ _
      have BX : Hid (BoxN (wr.alloc (enObj x)) wr.heap.size x) := blk_new _ _
      unfold enObj at UB BX
      have EWA : Hid (EnW w (.slice ba bn bc) (.slice ta tn tc) (bodyO 0 [] (l.take k)) (tailO 0 [] 0 (l.take k)) (wr.alloc (.cells #[.string x.key, .int .i64 x.seq, .int .i64 x.kind, .string x.val] 50))) := EW.out.upw UB.out
      clear EW UB
      have HAV : Hid (∀ (tv : Value) (TT : List Int) (pv : ByteArray) (W : World), EnW w (.slice ba bn bc) tv (bodyO 0 [] (l.take k)) TT W → pv.size ≤ 96 → comL (nums pv) (nums x.key) = shareN k (lastK [] (l.take k)) x → Calls Tryz.prog 91 #[.slice ba bn bc, .agg #[.string x.key, .int .i64 x.seq, .int .i64 x.kind, .string x.val], .string pv] W fun e w' => ∃ a' n' c', e = .returned (.slice a' n' c') ∧ Hid (EnW w (.slice a' n' c') tv (bodyO 0 [] (l.take (k + 1))) TT w') ∧ Hid (W.grownBy w' (Value.slice ba bn bc).ownBlock)) := by
        intro tv TT pv W hE hp hs
        refine (appVer_any x pv w.heap.size ba bn bc _ W hE.ob hE.up.size hmx (by omega) HBL.out).mono ?_
        rintro e w' ⟨a', n', c', rfl, h1, h2, h3⟩
        rw [hs, ← HBS.out] at h1
        exact ⟨a', n', c', rfl, hE.appB h1.out h2.out h3.out, h2⟩
      by_cases h4 : k % 4 = 0
      · have h4a : (k : Int) % 4 = 0 := by omega
        have h4b : (k : Int).tmod 4 = 0 := by rw [Int.tmod_eq_emod_of_nonneg (by omega)]; exact h4a
        have HSN : Hid (comL (nums ⟨#[]⟩) (nums x.key) = shareN k (lastK [] (l.take k)) x) := by unfold Hid shareN; rw [if_pos h4, nums_none, comL_nil_left]
        have HT2 : Hid (tailO 0 [] 0 (l.take k) ++ [(bn : Int) / 256, (bn : Int) % 256] = tailO 0 [] 0 (l.take (k + 1))) := by
          unfold Hid
          rw [HTS.out, if_pos h4]
          congr 2
          · omega
        generalize hW2 : wr.alloc (.cells #[.string x.key, .int .i64 x.seq, .int .i64 x.kind, .string x.val] 50) = WA at *
        have HWA : Hid (wr.alloc (.cells #[.string x.key, .int .i64 x.seq, .int .i64 x.kind, .string x.val] 50) = WA) := hW2
        have HSA : Hid (WA.heap.size = wr.heap.size + 1) := by unfold Hid; rw [← hW2]; simp
        clear hW2
        have HS1 : Hid (w.heap.size ≤ WA.heap.size) := EWA.out.up.size
        have HSZ : Hid ((tailO 0 [] 0 (l.take k)).length + [(bn : Int) / 256, (bn : Int) % 256].length ≤ 140737488355328) := by have := HTL.out; unfold Hid; simp only [List.length_cons, List.length_nil]; omega
        have HOC : Hid (∀ y ∈ [(bn : Int) / 256, (bn : Int) % 256], 0 ≤ y ∧ y ≤ 255) := by unfold Hid; simp; omega
        go_wp2_with (rw [HWA.out]; at_builtin; refine wpList_append_lits_at WA rfl _ _ rfl w.heap.size (.slice ta tn tc) (tailO 0 [] 0 (l.take k)) rfl EWA.out.ot [(bn : Int) / 256, (bn : Int) % 256] 2 _ ?ax rfl rfl HOC.out HSZ.out HS1.out ?_)
        case ax =>
          show Value.slice (some ⟨wr.heap.size + 1, 0, none⟩) 2 2 = _
          rw [HSA.out]
        intro v' w2 ho hg ha
        rw [HT2.out] at ho
        have EW2 := EWA.out.appT ho hg ha
        obtain ⟨ta', tn', tc', rfl, htn'⟩ := own_shape ho
        have EW' : Hid (EnW w (.slice ba bn bc) (.slice ta' tn' tc') (bodyO 0 [] (l.take k)) (tailO 0 [] 0 (l.take (k + 1))) w2) := EW2
        have BX2 : Hid (BoxN w2 wr.heap.size x) := blk_grown BX.out hg (fun e => by
          rcases own_blk_ne EWA.out.ot BX.out (by decide) with q | q
          · rw [q] at e; cases e
          · exact q e.symm)
        clear ho hg ha EWA EW2 HT2 HS1 HSZ HOC HTS HTL z0 z1 z2 z3 HWA HSA BX htn' HPK
        obtain ⟨z0, z1, z2, z3⟩ := BX2.out.cells
        generalize wr.heap.size = NX at *
        go_wp2_with fail
        refine (HAV.out _ _ _ _ EW'.out (by decide) HSN.out).mono ?_
        rintro e w3 ⟨a3, n3, c3, rfl, E3, G3⟩
        have BX3 : Hid (BoxN w3 NX x) := blk_grown BX2.out G3.out (fun e => by
          rcases own_blk_ne EW'.out.ob BX2.out (by decide) with q | q
          · rw [q] at e; cases e
          · exact q e.symm)
        clear z0 z1 z2 z3 BX2 G3 EW' HAV
        obtain ⟨z0, z1, z2, z3⟩ := BX3.out.cells
        go_wp2_with fail
        exact ⟨⟨k + 1, a3, ta', n3, c3, tn', tc', x.key, by omega, rfl, rfl, rfl, by go_num, E3, HLK⟩, by simp [intOf]; omega⟩
      · have h4b : ¬ (k : Int).tmod 4 = 0 := by rw [Int.tmod_eq_emod_of_nonneg (by omega)]; omega
        have h4c : ((k : Int).tmod 4 == 0) = false := by simp [h4b]
        have HSN : Hid (comL (nums pk) (nums x.key) = shareN k (lastK [] (l.take k)) x) := by unfold Hid shareN; rw [if_neg h4, HPK.out.1]
        have HT2 : Hid (tailO 0 [] 0 (l.take k) = tailO 0 [] 0 (l.take (k + 1))) := by
          unfold Hid
          rw [HTS.out, if_neg h4, List.append_nil]
        generalize hW2 : wr.alloc (.cells #[.string x.key, .int .i64 x.seq, .int .i64 x.kind, .string x.val] 50) = WA at *
        have HWA : Hid (wr.alloc (.cells #[.string x.key, .int .i64 x.seq, .int .i64 x.kind, .string x.val] 50) = WA) := hW2
        clear hW2 HTS HTL
        rw [HT2.out] at EWA
        clear HT2
        go_wp2_with fail
        rw [HWA.out]
        refine (HAV.out _ _ _ _ EWA.out HPK.out.2 HSN.out).mono ?_
        rintro e w3 ⟨a3, n3, c3, rfl, E3, G3⟩
        have BX3 : Hid (BoxN w3 wr.heap.size x) := blk_grown BX.out G3.out (fun e => by
          rcases own_blk_ne EWA.out.ob BX.out (by decide) with q | q
          · rw [q] at e; cases e
          · exact q e.symm)
        clear z0 z1 z2 z3 BX G3 EWA HAV HWA
        obtain ⟨z0, z1, z2, z3⟩ := BX3.out.cells
        go_wp2_with fail
        exact ⟨⟨k + 1, a3, ta, n3, c3, tn, tc, x.key, by omega, rfl, rfl, rfl, by go_num, E3, HLK⟩, by simp [intOf]; omega⟩
    · have hlt' : ¬ (k : Int) < (n : Int) := by omega
      obtain rfl : k = n := by omega
      have hbl := bodyO_le (l.take k) 0 [] (fun y hy => HMAY.out y (List.mem_of_mem_take hy))
      have htl := tailO_len (l.take k) 0 [] 0
      rw [List.take_of_length_le (by rw [HL.out]; exact Nat.le_refl _)] at hbl htl EW
      rw [HL.out] at hbl htl
      have HBK : Hid (blockO l = (bodyO 0 [] l ++ tailO 0 [] 0 l) ++ [(((tailO 0 [] 0 l).length / 2 % 256 : Nat) : Int)]) := by unfold Hid blockO; rw [List.append_assoc]
      have HBO : Hid (OctL (bodyO 0 [] l) ∧ OctL (tailO 0 [] 0 l)) := ⟨bodyO_oct l 0 [] HMAY.out, tailO_oct l 0 [] 0⟩
      obtain ⟨_, c2, e2, _⟩ := own_len EW.out.ot
      simp only [Value.slice.injEq] at e2
      have HTN : Hid (tn = (tailO 0 [] 0 l).length) := e2.2.1
      clear e2
      generalize bodyO 0 [] l = B at *
      generalize tailO 0 [] 0 l = T at *
      have htn : tn ≤ 128 := by rw [HTN.out]; omega
      have HTO : Hid (Octs wr (.slice ta tn tc) T) := Octs.own EW.out.ot HBO.out.2
      have HSZ : Hid (B.length + T.length ≤ 140737488355328) := by unfold Hid; omega
      have HS0 : Hid (w.heap.size ≤ wr.heap.size) := EW.out.up.size
      have HBB : Hid (B.length ≤ 41280 ∧ T.length ≤ 128) := ⟨by omega, by omega⟩
      clear hbl htl
      go_wp2_with (at_builtin; refine wpList_append_octs_at wr rfl _ _ rfl w.heap.size (.slice ba bn bc) B rfl EW.out.ob (.slice ta tn tc) T rfl HTO.out HSZ.out HS0.out ?_)
      intro v1 W1 ho hg ha
      have EX := EW.out.appB ho hg (ha.imp id fun h => ⟨_, h, Nat.le_refl _⟩)
      obtain ⟨xa, xn, xc, rfl, _⟩ := own_shape ho
      obtain ⟨D, hD⟩ : ∃ D, D = B ++ T := ⟨_, rfl⟩
      rw [← hD] at EX
      have HDE : Hid (D = B ++ T) := hD
      have HEX : Hid (OwnB W1 w.heap.size (.slice xa xn xc) D ∧ Below w.heap.size w W1) := ⟨EX.ob, EX.up⟩
      have HDL : Hid (D.length + [((tn / 2 : Nat) : Int)].length ≤ 140737488355328) := by have := HBB.out; unfold Hid; rw [hD]; simp only [List.length_append, List.length_cons, List.length_nil]; omega
      have HS1 : Hid (w.heap.size ≤ W1.heap.size) := EX.up.size
      have HK1 : Hid (∀ y ∈ [((tn / 2 : Nat) : Int)], 0 ≤ y ∧ y ≤ 255) := by unfold Hid; simp; omega
      clear ho hg ha EX hD EW HTO
      go_wp2_with (at_builtin; refine wpList_append_lits_at W1 rfl _ _ rfl w.heap.size (.slice xa xn xc) D rfl HEX.out.1 [((tn / 2 : Nat) : Int)] 1 _ rfl rfl ?hcs HK1.out HDL.out HS1.out ?_)
      case hcs => simp
      intro v2 W2 ho hg ha
      have u2 : Below w.heap.size w W2 := HEX.out.2.grown hg HEX.out.2.size (fun q hq => (HEX.out.1.lt q hq).1)
      obtain ⟨ya, yn, yc, rfl, _⟩ := own_shape ho
      have HY : Hid (D ++ [((tn / 2 : Nat) : Int)] = blockO l) := by
        unfold Hid
        rw [HBK.out, HDE.out, HTN.out]
        have := HBB.out.2
        rw [Nat.mod_eq_of_lt (show T.length / 2 < 256 by omega)]
      rw [show ((tn : Int) / 2) = ((tn / 2 : Nat) : Int) by omega, HY.out] at ho
      have HOB : Hid (Octs W2 (.slice ya yn yc) (blockO l)) := by
        refine Octs.own ho ?_
        rw [HBK.out]
        refine OctL.app (OctL.app HBO.out.1 HBO.out.2) ?_
        intro y hy
        simp at hy
        omega
      have HBL : Hid ((blockO l).length ≤ 140737488351232) := by
        have := HBB.out
        unfold Hid
        rw [HBK.out]
        simp only [List.length_append, List.length_cons, List.length_nil]
        omega
      have HU2 : Hid (Below w.heap.size w W2) := u2
      clear ho hg ha u2
      go_wp2_with fail
      refine (guard_any (blockO l) _ W2 HOB.out HBL.out).mono ?_
      rintro e W3 ⟨v3, rfl, ho3, hb3⟩
      have HO3 : Hid (OwnB W3 w.heap.size v3 (guardOf (blockO l))) := OwnB.mono (base := W2.heap.size) ho3 HU2.out.size
      have HU3 : Hid (Below w.heap.size w W3) := up_trans HU2.out hb3
      clear ho3 hb3
      go_wp2_with fail
      go_ret2
      exact ⟨v3, rfl, HO3.out, HU3.out⟩
theorem encP_any (l : List En) (v : Value) (w : World) (hv : EntsR w v l) :
    Calls Tryz.prog 64 #[v] w fun e w' => ∃ v', e = .returned (.tuple #[v', .int .i64 (encB l).2]) ∧ OwnB w' w.heap.size v' (encB l).1 ∧ Below w.heap.size w w' := by
  obtain ⟨a, c, rfl, hc, hm⟩ := hv.len
  by_cases h0 : chkB l = 0
  · have e : encB l = (guardOf (blockO l), 0) := by unfold encB; rw [if_pos h0]
    rw [e]
    exact encode_good l a c w hv h0
  · have e : encB l = ([], chkB l) := by unfold encB; rw [if_neg h0]
    rw [e]
    have HC := hid (checkP_any l _ w hv)
    generalize chkB l = q at *
    have hq1 : (q == 0) = false := by simp [h0]
    have hq2 : (q != 0) = true := by simp [h0]
    clear hv
    go_enter Tryz.func64, Tryz.ntmps64
    go_wp2_with fail
    refine HC.out.mono ?_
    rintro e w1 ⟨rfl, b1⟩
    go_wp2_with fail
    go_ret2
    exact ⟨_, rfl, OwnB.nil _ _, b1.out⟩
theorem encP_law (l : List En) (v : Value) (W : World) (h : EntsR W v l) : Calls Tryz.prog 64 #[v] W fun e w' => ∃ a n c, e = .returned (.tuple #[.slice a n c, .int .i64 (encB l).2]) ∧ Hid (n = (encB l).1.length) ∧ Hid (OwnB w' W.heap.size (.slice a n c) (encB l).1) ∧ Hid (Below W.heap.size W w') := by
  refine (encP_any l v W h).mono ?_
  rintro e w' ⟨v', rfl, h1, h2⟩
  obtain ⟨a, n, c, rfl, _⟩ := own_shape h1
  obtain ⟨_, c2, e2, _⟩ := own_len h1
  simp only [Value.slice.injEq] at e2
  exact ⟨a, n, c, rfl, e2.2.1, h1, h2⟩
end Go.Proofs.YthiegmhplnbdlaaGreat

namespace Go.Proofs.YthiegmhplnbdlaaGreat
open Go.RowKit Go.Shelf SumPlain
set_option linter.unusedVariables false
set_option linter.unusedSimpArgs false
set_option maxRecDepth 20000
attribute [local go_sem] Oper.semAt_some
theorem wpListIn_append_octs_at {F : Fence} {nF : Nat} (w : World) {ops : Array Oper} {rest : List Oper} {o : Oper} {a : Act} {Q : Exit → Act → World → Prop} (hgd : o.guard = none) (s x : Operand)
    (ho : o.op = .call { callee := .builtin .append, args := #[s, x], argTypes := #[25, 25] }) (base : Nat) (v : Value) (l0 : List Int) (hs : a.eval s = v) (hown : OwnB w base v l0)
    (vx : Value) (lx : List Int) (hx : a.eval x = vx) (hO : Octs w vx lx) (hne : lx ≠ []) (hsz : l0.length + lx.length ≤ 140737488355328) (hbase : base ≤ w.heap.size)
    (h : ∀ v' w', OwnB w' base v' (l0 ++ lx) → w.grownBy w' v.ownBlock → (v'.ownBlock = v.ownBlock ∨ v'.ownBlock = some w.heap.size) → wpListIn F nF Tryz.prog ops Q rest (a.put o.dst v') w') : wpListIn F nF Tryz.prog ops Q (o :: rest) a w := by
  obtain ⟨i0, hi, hz0, hz1, hz2⟩ := info_some Tryz.info5
  obtain ⟨hoct, hO⟩ := hO
  rcases hO with ⟨rfl, _⟩ | ⟨hne, b, off, cap, rfl, hcap, hm, hc⟩
  · exact absurd rfl hne
  · refine wpListIn_append_own_at w hgd s x 25 ho base 5 i0 (.int .u8 0) 1 1 Tryz.underlying25 hi hz0 hz1 hz2 rfl (by decide) v l0.length _ hs hown ⟨b, off, none⟩ lx.length cap (lx.map (Value.int .u8)) hx (by simp) ?_ (one_u8 lx) ?_ ?_ hbase ?_
    · intro j u hj
      rw [List.getElem?_map] at hj
      cases hx : lx[j]? with
      | none => rw [hx] at hj; cases hj
      | some y =>
        rw [hx] at hj
        simp at hj
        subst hj
        rw [Addr.add_lit]
        exact hc j y hx
    · unfold maxLen; omega
    · omega
    · intro v' w' h1 h2 _ h4
      refine h v' w' ?_ h2 h4
      unfold OwnB
      rw [List.length_append, List.map_append]
      exact h1
structure BuW (w : World) (v vb vi : Value) (B I : List Int) (r : Loop) (W : World) : Prop where
  fil : W.heap[w.heap.size]? = some (.cells #[.int .i64 0, .slice none 0 0] 57)
  bb : W.heap[w.heap.size + 1]? = some (.cells #[vb] 25)
  ib : W.heap[w.heap.size + 2]? = some (.cells #[vi] 25)
  cb : W.heap[w.heap.size + 3]? = some (.cells #[v] 42)
  dfr : W.heap[w.heap.size + 4]? = some (.deferred (some []))
  loop : W.heap[w.heap.size + 5]? = some (.loop r)
  ob : OwnB W (w.heap.size + 6) vb B
  oi : OwnB W (w.heap.size + 6) vi I
  ap : ∀ g, vb.ownBlock = some g → vi.ownBlock ≠ some g
  below : Below w.heap.size w W
theorem BuW.hb {w : World} {v vb vi : Value} {B I : List Int} {r : Loop} {W : World} (H : BuW w v vb vi B I r W) : w.heap.size + 6 ≤ W.heap.size := by
  have := blk_lt H.loop
  omega
theorem BuW.up {w : World} {v vb vi : Value} {B I : List Int} {r : Loop} {W W' : World} (H : BuW w v vb vi B I r W) (h : Below W.heap.size W W') : BuW w v vb vi B I r W' :=
  ⟨blk_up H.fil h, blk_up H.bb h, blk_up H.ib h, blk_up H.cb h, blk_up H.dfr h, blk_up H.loop h, own_up H.ob h, own_up H.oi h, H.ap, up_trans H.below h⟩
theorem OwnB.apart {w w' : World} {base : Nat} {v : Value} {l : List Int} {r : Option Nat} (h : OwnB w base v l) (hg : w.grownBy w' r) (hr : ∀ k, r = some k → k < base) : OwnB w' base v l := by
  refine h.kept hg ?_
  cases e : v.ownBlock with
  | none => exact .inl rfl
  | some g => exact .inr (fun e2 => by have := hr g e2.symm; have := (h.lt g e).1; omega)
theorem BuW.put {w : World} {v vb vi : Value} {B I : List Int} {r : Loop} {W : World} (H : BuW w v vb vi B I r W) (r' : Loop) : BuW w v vb vi B I r' (W.putObj (w.heap.size + 5) (.loop r')) := by
  have g := grownBy_putObj' W (w.heap.size + 5) (.loop r')
  exact ⟨blk_grown H.fil g (by simp), blk_grown H.bb g (by simp), blk_grown H.ib g (by simp), blk_grown H.cb g (by simp), blk_grown H.dfr g (by simp), World.putObj_heap_same (blk_lt H.loop), H.ob.apart g (fun k hk => by simp at hk; omega), H.oi.apart g (fun k hk => by simp at hk; omega), H.ap, H.below.grown g H.below.size (fun j hj => by simp at hj; omega)⟩
theorem BuW.setB {w : World} {v vb vi vb' : Value} {B I B' : List Int} {r : Loop} {W W' : World} (H : BuW w v vb vi B I r W) (ho : OwnB W' (w.heap.size + 6) vb' B') (hg : W.grownBy W' vb.ownBlock) (ha : vb'.ownBlock = vb.ownBlock ∨ ∃ g, vb'.ownBlock = some g ∧ W.heap.size ≤ g) :
    (∀ k, k < 6 → ∀ o, W.heap[w.heap.size + k]? = some o → W'.heap[w.heap.size + k]? = some o) ∧ BuW w v vb' vi B' I r (W'.setCell ⟨w.heap.size + 1, 0, none⟩ vb') := by
  have hk : ∀ k, k < 6 → some (w.heap.size + k) ≠ vb.ownBlock := fun k hk e => by have := (H.ob.lt _ e.symm).1; omega
  have key : ∀ k, k < 6 → ∀ o, W.heap[w.heap.size + k]? = some o → W'.heap[w.heap.size + k]? = some o := fun k h o ho => blk_grown ho hg (hk k h)
  have g2 := grown_set W' ⟨w.heap.size + 1, 0, none⟩ vb'
  have hoi : OwnB W' (w.heap.size + 6) vi I := H.oi.kept hg (by
    cases e : vi.ownBlock with
    | none => exact .inl rfl
    | some g => exact .inr (fun e2 => H.ap g e2.symm e))
  refine ⟨key, blk_grown (key 0 (by omega) _ H.fil) g2 (by simp), ?_, blk_grown (key 2 (by omega) _ H.ib) g2 (by simp), blk_grown (key 3 (by omega) _ H.cb) g2 (by simp), blk_grown (key 4 (by omega) _ H.dfr) g2 (by simp), blk_grown (key 5 (by omega) _ H.loop) g2 (by simp), ho.apart g2 (fun k hk => by simp at hk; omega), hoi.apart g2 (fun k hk => by simp at hk; omega), ?_, ?_⟩
  · exact blk_set (key 1 (by omega) _ H.bb) 0 _
  · intro g hg1 hg2
    rcases ha with ha | ⟨g3, ha, h3⟩
    · rw [ha] at hg1; exact H.ap g hg1 hg2
    · rw [ha] at hg1
      injection hg1 with e
      have := (H.oi.lt g hg2).2
      omega
  · have u1 : Below w.heap.size w W' := H.below.grown hg H.below.size (fun k hk => by have := (H.ob.lt k hk).1; omega)
    exact u1.grown g2 u1.size (fun j hj => by simp at hj; omega)
theorem BuW.setI {w : World} {v vb vi vi' : Value} {B I I' : List Int} {r : Loop} {W W' : World} (H : BuW w v vb vi B I r W) (ho : OwnB W' (w.heap.size + 6) vi' I') (hg : W.grownBy W' vi.ownBlock) (ha : vi'.ownBlock = vi.ownBlock ∨ ∃ g, vi'.ownBlock = some g ∧ W.heap.size ≤ g) :
    (∀ k, k < 6 → ∀ o, W.heap[w.heap.size + k]? = some o → W'.heap[w.heap.size + k]? = some o) ∧ BuW w v vb vi' B I' r (W'.setCell ⟨w.heap.size + 2, 0, none⟩ vi') := by
  have hk : ∀ k, k < 6 → some (w.heap.size + k) ≠ vi.ownBlock := fun k hk e => by have := (H.oi.lt _ e.symm).1; omega
  have key : ∀ k, k < 6 → ∀ o, W.heap[w.heap.size + k]? = some o → W'.heap[w.heap.size + k]? = some o := fun k h o ho => blk_grown ho hg (hk k h)
  have g2 := grown_set W' ⟨w.heap.size + 2, 0, none⟩ vi'
  have hob : OwnB W' (w.heap.size + 6) vb B := H.ob.kept hg (by
    cases e : vb.ownBlock with
    | none => exact .inl rfl
    | some g => exact .inr (fun e2 => H.ap g e e2.symm))
  refine ⟨key, blk_grown (key 0 (by omega) _ H.fil) g2 (by simp), blk_grown (key 1 (by omega) _ H.bb) g2 (by simp), ?_, blk_grown (key 3 (by omega) _ H.cb) g2 (by simp), blk_grown (key 4 (by omega) _ H.dfr) g2 (by simp), blk_grown (key 5 (by omega) _ H.loop) g2 (by simp), hob.apart g2 (fun k hk => by simp at hk; omega), ho.apart g2 (fun k hk => by simp at hk; omega), ?_, ?_⟩
  · exact blk_set (key 2 (by omega) _ H.ib) 0 _
  · intro g hg1 hg2
    rcases ha with ha | ⟨g3, ha, h3⟩
    · rw [ha] at hg2; exact H.ap g hg1 hg2
    · rw [ha] at hg2
      injection hg2 with e
      have := (H.ob.lt g hg1).2
      omega
  · have u1 : Below w.heap.size w W' := H.below.grown hg H.below.size (fun k hk => by have := (H.oi.lt k hk).1; omega)
    exact u1.grown g2 u1.size (fun j hj => by simp at hj; omega)
end Go.Proofs.YthiegmhplnbdlaaGreat
