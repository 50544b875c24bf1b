/- The walk of the document's Encode of layer 9. -/
import Derived.Test.YtekoniaobmapdabXEnc
namespace Go.Proofs.Ytekoniaobmapdab
open Go.RowKit SumPlain
set_option linter.unusedVariables false
set_option linter.unusedSimpArgs false

theorem nums_cut (s : ByteArray) (a : Nat) : nums (s.extract a (nums s).length) = (nums s).drop a := by
  have h := str_cut (nums s) a (nums s).length
  rw [str_nums] at h
  rw [h, nums_str _ (fun x hx => nums_octet s x (List.mem_of_mem_drop (List.mem_of_mem_take hx)))]
  rw [List.take_of_length_le (by rw [List.length_drop]; exact Nat.le_refl _)]

theorem Octs.put {w : World} {base : Nat} {v : Value} {n : Int} (h : OwnB w base v (octets n)) (h0 : 0 ≤ n) (h1 : n ≤ 18446744073709551615) : Octs w v (octets n) := Octs.own h (octets_form n h0 h1).octet

set_option maxHeartbeats 8000000 in
set_option maxRecDepth 100000 in
theorem refEncode_good (l : List En) (a : Option Addr) (c : Nat) (w : World) (hv : EntsR w (.slice a l.length c) l) (h0 : chkB l = 0) :
    Calls Try.prog 17 #[.slice a l.length c] w fun e w' => ∃ v', e = .returned (.tuple #[v', .int .i64 0]) ∧ OwnB w' w.heap.size v' (guardOf (blockO l)) ∧ Below w.heap.size w w' := by
  have HC : Hid (Calls Try.prog 41 #[.slice a l.length c] w fun e w' => e = .returned (.int .i64 0) ∧ Hid (Below w.heap.size w w')) := by
    have h := refCheckB_any l _ w hv
    rw [h0] at h
    exact h
  obtain ⟨l1, l2, hmay⟩ := chkB_may h0
  have HV : Hid (EntsR w (.slice a l.length c) l) := hv
  have HMAY : Hid (∀ x ∈ l, mayE x = true) := hmay
  obtain ⟨n, hn⟩ : ∃ n, n = l.length := ⟨_, rfl⟩
  have HL : Hid (l.length = n) := hn.symm
  rw [← hn] at HC HV l1 l2 ⊢
  clear hv hmay hn h0
  go_enter Try.func17, Try.ntmps17
  go_wp2_with fail
  refine HC.out.mono ?_
  rintro e w1 ⟨rfl, b1⟩
  have E0 : Hid (EnW w (.slice none 0 0) (.slice none 0 0) (bodyO 0 [] (l.take 0)) (tailO 0 [] 0 (l.take 0)) w1) := ⟨OwnB.nil _ _, OwnB.nil _ _, (fun g h => by simp [Value.ownBlock] at h), b1.out⟩
  clear b1 HC
  go_wp2_with fail
  go_loopw [5, 6, 7] (fun vb vt i wr => ∃ (k : Nat) (ba ta : Option Addr) (bn bc tn tc : Nat), k ≤ n ∧ vb = .slice ba bn bc ∧ vt = .slice ta tn tc ∧ i = .int .i64 k ∧ Hid (EnW w (.slice ba bn bc) (.slice ta tn tc) (bodyO 0 [] (l.take k)) (tailO 0 [] 0 (l.take k)) wr)) (fun _ _ i _ => n - (intOf i).toNat)
  case atStart => exact ⟨0, none, none, 0, 0, 0, 0, Nat.zero_le _, rfl, rfl, rfl, E0⟩
  case round =>
    clear E0
    obtain ⟨k, ba, ta, bn, bc, tn, tc, hk, rfl, rfl, rfl, EW⟩ := hrel
    by_cases hlt : k < n
    · have hlt' : (k : Int) < (n : Int) := by omega
      obtain ⟨b, off, cap, x, e, hx, z0, z1, z2, z3⟩ := (HV.out.up EW.out.up).at k (by rw [HL.out]; exact hlt)
      simp only [Value.slice.injEq] at e
      obtain ⟨rfl, hnn, rfl⟩ := e
      clear hnn
      have hmx : mayE x = true := HMAY.out x (List.mem_of_getElem? hx)
      obtain ⟨mk1, mk2, ms1, ms2, md1, md2, mv1⟩ := mayE_le hmx
      have HBS : Hid (bodyO 0 [] (l.take (k + 1)) = bodyO 0 [] (l.take k) ++ entO (shareN k (lastK [] (l.take k)) x) x) := by
        unfold Hid
        rw [take_at l k x hx, bodyO_snoc, Nat.zero_add, List.length_take, HL.out, Nat.min_eq_left (by omega)]
      have HTS : Hid (tailO 0 [] 0 (l.take (k + 1)) = tailO 0 [] 0 (l.take k) ++ (if k % 4 = 0 then [(((bodyO 0 [] (l.take k)).length / 256 % 256 : Nat) : Int), (((bodyO 0 [] (l.take k)).length % 256 : Nat) : Int)] else [])) := by
        unfold Hid
        rw [take_at l k x hx, tailO_snoc, Nat.zero_add, Nat.zero_add, List.length_take, HL.out, Nat.min_eq_left (by omega)]
      have hbl := bodyO_le (l.take k) 0 [] (fun y hy => HMAY.out y (List.mem_of_mem_take hy))
      have hlk : (l.take k).length = k := by rw [List.length_take, HL.out]; omega
      rw [hlk] at hbl
      obtain ⟨_, c2, e2, hc2⟩ := own_len EW.out.ob
      simp only [Value.slice.injEq] at e2
      have HBN : Hid (bn = (bodyO 0 [] (l.take k)).length) := e2.2.1
      clear e2 hc2 hlk
      have hshr := share_le k (lastK [] (l.take k)) x
      have HSH : Hid (shareN k (lastK [] (l.take k)) x ≤ (nums x.key).length) := hshr.2.1
      have htl := tailO_len (l.take k) 0 [] 0
      have HTL : Hid ((tailO 0 [] 0 (l.take k)).length ≤ 128) := by
        unfold Hid
        have := htl.2
        rw [List.length_take, HL.out] at this
        omega
      clear htl hshr
      have BLT : Hid (b < w.heap.size) := by
        obtain ⟨bb, oo, _, xx, ee, _, zz, _⟩ := HV.out.at k (by rw [HL.out]; exact hlt)
        simp only [Value.slice.injEq, Option.some.injEq, Addr.mk.injEq] at ee
        have := World.block_lt_of_cell? w _ zz
        unfold Hid
        rw [ee.1.1]
        exact this
      have hks : x.key.size = (nums x.key).length := (nums_length _).symm
      have hvs : x.val.size = (nums x.val).length := (nums_length _).symm
      have HX : Hid (l[k]? = some x) := hx
      clear hx
      have hbb : (bodyO 0 [] (l.take k)).length ≤ 41280 := by omega
      clear hbl
      rw [← HBN.out] at HTS hbb
      by_cases h4 : k % 4 = 0
      · have h4a : (k : Int) % 4 = 0 := by omega
        have h4b : (k : Int).tmod 4 = 0 := by rw [Int.tmod_eq_emod_of_nonneg (by omega)]; exact h4a
        have HSN : Hid (shareN k (lastK [] (l.take k)) x = 0) := by unfold Hid shareN; rw [if_pos h4]
        have HT2 : Hid (tailO 0 [] 0 (l.take k) ++ [(bn : Int) / 256, (bn : Int) % 256] = tailO 0 [] 0 (l.take (k + 1))) := by
          unfold Hid
          rw [HTS.out, if_pos h4]
          congr 2
          · omega
        have HS1 : Hid (w.heap.size ≤ wr.heap.size) := EW.out.up.size
        have HSZ : Hid ((tailO 0 [] 0 (l.take k)).length + [(bn : Int) / 256, (bn : Int) % 256].length ≤ 140737488355328) := by have := HTL.out; unfold Hid; simp only [List.length_cons, List.length_nil]; omega
        have HOC : Hid (∀ y ∈ [(bn : Int) / 256, (bn : Int) % 256], 0 ≤ y ∧ y ≤ 255) := by unfold Hid; simp; omega
        go_wp2_with (at_builtin; refine wpList_append_lits_at wr rfl _ _ rfl w.heap.size (.slice ta tn tc) (tailO 0 [] 0 (l.take k)) rfl EW.out.ot [(bn : Int) / 256, (bn : Int) % 256] 2 _ rfl rfl rfl HOC.out HSZ.out HS1.out ?_)
        intro v' w2 ho hg ha
        rw [HT2.out] at ho
        have EW2 := EW.out.appT ho hg ha
        have hlo := (HV.out.up EW2.up).at k (by rw [HL.out]; exact hlt)
        obtain ⟨ta', tn', tc', rfl, htn'⟩ := own_shape ho
        have EW' : Hid (EnW w (.slice ba bn bc) (.slice ta' tn' tc') (bodyO 0 [] (l.take k)) (tailO 0 [] 0 (l.take (k + 1))) w2) := EW2
        clear ho hg ha z0 z1 z2 z3 EW EW2 HT2 HS1 HSZ HOC HTS HTL
        obtain ⟨b', off', cap', x', e', hx', z0, z1, z2, z3⟩ := hlo
        simp only [Value.slice.injEq, Option.some.injEq, Addr.mk.injEq] at e'
        obtain ⟨⟨rfl, rfl, _⟩, hnn2, rfl⟩ := e'
        clear hnn2
        obtain rfl : x = x' := by rw [HX.out] at hx'; injection hx'
        clear hx'
        have hn0 : 0 ≤ (0 : Int) ∧ (0 : Int) ≤ 18446744073709551615 := by omega
        have hn1 : 0 ≤ (((nums x.key).length : Int) : Int) ∧ (((nums x.key).length : Int) : Int) ≤ 18446744073709551615 := by omega
        have hn2 : 0 ≤ (x.seq : Int) ∧ (x.seq : Int) ≤ 18446744073709551615 := by omega
        have hn3 : 0 ≤ (((nums x.val).length : Int) : Int) ∧ (((nums x.val).length : Int) : Int) ≤ 18446744073709551615 := by omega
        obtain ⟨O0, hO0⟩ : ∃ O, O = octets (0 : Int) := ⟨_, rfl⟩
        have OE0 : Hid (O0 = octets (0 : Int)) := hO0
        have OL0 : Hid (O0.length ≤ 9) := by unfold Hid; rw [hO0]; exact (octets_len _ hn0.1 hn0.2).2
        have HP0 : Hid (∀ W : World, Calls Try.prog 18 #[.int .u64 (0 : Int)] W fun e w' => ∃ a n' c, e = .returned (.slice a n' c) ∧ Hid (Octs w' (.slice a n' c) O0) ∧ Hid (Below W.heap.size W w')) := by
          intro W
          refine (refPut_any _ W hn0.1 hn0.2).mono ?_
          rintro e w' ⟨v, rfl, ho, hb⟩
          obtain ⟨a, n', c, rfl, _⟩ := own_shape ho
          refine ⟨a, n', c, rfl, ?_, hb⟩
          rw [hO0]
          exact Octs.put ho hn0.1 hn0.2
        clear hO0
        obtain ⟨O1, hO1⟩ : ∃ O, O = octets (((nums x.key).length : Int) : Int) := ⟨_, rfl⟩
        have OE1 : Hid (O1 = octets (((nums x.key).length : Int) : Int)) := hO1
        have OL1 : Hid (O1.length ≤ 9) := by unfold Hid; rw [hO1]; exact (octets_len _ hn1.1 hn1.2).2
        have HP1 : Hid (∀ W : World, Calls Try.prog 18 #[.int .u64 (((nums x.key).length : Int) : Int)] W fun e w' => ∃ a n' c, e = .returned (.slice a n' c) ∧ Hid (Octs w' (.slice a n' c) O1) ∧ Hid (Below W.heap.size W w')) := by
          intro W
          refine (refPut_any _ W hn1.1 hn1.2).mono ?_
          rintro e w' ⟨v, rfl, ho, hb⟩
          obtain ⟨a, n', c, rfl, _⟩ := own_shape ho
          refine ⟨a, n', c, rfl, ?_, hb⟩
          rw [hO1]
          exact Octs.put ho hn1.1 hn1.2
        clear hO1
        obtain ⟨O2, hO2⟩ : ∃ O, O = octets (x.seq : Int) := ⟨_, rfl⟩
        have OE2 : Hid (O2 = octets (x.seq : Int)) := hO2
        have OL2 : Hid (O2.length ≤ 9) := by unfold Hid; rw [hO2]; exact (octets_len _ hn2.1 hn2.2).2
        have HP2 : Hid (∀ W : World, Calls Try.prog 18 #[.int .u64 (x.seq : Int)] W fun e w' => ∃ a n' c, e = .returned (.slice a n' c) ∧ Hid (Octs w' (.slice a n' c) O2) ∧ Hid (Below W.heap.size W w')) := by
          intro W
          refine (refPut_any _ W hn2.1 hn2.2).mono ?_
          rintro e w' ⟨v, rfl, ho, hb⟩
          obtain ⟨a, n', c, rfl, _⟩ := own_shape ho
          refine ⟨a, n', c, rfl, ?_, hb⟩
          rw [hO2]
          exact Octs.put ho hn2.1 hn2.2
        clear hO2
        obtain ⟨O3, hO3⟩ : ∃ O, O = octets (((nums x.val).length : Int) : Int) := ⟨_, rfl⟩
        have OE3 : Hid (O3 = octets (((nums x.val).length : Int) : Int)) := hO3
        have OL3 : Hid (O3.length ≤ 9) := by unfold Hid; rw [hO3]; exact (octets_len _ hn3.1 hn3.2).2
        have HP3 : Hid (∀ W : World, Calls Try.prog 18 #[.int .u64 (((nums x.val).length : Int) : Int)] W fun e w' => ∃ a n' c, e = .returned (.slice a n' c) ∧ Hid (Octs w' (.slice a n' c) O3) ∧ Hid (Below W.heap.size W w')) := by
          intro W
          refine (refPut_any _ W hn3.1 hn3.2).mono ?_
          rintro e w' ⟨v, rfl, ho, hb⟩
          obtain ⟨a, n', c, rfl, _⟩ := own_shape ho
          refine ⟨a, n', c, rfl, ?_, hb⟩
          rw [hO3]
          exact Octs.put ho hn3.1 hn3.2
        clear hO3
        obtain ⟨C, hC⟩ : ∃ C, C = bodyO 0 [] (l.take k) := ⟨_, rfl⟩
        have CE : Hid (C = bodyO 0 [] (l.take k)) := hC
        have CL : Hid (C.length ≤ 41280) := by unfold Hid; rw [hC, ← HBN.out]; exact hbb
        rw [← hC] at EW'
        clear hC hbb
        obtain ⟨TT, hTT⟩ : ∃ TT, TT = tailO 0 [] 0 (l.take (k + 1)) := ⟨_, rfl⟩
        have TE : Hid (TT = tailO 0 [] 0 (l.take (k + 1))) := hTT
        rw [← hTT] at EW'
        clear hTT
        go_wp2_with fail
        go_region
        have NW : Hid ((w2.alloc (.cells #[.int .i64 0, .int .i64 ((nums x.key).length : Int), .int .i64 x.seq, .int .i64 ((nums x.val).length : Int)] 3)).drew.heap[w2.heap.size]? = some (.cells #[.int .i64 0, .int .i64 ((nums x.key).length : Int), .int .i64 x.seq, .int .i64 ((nums x.val).length : Int)] 3)) := blk_up (blk_new _ _) (up_dr (Below.refl _ _))
        have ua : Below w2.heap.size w2 (w2.alloc (.cells #[.int .i64 0, .int .i64 ((nums x.key).length : Int), .int .i64 x.seq, .int .i64 ((nums x.val).length : Int)] 3)).drew := up_dr (up_alloc _ _)
        have EA : Hid (EnW w (.slice ba bn bc) (.slice ta' tn' tc') C TT (w2.alloc (.cells #[.int .i64 0, .int .i64 ((nums x.key).length : Int), .int .i64 x.seq, .int .i64 ((nums x.val).length : Int)] 3)).drew) := EW'.out.upw ua
        have Z : Hid ((w2.alloc (.cells #[.int .i64 0, .int .i64 ((nums x.key).length : Int), .int .i64 x.seq, .int .i64 ((nums x.val).length : Int)] 3)).drew.cell? ⟨b, off + k * 4, none⟩ = some (.string x.key) ∧ (w2.alloc (.cells #[.int .i64 0, .int .i64 ((nums x.key).length : Int), .int .i64 x.seq, .int .i64 ((nums x.val).length : Int)] 3)).drew.cell? ⟨b, off + k * 4 + 2, none⟩ = some (.int .i64 x.kind) ∧ (w2.alloc (.cells #[.int .i64 0, .int .i64 ((nums x.key).length : Int), .int .i64 x.seq, .int .i64 ((nums x.val).length : Int)] 3)).drew.cell? ⟨b, off + k * 4 + 3, none⟩ = some (.string x.val)) := ⟨(ua.cell (World.block_lt_of_cell? w2 _ z0)).trans z0, (ua.cell (World.block_lt_of_cell? w2 _ z2)).trans z2, (ua.cell (World.block_lt_of_cell? w2 _ z3)).trans z3⟩
        clear z0 z1 z2 z3 ua EW'
        generalize (w2.alloc (.cells #[.int .i64 0, .int .i64 ((nums x.key).length : Int), .int .i64 x.seq, .int .i64 ((nums x.val).length : Int)] 3)).drew = W3 at *
        generalize w2.heap.size = M at *
        go_wp2_with fail
        refine wp_loop_rounds 5 ?_
        rw [rounds_succ]
        have m0 := blk_cell NW.out 0 _ rfl
        go_wp2_with fail
        refine (HP0.out _).mono ?_
        rintro e p0 ⟨pa0, pn0, pc0, rfl, PO0, pb0⟩
        clear m0 HP0
        have EP0 : Hid (EnW w (.slice ba bn bc) (.slice ta' tn' tc') C TT p0) := EA.out.upw pb0.out
        have NP0 : Hid (p0.heap[M]? = some (.cells #[.int .i64 0, .int .i64 ((nums x.key).length : Int), .int .i64 x.seq, .int .i64 ((nums x.val).length : Int)] 3)) := blk_up NW.out pb0.out
        have ZP0 : Hid (p0.cell? ⟨b, off + k * 4, none⟩ = some (.string x.key) ∧ p0.cell? ⟨b, off + k * 4 + 2, none⟩ = some (.int .i64 x.kind) ∧ p0.cell? ⟨b, off + k * 4 + 3, none⟩ = some (.string x.val)) := ⟨(pb0.out.cell (World.block_lt_of_cell? _ _ Z.out.1)).trans Z.out.1, (pb0.out.cell (World.block_lt_of_cell? _ _ Z.out.2.1)).trans Z.out.2.1, (pb0.out.cell (World.block_lt_of_cell? _ _ Z.out.2.2)).trans Z.out.2.2⟩
        have HS0 : Hid (w.heap.size ≤ p0.heap.size) := EP0.out.up.size
        have HZ0 : Hid (C.length + O0.length ≤ 140737488355328) := by have := CL.out; have := OL0.out; unfold Hid; omega
        clear NW Z EA pb0
        go_wp2_with (at_builtin; refine wpList_append_octs_at p0 rfl _ _ rfl w.heap.size (.slice ba bn bc) C rfl EP0.out.ob (.slice pa0 pn0 pc0) O0 rfl PO0.out HZ0.out HS0.out ?_)
        intro v0 W0' ho hg ha
        obtain ⟨ba0, bn0, bc0, rfl, _⟩ := own_shape ho
        obtain ⟨C0, hC0⟩ : ∃ C', C' = C ++ O0 := ⟨_, rfl⟩
        rw [← hC0] at ho
        have CE0 : Hid (C0 = C ++ O0) := hC0
        have CL0 : Hid (C0.length ≤ 41289) := by have := CL.out; have := OL0.out; unfold Hid; rw [hC0, List.length_append]; omega
        clear CL hC0
        have CL := CL0
        clear CL0
        have EA : Hid (EnW w (.slice ba0 bn0 bc0) (.slice ta' tn' tc') C0 TT W0') := EP0.out.appB ho hg (ha.imp id fun h => ⟨_, h, Nat.le_refl _⟩)
        have NW : Hid (W0'.heap[M]? = some (.cells #[.int .i64 0, .int .i64 ((nums x.key).length : Int), .int .i64 x.seq, .int .i64 ((nums x.val).length : Int)] 3)) := blk_grown NP0.out hg (fun e => by
          rcases own_blk_ne EP0.out.ob NP0.out (by decide) with q | q
          · rw [q] at e; cases e
          · exact q e.symm)
        have Z : Hid (W0'.cell? ⟨b, off + k * 4, none⟩ = some (.string x.key) ∧ W0'.cell? ⟨b, off + k * 4 + 2, none⟩ = some (.int .i64 x.kind) ∧ W0'.cell? ⟨b, off + k * 4 + 3, none⟩ = some (.string x.val)) := by
          have hne : ∀ g, (Value.slice ba bn bc).ownBlock = some g → b ≠ g := fun g q e => by have := (EP0.out.ob.lt g q).1; have := BLT.out; omega
          have hb : some b ≠ (Value.slice ba bn bc).ownBlock := fun e => hne b e.symm rfl
          exact ⟨hg.cell ZP0.out.1 hb, hg.cell ZP0.out.2.1 hb, hg.cell ZP0.out.2.2 hb⟩
        clear ho hg ha EP0 NP0 ZP0 PO0 HS0 HZ0
        go_wp2_with fail
        rw [rounds_succ]
        have m1 := blk_cell NW.out 1 _ rfl
        go_wp2_with fail
        refine (HP1.out _).mono ?_
        rintro e p1 ⟨pa1, pn1, pc1, rfl, PO1, pb1⟩
        clear m1 HP1
        have EP1 : Hid (EnW w (.slice ba0 bn0 bc0) (.slice ta' tn' tc') C0 TT p1) := EA.out.upw pb1.out
        have NP1 : Hid (p1.heap[M]? = some (.cells #[.int .i64 0, .int .i64 ((nums x.key).length : Int), .int .i64 x.seq, .int .i64 ((nums x.val).length : Int)] 3)) := blk_up NW.out pb1.out
        have ZP1 : Hid (p1.cell? ⟨b, off + k * 4, none⟩ = some (.string x.key) ∧ p1.cell? ⟨b, off + k * 4 + 2, none⟩ = some (.int .i64 x.kind) ∧ p1.cell? ⟨b, off + k * 4 + 3, none⟩ = some (.string x.val)) := ⟨(pb1.out.cell (World.block_lt_of_cell? _ _ Z.out.1)).trans Z.out.1, (pb1.out.cell (World.block_lt_of_cell? _ _ Z.out.2.1)).trans Z.out.2.1, (pb1.out.cell (World.block_lt_of_cell? _ _ Z.out.2.2)).trans Z.out.2.2⟩
        have HS1 : Hid (w.heap.size ≤ p1.heap.size) := EP1.out.up.size
        have HZ1 : Hid (C0.length + O1.length ≤ 140737488355328) := by have := CL.out; have := OL1.out; unfold Hid; omega
        clear NW Z EA pb1
        go_wp2_with (at_builtin; refine wpList_append_octs_at p1 rfl _ _ rfl w.heap.size (.slice ba0 bn0 bc0) C0 rfl EP1.out.ob (.slice pa1 pn1 pc1) O1 rfl PO1.out HZ1.out HS1.out ?_)
        intro v1 W1' ho hg ha
        obtain ⟨ba1, bn1, bc1, rfl, _⟩ := own_shape ho
        obtain ⟨C1, hC1⟩ : ∃ C', C' = C0 ++ O1 := ⟨_, rfl⟩
        rw [← hC1] at ho
        have CE1 : Hid (C1 = C0 ++ O1) := hC1
        have CL1 : Hid (C1.length ≤ 41298) := by have := CL.out; have := OL1.out; unfold Hid; rw [hC1, List.length_append]; omega
        clear CL hC1
        have CL := CL1
        clear CL1
        have EA : Hid (EnW w (.slice ba1 bn1 bc1) (.slice ta' tn' tc') C1 TT W1') := EP1.out.appB ho hg (ha.imp id fun h => ⟨_, h, Nat.le_refl _⟩)
        have NW : Hid (W1'.heap[M]? = some (.cells #[.int .i64 0, .int .i64 ((nums x.key).length : Int), .int .i64 x.seq, .int .i64 ((nums x.val).length : Int)] 3)) := blk_grown NP1.out hg (fun e => by
          rcases own_blk_ne EP1.out.ob NP1.out (by decide) with q | q
          · rw [q] at e; cases e
          · exact q e.symm)
        have Z : Hid (W1'.cell? ⟨b, off + k * 4, none⟩ = some (.string x.key) ∧ W1'.cell? ⟨b, off + k * 4 + 2, none⟩ = some (.int .i64 x.kind) ∧ W1'.cell? ⟨b, off + k * 4 + 3, none⟩ = some (.string x.val)) := by
          have hne : ∀ g, (Value.slice ba0 bn0 bc0).ownBlock = some g → b ≠ g := fun g q e => by have := (EP1.out.ob.lt g q).1; have := BLT.out; omega
          have hb : some b ≠ (Value.slice ba0 bn0 bc0).ownBlock := fun e => hne b e.symm rfl
          exact ⟨hg.cell ZP1.out.1 hb, hg.cell ZP1.out.2.1 hb, hg.cell ZP1.out.2.2 hb⟩
        clear ho hg ha EP1 NP1 ZP1 PO1 HS1 HZ1
        go_wp2_with fail
        rw [rounds_succ]
        have m2 := blk_cell NW.out 2 _ rfl
        go_wp2_with fail
        refine (HP2.out _).mono ?_
        rintro e p2 ⟨pa2, pn2, pc2, rfl, PO2, pb2⟩
        clear m2 HP2
        have EP2 : Hid (EnW w (.slice ba1 bn1 bc1) (.slice ta' tn' tc') C1 TT p2) := EA.out.upw pb2.out
        have NP2 : Hid (p2.heap[M]? = some (.cells #[.int .i64 0, .int .i64 ((nums x.key).length : Int), .int .i64 x.seq, .int .i64 ((nums x.val).length : Int)] 3)) := blk_up NW.out pb2.out
        have ZP2 : Hid (p2.cell? ⟨b, off + k * 4, none⟩ = some (.string x.key) ∧ p2.cell? ⟨b, off + k * 4 + 2, none⟩ = some (.int .i64 x.kind) ∧ p2.cell? ⟨b, off + k * 4 + 3, none⟩ = some (.string x.val)) := ⟨(pb2.out.cell (World.block_lt_of_cell? _ _ Z.out.1)).trans Z.out.1, (pb2.out.cell (World.block_lt_of_cell? _ _ Z.out.2.1)).trans Z.out.2.1, (pb2.out.cell (World.block_lt_of_cell? _ _ Z.out.2.2)).trans Z.out.2.2⟩
        have HS2 : Hid (w.heap.size ≤ p2.heap.size) := EP2.out.up.size
        have HZ2 : Hid (C1.length + O2.length ≤ 140737488355328) := by have := CL.out; have := OL2.out; unfold Hid; omega
        clear NW Z EA pb2
        go_wp2_with (at_builtin; refine wpList_append_octs_at p2 rfl _ _ rfl w.heap.size (.slice ba1 bn1 bc1) C1 rfl EP2.out.ob (.slice pa2 pn2 pc2) O2 rfl PO2.out HZ2.out HS2.out ?_)
        intro v2 W2' ho hg ha
        obtain ⟨ba2, bn2, bc2, rfl, _⟩ := own_shape ho
        obtain ⟨C2, hC2⟩ : ∃ C', C' = C1 ++ O2 := ⟨_, rfl⟩
        rw [← hC2] at ho
        have CE2 : Hid (C2 = C1 ++ O2) := hC2
        have CL2 : Hid (C2.length ≤ 41307) := by have := CL.out; have := OL2.out; unfold Hid; rw [hC2, List.length_append]; omega
        clear CL hC2
        have CL := CL2
        clear CL2
        have EA : Hid (EnW w (.slice ba2 bn2 bc2) (.slice ta' tn' tc') C2 TT W2') := EP2.out.appB ho hg (ha.imp id fun h => ⟨_, h, Nat.le_refl _⟩)
        have NW : Hid (W2'.heap[M]? = some (.cells #[.int .i64 0, .int .i64 ((nums x.key).length : Int), .int .i64 x.seq, .int .i64 ((nums x.val).length : Int)] 3)) := blk_grown NP2.out hg (fun e => by
          rcases own_blk_ne EP2.out.ob NP2.out (by decide) with q | q
          · rw [q] at e; cases e
          · exact q e.symm)
        have Z : Hid (W2'.cell? ⟨b, off + k * 4, none⟩ = some (.string x.key) ∧ W2'.cell? ⟨b, off + k * 4 + 2, none⟩ = some (.int .i64 x.kind) ∧ W2'.cell? ⟨b, off + k * 4 + 3, none⟩ = some (.string x.val)) := by
          have hne : ∀ g, (Value.slice ba1 bn1 bc1).ownBlock = some g → b ≠ g := fun g q e => by have := (EP2.out.ob.lt g q).1; have := BLT.out; omega
          have hb : some b ≠ (Value.slice ba1 bn1 bc1).ownBlock := fun e => hne b e.symm rfl
          exact ⟨hg.cell ZP2.out.1 hb, hg.cell ZP2.out.2.1 hb, hg.cell ZP2.out.2.2 hb⟩
        clear ho hg ha EP2 NP2 ZP2 PO2 HS2 HZ2
        go_wp2_with fail
        rw [rounds_succ]
        have m3 := blk_cell NW.out 3 _ rfl
        go_wp2_with fail
        refine (HP3.out _).mono ?_
        rintro e p3 ⟨pa3, pn3, pc3, rfl, PO3, pb3⟩
        clear m3 HP3
        have EP3 : Hid (EnW w (.slice ba2 bn2 bc2) (.slice ta' tn' tc') C2 TT p3) := EA.out.upw pb3.out
        have NP3 : Hid (p3.heap[M]? = some (.cells #[.int .i64 0, .int .i64 ((nums x.key).length : Int), .int .i64 x.seq, .int .i64 ((nums x.val).length : Int)] 3)) := blk_up NW.out pb3.out
        have ZP3 : Hid (p3.cell? ⟨b, off + k * 4, none⟩ = some (.string x.key) ∧ p3.cell? ⟨b, off + k * 4 + 2, none⟩ = some (.int .i64 x.kind) ∧ p3.cell? ⟨b, off + k * 4 + 3, none⟩ = some (.string x.val)) := ⟨(pb3.out.cell (World.block_lt_of_cell? _ _ Z.out.1)).trans Z.out.1, (pb3.out.cell (World.block_lt_of_cell? _ _ Z.out.2.1)).trans Z.out.2.1, (pb3.out.cell (World.block_lt_of_cell? _ _ Z.out.2.2)).trans Z.out.2.2⟩
        have HS3 : Hid (w.heap.size ≤ p3.heap.size) := EP3.out.up.size
        have HZ3 : Hid (C2.length + O3.length ≤ 140737488355328) := by have := CL.out; have := OL3.out; unfold Hid; omega
        clear NW Z EA pb3
        go_wp2_with (at_builtin; refine wpList_append_octs_at p3 rfl _ _ rfl w.heap.size (.slice ba2 bn2 bc2) C2 rfl EP3.out.ob (.slice pa3 pn3 pc3) O3 rfl PO3.out HZ3.out HS3.out ?_)
        intro v3 W3' ho hg ha
        obtain ⟨ba3, bn3, bc3, rfl, _⟩ := own_shape ho
        obtain ⟨C3, hC3⟩ : ∃ C', C' = C2 ++ O3 := ⟨_, rfl⟩
        rw [← hC3] at ho
        have CE3 : Hid (C3 = C2 ++ O3) := hC3
        have CL3 : Hid (C3.length ≤ 41316) := by have := CL.out; have := OL3.out; unfold Hid; rw [hC3, List.length_append]; omega
        clear CL hC3
        have CL := CL3
        clear CL3
        have EA : Hid (EnW w (.slice ba3 bn3 bc3) (.slice ta' tn' tc') C3 TT W3') := EP3.out.appB ho hg (ha.imp id fun h => ⟨_, h, Nat.le_refl _⟩)
        have NW : Hid (W3'.heap[M]? = some (.cells #[.int .i64 0, .int .i64 ((nums x.key).length : Int), .int .i64 x.seq, .int .i64 ((nums x.val).length : Int)] 3)) := blk_grown NP3.out hg (fun e => by
          rcases own_blk_ne EP3.out.ob NP3.out (by decide) with q | q
          · rw [q] at e; cases e
          · exact q e.symm)
        have Z : Hid (W3'.cell? ⟨b, off + k * 4, none⟩ = some (.string x.key) ∧ W3'.cell? ⟨b, off + k * 4 + 2, none⟩ = some (.int .i64 x.kind) ∧ W3'.cell? ⟨b, off + k * 4 + 3, none⟩ = some (.string x.val)) := by
          have hne : ∀ g, (Value.slice ba2 bn2 bc2).ownBlock = some g → b ≠ g := fun g q e => by have := (EP3.out.ob.lt g q).1; have := BLT.out; omega
          have hb : some b ≠ (Value.slice ba2 bn2 bc2).ownBlock := fun e => hne b e.symm rfl
          exact ⟨hg.cell ZP3.out.1 hb, hg.cell ZP3.out.2.1 hb, hg.cell ZP3.out.2.2 hb⟩
        clear ho hg ha EP3 NP3 ZP3 PO3 HS3 HZ3
        go_wp2_with fail
        rw [rounds_succ]
        clear NW
        have y2 := Z.out.2.1
        have HS4 : Hid (w.heap.size ≤ W3'.heap.size) := EA.out.up.size
        have HZ4 : Hid (C3.length + [x.kind].length ≤ 140737488355328) := by have := CL.out; unfold Hid; simp; omega
        have HK4 : Hid (∀ y ∈ [x.kind], 0 ≤ y ∧ y ≤ 255) := by unfold Hid; simp; omega
        have hkm : x.kind % 256 = x.kind := by omega
        go_wp2_with (at_builtin; refine wpList_append_lits_at W3' rfl _ _ rfl w.heap.size (.slice ba3 bn3 bc3) C3 rfl EA.out.ob [x.kind] 1 _ rfl rfl rfl HK4.out HZ4.out HS4.out ?_)
        intro v4 W4' ho hg ha
        obtain ⟨ba4, bn4, bc4, rfl, _⟩ := own_shape ho
        obtain ⟨C4, hC4⟩ : ∃ C', C' = C3 ++ [x.kind] := ⟨_, rfl⟩
        rw [← hC4] at ho
        have CE4 : Hid (C4 = C3 ++ [x.kind]) := hC4
        have CL4 : Hid (C4.length ≤ 41317) := by have := CL.out; unfold Hid; rw [hC4, List.length_append]; simp only [List.length_cons, List.length_nil]; omega
        clear CL hC4
        have CL := CL4
        clear CL4
        have EB : Hid (EnW w (.slice ba4 bn4 bc4) (.slice ta' tn' tc') C4 TT W4') := EA.out.appB ho hg ha
        have ZB : Hid (W4'.cell? ⟨b, off + k * 4, none⟩ = some (.string x.key) ∧ W4'.cell? ⟨b, off + k * 4 + 2, none⟩ = some (.int .i64 x.kind) ∧ W4'.cell? ⟨b, off + k * 4 + 3, none⟩ = some (.string x.val)) := by
          have hne : ∀ g, (Value.slice ba3 bn3 bc3).ownBlock = some g → b ≠ g := fun g q e => by have := (EA.out.ob.lt g q).1; have := BLT.out; omega
          have hb : some b ≠ (Value.slice ba3 bn3 bc3).ownBlock := fun e => hne b e.symm rfl
          exact ⟨hg.cell Z.out.1 hb, hg.cell Z.out.2.1 hb, hg.cell Z.out.2.2 hb⟩
        clear ho hg ha EA Z
        have EA := EB
        have Z := ZB
        clear EB ZB
        clear y2 HS4 HZ4 HK4 hkm
        have y0 := Z.out.1
        have HS5 : Hid (w.heap.size ≤ W4'.heap.size) := EA.out.up.size
        have KXE : Hid (nums (x.key.extract 0 (nums x.key).length) = (nums x.key).drop 0) := nums_cut x.key 0
        have KXL : Hid ((x.key.extract 0 (nums x.key).length).size ≤ 96) := by unfold Hid; rw [← nums_length, KXE.out, List.length_drop]; omega
        have HZ5 : Hid (C4.length + (x.key.extract 0 (nums x.key).length).size ≤ 140737488355328) := by have := CL.out; have := KXL.out; unfold Hid; omega
        go_wp2_with (at_builtin; refine wpList_append_str_at W4' rfl _ _ rfl w.heap.size (.slice ba4 bn4 bc4) C4 rfl EA.out.ob (x.key.extract 0 (nums x.key).length) rfl HZ5.out HS5.out ?_)
        intro v5 W5' ho hg ha
        rw [KXE.out] at ho
        obtain ⟨ba5, bn5, bc5, rfl, _⟩ := own_shape ho
        obtain ⟨C5, hC5⟩ : ∃ C', C' = C4 ++ (nums x.key).drop 0 := ⟨_, rfl⟩
        rw [← hC5] at ho
        have CE5 : Hid (C5 = C4 ++ (nums x.key).drop 0) := hC5
        have CL5 : Hid (C5.length ≤ 41413) := by have := CL.out; unfold Hid; rw [hC5, List.length_append]; rw [List.length_drop]; omega
        clear CL hC5
        have CL := CL5
        clear CL5
        have EB : Hid (EnW w (.slice ba5 bn5 bc5) (.slice ta' tn' tc') C5 TT W5') := EA.out.appB ho hg ha
        have ZB : Hid (W5'.cell? ⟨b, off + k * 4, none⟩ = some (.string x.key) ∧ W5'.cell? ⟨b, off + k * 4 + 2, none⟩ = some (.int .i64 x.kind) ∧ W5'.cell? ⟨b, off + k * 4 + 3, none⟩ = some (.string x.val)) := by
          have hne : ∀ g, (Value.slice ba4 bn4 bc4).ownBlock = some g → b ≠ g := fun g q e => by have := (EA.out.ob.lt g q).1; have := BLT.out; omega
          have hb : some b ≠ (Value.slice ba4 bn4 bc4).ownBlock := fun e => hne b e.symm rfl
          exact ⟨hg.cell Z.out.1 hb, hg.cell Z.out.2.1 hb, hg.cell Z.out.2.2 hb⟩
        clear ho hg ha EA Z
        have EA := EB
        have Z := ZB
        clear EB ZB
        clear y0 HS5 HZ5
        have y3 := Z.out.2.2
        have HS6 : Hid (w.heap.size ≤ W5'.heap.size) := EA.out.up.size
        have HZ6 : Hid (C5.length + x.val.size ≤ 140737488355328) := by have := CL.out; unfold Hid; omega
        go_wp2_with (at_builtin; refine wpList_append_str_at W5' rfl _ _ rfl w.heap.size (.slice ba5 bn5 bc5) C5 rfl EA.out.ob x.val rfl HZ6.out HS6.out ?_)
        intro v6 W6' ho hg ha
        obtain ⟨ba6, bn6, bc6, rfl, _⟩ := own_shape ho
        obtain ⟨C6, hC6⟩ : ∃ C', C' = C5 ++ nums x.val := ⟨_, rfl⟩
        rw [← hC6] at ho
        have CE6 : Hid (C6 = C5 ++ nums x.val) := hC6
        have CL6 : Hid (C6.length ≤ 41925) := by have := CL.out; unfold Hid; rw [hC6, List.length_append]; omega
        clear CL hC6
        have CL := CL6
        clear CL6
        have EB : Hid (EnW w (.slice ba6 bn6 bc6) (.slice ta' tn' tc') C6 TT W6') := EA.out.appB ho hg ha
        have ZB : Hid (W6'.cell? ⟨b, off + k * 4, none⟩ = some (.string x.key) ∧ W6'.cell? ⟨b, off + k * 4 + 2, none⟩ = some (.int .i64 x.kind) ∧ W6'.cell? ⟨b, off + k * 4 + 3, none⟩ = some (.string x.val)) := by
          have hne : ∀ g, (Value.slice ba5 bn5 bc5).ownBlock = some g → b ≠ g := fun g q e => by have := (EA.out.ob.lt g q).1; have := BLT.out; omega
          have hb : some b ≠ (Value.slice ba5 bn5 bc5).ownBlock := fun e => hne b e.symm rfl
          exact ⟨hg.cell Z.out.1 hb, hg.cell Z.out.2.1 hb, hg.cell Z.out.2.2 hb⟩
        clear ho hg ha EA Z
        have EA := EB
        have Z := ZB
        clear EB ZB
        clear y3 HS6 HZ6 Z
        go_wp2_with fail
        refine ⟨⟨k + 1, ba6, ta', bn6, bc6, tn', tc', by omega, rfl, rfl, by go_num, ?_⟩, by simp [intOf]; omega⟩
        unfold Hid
        have hfin : C6 = bodyO 0 [] (l.take (k + 1)) := by
          rw [HBS.out, HSN.out, CE6.out, CE5.out, CE4.out, CE3.out, CE2.out, CE1.out, CE0.out, CE.out, OE0.out, OE1.out, OE2.out, OE3.out]
          unfold entO
          simp only [List.append_assoc, List.cons_append, List.nil_append, Nat.sub_zero, List.drop_zero]
          rfl
        rw [← hfin, ← TE.out]
        exact EA.out
      · have h4a : ¬ (k : Int) % 4 = 0 := by omega
        have h4b : ((k : Int).tmod 4 == 0) = false := by rw [Int.tmod_eq_emod_of_nonneg (by omega)]; simpa using h4a
        have h4c : ((k : Int) % 4 == 0) = false := by simpa using h4a
        obtain ⟨j, hj⟩ : ∃ j, k = j + 1 := ⟨k - 1, by omega⟩
        obtain ⟨b2, off2, cap2, y, e2, hy, t0, t1, t2, t3⟩ := (HV.out.up EW.out.up).at j (by rw [HL.out]; omega)
        simp only [Value.slice.injEq, Option.some.injEq, Addr.mk.injEq] at e2
        obtain ⟨⟨rfl, rfl, _⟩, hnn2, rfl⟩ := e2
        clear hnn2 t1 t2 t3
        have hmy : mayE y = true := HMAY.out y (List.mem_of_getElem? hy)
        have hyl := mayE_le hmy
        have hys : y.key.size = (nums y.key).length := (nums_length _).symm
        have HLK : Hid (lastK [] (l.take k) = nums y.key) := by unfold Hid; rw [hj]; exact lastK_take l j y [] hy
        have HSE : Hid (shareN k (lastK [] (l.take k)) x = comL (nums y.key) (nums x.key)) := by unfold Hid; rw [HLK.out]; unfold shareN; rw [if_neg h4]
        have HCM : Hid (∀ W : World, Calls Try.prog 42 #[.string y.key, .string x.key] W fun e w' => e = .returned (.int .i64 (comL (nums y.key) (nums x.key))) ∧ ∃ d, w' = W.drewN d) := fun W => common_any y.key x.key (by omega) (by omega) W
        have hcl := (comL_le (nums y.key) (nums x.key)).2
        generalize comL (nums y.key) (nums x.key) = sN at *
        have HSN : Hid (shareN k (lastK [] (l.take k)) x = sN) := HSE.out
        have hjj : (k : Int) - 1 = (j : Int) := by omega
        have hwj : IntKind.i64.wrap (j : Int) = (j : Int) := by rw [IntKind.wrap_i64]; omega
        have hjl : (j : Int) < (n : Int) := by omega
        have hk0 : 0 < k := by omega
        obtain ⟨rN, hrN⟩ : ∃ rN, rN = (nums x.key).length - sN := ⟨_, rfl⟩
        have RNE : Hid ((nums x.key).length - sN = rN) := hrN.symm
        have hsub : ((nums x.key).length : Int) - (sN : Int) = (rN : Int) := by omega
        have hwr : IntKind.i64.wrap (rN : Int) = (rN : Int) := by rw [IntKind.wrap_i64]; omega
        have HT2 : Hid (tailO 0 [] 0 (l.take k) = tailO 0 [] 0 (l.take (k + 1))) := by unfold Hid; rw [HTS.out, if_neg h4, List.append_nil]
        have hrb : rN ≤ 96 := by omega
        clear hj hrN HSE HLK hy hyl hmy hys
        go_wp2_with fail
        go_quiet ((go_at_call 42; exact Calls.quiet_of (HCM.out _)))
        have ud : Below wr.heap.size wr (wr.drewN nq) := up_drewN _ _
        have EW' : Hid (EnW w (.slice ba bn bc) (.slice ta tn tc) (bodyO 0 [] (l.take k)) (tailO 0 [] 0 (l.take (k + 1))) (wr.drewN nq)) := by
          unfold Hid
          rw [← HT2.out]
          exact EW.out.upw ud
        have z0 := (ud.cell (World.block_lt_of_cell? wr _ z0)).trans z0
        have z1 := (ud.cell (World.block_lt_of_cell? wr _ z1)).trans z1
        have z2 := (ud.cell (World.block_lt_of_cell? wr _ z2)).trans z2
        have z3 := (ud.cell (World.block_lt_of_cell? wr _ z3)).trans z3
        clear ud EW HT2 HTS HTL t0 HCM
        generalize wr.drewN nq = w2 at *
        have hn0 : 0 ≤ ((sN : Int) : Int) ∧ ((sN : Int) : Int) ≤ 18446744073709551615 := by omega
        have hn1 : 0 ≤ ((rN : Int) : Int) ∧ ((rN : Int) : Int) ≤ 18446744073709551615 := by omega
        have hn2 : 0 ≤ (x.seq : Int) ∧ (x.seq : Int) ≤ 18446744073709551615 := by omega
        have hn3 : 0 ≤ (((nums x.val).length : Int) : Int) ∧ (((nums x.val).length : Int) : Int) ≤ 18446744073709551615 := by omega
        obtain ⟨O0, hO0⟩ : ∃ O, O = octets ((sN : Int) : Int) := ⟨_, rfl⟩
        have OE0 : Hid (O0 = octets ((sN : Int) : Int)) := hO0
        have OL0 : Hid (O0.length ≤ 9) := by unfold Hid; rw [hO0]; exact (octets_len _ hn0.1 hn0.2).2
        have HP0 : Hid (∀ W : World, Calls Try.prog 18 #[.int .u64 ((sN : Int) : Int)] W fun e w' => ∃ a n' c, e = .returned (.slice a n' c) ∧ Hid (Octs w' (.slice a n' c) O0) ∧ Hid (Below W.heap.size W w')) := by
          intro W
          refine (refPut_any _ W hn0.1 hn0.2).mono ?_
          rintro e w' ⟨v, rfl, ho, hb⟩
          obtain ⟨a, n', c, rfl, _⟩ := own_shape ho
          refine ⟨a, n', c, rfl, ?_, hb⟩
          rw [hO0]
          exact Octs.put ho hn0.1 hn0.2
        clear hO0
        obtain ⟨O1, hO1⟩ : ∃ O, O = octets ((rN : Int) : Int) := ⟨_, rfl⟩
        have OE1 : Hid (O1 = octets ((rN : Int) : Int)) := hO1
        have OL1 : Hid (O1.length ≤ 9) := by unfold Hid; rw [hO1]; exact (octets_len _ hn1.1 hn1.2).2
        have HP1 : Hid (∀ W : World, Calls Try.prog 18 #[.int .u64 ((rN : Int) : Int)] W fun e w' => ∃ a n' c, e = .returned (.slice a n' c) ∧ Hid (Octs w' (.slice a n' c) O1) ∧ Hid (Below W.heap.size W w')) := by
          intro W
          refine (refPut_any _ W hn1.1 hn1.2).mono ?_
          rintro e w' ⟨v, rfl, ho, hb⟩
          obtain ⟨a, n', c, rfl, _⟩ := own_shape ho
          refine ⟨a, n', c, rfl, ?_, hb⟩
          rw [hO1]
          exact Octs.put ho hn1.1 hn1.2
        clear hO1
        obtain ⟨O2, hO2⟩ : ∃ O, O = octets (x.seq : Int) := ⟨_, rfl⟩
        have OE2 : Hid (O2 = octets (x.seq : Int)) := hO2
        have OL2 : Hid (O2.length ≤ 9) := by unfold Hid; rw [hO2]; exact (octets_len _ hn2.1 hn2.2).2
        have HP2 : Hid (∀ W : World, Calls Try.prog 18 #[.int .u64 (x.seq : Int)] W fun e w' => ∃ a n' c, e = .returned (.slice a n' c) ∧ Hid (Octs w' (.slice a n' c) O2) ∧ Hid (Below W.heap.size W w')) := by
          intro W
          refine (refPut_any _ W hn2.1 hn2.2).mono ?_
          rintro e w' ⟨v, rfl, ho, hb⟩
          obtain ⟨a, n', c, rfl, _⟩ := own_shape ho
          refine ⟨a, n', c, rfl, ?_, hb⟩
          rw [hO2]
          exact Octs.put ho hn2.1 hn2.2
        clear hO2
        obtain ⟨O3, hO3⟩ : ∃ O, O = octets (((nums x.val).length : Int) : Int) := ⟨_, rfl⟩
        have OE3 : Hid (O3 = octets (((nums x.val).length : Int) : Int)) := hO3
        have OL3 : Hid (O3.length ≤ 9) := by unfold Hid; rw [hO3]; exact (octets_len _ hn3.1 hn3.2).2
        have HP3 : Hid (∀ W : World, Calls Try.prog 18 #[.int .u64 (((nums x.val).length : Int) : Int)] W fun e w' => ∃ a n' c, e = .returned (.slice a n' c) ∧ Hid (Octs w' (.slice a n' c) O3) ∧ Hid (Below W.heap.size W w')) := by
          intro W
          refine (refPut_any _ W hn3.1 hn3.2).mono ?_
          rintro e w' ⟨v, rfl, ho, hb⟩
          obtain ⟨a, n', c, rfl, _⟩ := own_shape ho
          refine ⟨a, n', c, rfl, ?_, hb⟩
          rw [hO3]
          exact Octs.put ho hn3.1 hn3.2
        clear hO3
        obtain ⟨C, hC⟩ : ∃ C, C = bodyO 0 [] (l.take k) := ⟨_, rfl⟩
        have CE : Hid (C = bodyO 0 [] (l.take k)) := hC
        have CL : Hid (C.length ≤ 41280) := by unfold Hid; rw [hC, ← HBN.out]; exact hbb
        rw [← hC] at EW'
        clear hC hbb
        obtain ⟨TT, hTT⟩ : ∃ TT, TT = tailO 0 [] 0 (l.take (k + 1)) := ⟨_, rfl⟩
        have TE : Hid (TT = tailO 0 [] 0 (l.take (k + 1))) := hTT
        rw [← hTT] at EW'
        clear hTT
        go_wp2_with fail
        go_region
        have NW : Hid ((w2.alloc (.cells #[.int .i64 (sN : Int), .int .i64 (rN : Int), .int .i64 x.seq, .int .i64 ((nums x.val).length : Int)] 3)).drew.heap[w2.heap.size]? = some (.cells #[.int .i64 (sN : Int), .int .i64 (rN : Int), .int .i64 x.seq, .int .i64 ((nums x.val).length : Int)] 3)) := blk_up (blk_new _ _) (up_dr (Below.refl _ _))
        have ua : Below w2.heap.size w2 (w2.alloc (.cells #[.int .i64 (sN : Int), .int .i64 (rN : Int), .int .i64 x.seq, .int .i64 ((nums x.val).length : Int)] 3)).drew := up_dr (up_alloc _ _)
        have EA : Hid (EnW w (.slice ba bn bc) (.slice ta tn tc) C TT (w2.alloc (.cells #[.int .i64 (sN : Int), .int .i64 (rN : Int), .int .i64 x.seq, .int .i64 ((nums x.val).length : Int)] 3)).drew) := EW'.out.upw ua
        have Z : Hid ((w2.alloc (.cells #[.int .i64 (sN : Int), .int .i64 (rN : Int), .int .i64 x.seq, .int .i64 ((nums x.val).length : Int)] 3)).drew.cell? ⟨b, off + k * 4, none⟩ = some (.string x.key) ∧ (w2.alloc (.cells #[.int .i64 (sN : Int), .int .i64 (rN : Int), .int .i64 x.seq, .int .i64 ((nums x.val).length : Int)] 3)).drew.cell? ⟨b, off + k * 4 + 2, none⟩ = some (.int .i64 x.kind) ∧ (w2.alloc (.cells #[.int .i64 (sN : Int), .int .i64 (rN : Int), .int .i64 x.seq, .int .i64 ((nums x.val).length : Int)] 3)).drew.cell? ⟨b, off + k * 4 + 3, none⟩ = some (.string x.val)) := ⟨(ua.cell (World.block_lt_of_cell? w2 _ z0)).trans z0, (ua.cell (World.block_lt_of_cell? w2 _ z2)).trans z2, (ua.cell (World.block_lt_of_cell? w2 _ z3)).trans z3⟩
        clear z0 z1 z2 z3 ua EW'
        generalize (w2.alloc (.cells #[.int .i64 (sN : Int), .int .i64 (rN : Int), .int .i64 x.seq, .int .i64 ((nums x.val).length : Int)] 3)).drew = W3 at *
        generalize w2.heap.size = M at *
        go_wp2_with fail
        refine wp_loop_rounds 5 ?_
        rw [rounds_succ]
        have m0 := blk_cell NW.out 0 _ rfl
        go_wp2_with fail
        refine (HP0.out _).mono ?_
        rintro e p0 ⟨pa0, pn0, pc0, rfl, PO0, pb0⟩
        clear m0 HP0
        have EP0 : Hid (EnW w (.slice ba bn bc) (.slice ta tn tc) C TT p0) := EA.out.upw pb0.out
        have NP0 : Hid (p0.heap[M]? = some (.cells #[.int .i64 (sN : Int), .int .i64 (rN : Int), .int .i64 x.seq, .int .i64 ((nums x.val).length : Int)] 3)) := blk_up NW.out pb0.out
        have ZP0 : Hid (p0.cell? ⟨b, off + k * 4, none⟩ = some (.string x.key) ∧ p0.cell? ⟨b, off + k * 4 + 2, none⟩ = some (.int .i64 x.kind) ∧ p0.cell? ⟨b, off + k * 4 + 3, none⟩ = some (.string x.val)) := ⟨(pb0.out.cell (World.block_lt_of_cell? _ _ Z.out.1)).trans Z.out.1, (pb0.out.cell (World.block_lt_of_cell? _ _ Z.out.2.1)).trans Z.out.2.1, (pb0.out.cell (World.block_lt_of_cell? _ _ Z.out.2.2)).trans Z.out.2.2⟩
        have HS0 : Hid (w.heap.size ≤ p0.heap.size) := EP0.out.up.size
        have HZ0 : Hid (C.length + O0.length ≤ 140737488355328) := by have := CL.out; have := OL0.out; unfold Hid; omega
        clear NW Z EA pb0
        go_wp2_with (at_builtin; refine wpList_append_octs_at p0 rfl _ _ rfl w.heap.size (.slice ba bn bc) C rfl EP0.out.ob (.slice pa0 pn0 pc0) O0 rfl PO0.out HZ0.out HS0.out ?_)
        intro v0 W0' ho hg ha
        obtain ⟨ba0, bn0, bc0, rfl, _⟩ := own_shape ho
        obtain ⟨C0, hC0⟩ : ∃ C', C' = C ++ O0 := ⟨_, rfl⟩
        rw [← hC0] at ho
        have CE0 : Hid (C0 = C ++ O0) := hC0
        have CL0 : Hid (C0.length ≤ 41289) := by have := CL.out; have := OL0.out; unfold Hid; rw [hC0, List.length_append]; omega
        clear CL hC0
        have CL := CL0
        clear CL0
        have EA : Hid (EnW w (.slice ba0 bn0 bc0) (.slice ta tn tc) C0 TT W0') := EP0.out.appB ho hg (ha.imp id fun h => ⟨_, h, Nat.le_refl _⟩)
        have NW : Hid (W0'.heap[M]? = some (.cells #[.int .i64 (sN : Int), .int .i64 (rN : Int), .int .i64 x.seq, .int .i64 ((nums x.val).length : Int)] 3)) := blk_grown NP0.out hg (fun e => by
          rcases own_blk_ne EP0.out.ob NP0.out (by decide) with q | q
          · rw [q] at e; cases e
          · exact q e.symm)
        have Z : Hid (W0'.cell? ⟨b, off + k * 4, none⟩ = some (.string x.key) ∧ W0'.cell? ⟨b, off + k * 4 + 2, none⟩ = some (.int .i64 x.kind) ∧ W0'.cell? ⟨b, off + k * 4 + 3, none⟩ = some (.string x.val)) := by
          have hne : ∀ g, (Value.slice ba bn bc).ownBlock = some g → b ≠ g := fun g q e => by have := (EP0.out.ob.lt g q).1; have := BLT.out; omega
          have hb : some b ≠ (Value.slice ba bn bc).ownBlock := fun e => hne b e.symm rfl
          exact ⟨hg.cell ZP0.out.1 hb, hg.cell ZP0.out.2.1 hb, hg.cell ZP0.out.2.2 hb⟩
        clear ho hg ha EP0 NP0 ZP0 PO0 HS0 HZ0
        go_wp2_with fail
        rw [rounds_succ]
        have m1 := blk_cell NW.out 1 _ rfl
        go_wp2_with fail
        refine (HP1.out _).mono ?_
        rintro e p1 ⟨pa1, pn1, pc1, rfl, PO1, pb1⟩
        clear m1 HP1
        have EP1 : Hid (EnW w (.slice ba0 bn0 bc0) (.slice ta tn tc) C0 TT p1) := EA.out.upw pb1.out
        have NP1 : Hid (p1.heap[M]? = some (.cells #[.int .i64 (sN : Int), .int .i64 (rN : Int), .int .i64 x.seq, .int .i64 ((nums x.val).length : Int)] 3)) := blk_up NW.out pb1.out
        have ZP1 : Hid (p1.cell? ⟨b, off + k * 4, none⟩ = some (.string x.key) ∧ p1.cell? ⟨b, off + k * 4 + 2, none⟩ = some (.int .i64 x.kind) ∧ p1.cell? ⟨b, off + k * 4 + 3, none⟩ = some (.string x.val)) := ⟨(pb1.out.cell (World.block_lt_of_cell? _ _ Z.out.1)).trans Z.out.1, (pb1.out.cell (World.block_lt_of_cell? _ _ Z.out.2.1)).trans Z.out.2.1, (pb1.out.cell (World.block_lt_of_cell? _ _ Z.out.2.2)).trans Z.out.2.2⟩
        have HS1 : Hid (w.heap.size ≤ p1.heap.size) := EP1.out.up.size
        have HZ1 : Hid (C0.length + O1.length ≤ 140737488355328) := by have := CL.out; have := OL1.out; unfold Hid; omega
        clear NW Z EA pb1
        go_wp2_with (at_builtin; refine wpList_append_octs_at p1 rfl _ _ rfl w.heap.size (.slice ba0 bn0 bc0) C0 rfl EP1.out.ob (.slice pa1 pn1 pc1) O1 rfl PO1.out HZ1.out HS1.out ?_)
        intro v1 W1' ho hg ha
        obtain ⟨ba1, bn1, bc1, rfl, _⟩ := own_shape ho
        obtain ⟨C1, hC1⟩ : ∃ C', C' = C0 ++ O1 := ⟨_, rfl⟩
        rw [← hC1] at ho
        have CE1 : Hid (C1 = C0 ++ O1) := hC1
        have CL1 : Hid (C1.length ≤ 41298) := by have := CL.out; have := OL1.out; unfold Hid; rw [hC1, List.length_append]; omega
        clear CL hC1
        have CL := CL1
        clear CL1
        have EA : Hid (EnW w (.slice ba1 bn1 bc1) (.slice ta tn tc) C1 TT W1') := EP1.out.appB ho hg (ha.imp id fun h => ⟨_, h, Nat.le_refl _⟩)
        have NW : Hid (W1'.heap[M]? = some (.cells #[.int .i64 (sN : Int), .int .i64 (rN : Int), .int .i64 x.seq, .int .i64 ((nums x.val).length : Int)] 3)) := blk_grown NP1.out hg (fun e => by
          rcases own_blk_ne EP1.out.ob NP1.out (by decide) with q | q
          · rw [q] at e; cases e
          · exact q e.symm)
        have Z : Hid (W1'.cell? ⟨b, off + k * 4, none⟩ = some (.string x.key) ∧ W1'.cell? ⟨b, off + k * 4 + 2, none⟩ = some (.int .i64 x.kind) ∧ W1'.cell? ⟨b, off + k * 4 + 3, none⟩ = some (.string x.val)) := by
          have hne : ∀ g, (Value.slice ba0 bn0 bc0).ownBlock = some g → b ≠ g := fun g q e => by have := (EP1.out.ob.lt g q).1; have := BLT.out; omega
          have hb : some b ≠ (Value.slice ba0 bn0 bc0).ownBlock := fun e => hne b e.symm rfl
          exact ⟨hg.cell ZP1.out.1 hb, hg.cell ZP1.out.2.1 hb, hg.cell ZP1.out.2.2 hb⟩
        clear ho hg ha EP1 NP1 ZP1 PO1 HS1 HZ1
        go_wp2_with fail
        rw [rounds_succ]
        have m2 := blk_cell NW.out 2 _ rfl
        go_wp2_with fail
        refine (HP2.out _).mono ?_
        rintro e p2 ⟨pa2, pn2, pc2, rfl, PO2, pb2⟩
        clear m2 HP2
        have EP2 : Hid (EnW w (.slice ba1 bn1 bc1) (.slice ta tn tc) C1 TT p2) := EA.out.upw pb2.out
        have NP2 : Hid (p2.heap[M]? = some (.cells #[.int .i64 (sN : Int), .int .i64 (rN : Int), .int .i64 x.seq, .int .i64 ((nums x.val).length : Int)] 3)) := blk_up NW.out pb2.out
        have ZP2 : Hid (p2.cell? ⟨b, off + k * 4, none⟩ = some (.string x.key) ∧ p2.cell? ⟨b, off + k * 4 + 2, none⟩ = some (.int .i64 x.kind) ∧ p2.cell? ⟨b, off + k * 4 + 3, none⟩ = some (.string x.val)) := ⟨(pb2.out.cell (World.block_lt_of_cell? _ _ Z.out.1)).trans Z.out.1, (pb2.out.cell (World.block_lt_of_cell? _ _ Z.out.2.1)).trans Z.out.2.1, (pb2.out.cell (World.block_lt_of_cell? _ _ Z.out.2.2)).trans Z.out.2.2⟩
        have HS2 : Hid (w.heap.size ≤ p2.heap.size) := EP2.out.up.size
        have HZ2 : Hid (C1.length + O2.length ≤ 140737488355328) := by have := CL.out; have := OL2.out; unfold Hid; omega
        clear NW Z EA pb2
        go_wp2_with (at_builtin; refine wpList_append_octs_at p2 rfl _ _ rfl w.heap.size (.slice ba1 bn1 bc1) C1 rfl EP2.out.ob (.slice pa2 pn2 pc2) O2 rfl PO2.out HZ2.out HS2.out ?_)
        intro v2 W2' ho hg ha
        obtain ⟨ba2, bn2, bc2, rfl, _⟩ := own_shape ho
        obtain ⟨C2, hC2⟩ : ∃ C', C' = C1 ++ O2 := ⟨_, rfl⟩
        rw [← hC2] at ho
        have CE2 : Hid (C2 = C1 ++ O2) := hC2
        have CL2 : Hid (C2.length ≤ 41307) := by have := CL.out; have := OL2.out; unfold Hid; rw [hC2, List.length_append]; omega
        clear CL hC2
        have CL := CL2
        clear CL2
        have EA : Hid (EnW w (.slice ba2 bn2 bc2) (.slice ta tn tc) C2 TT W2') := EP2.out.appB ho hg (ha.imp id fun h => ⟨_, h, Nat.le_refl _⟩)
        have NW : Hid (W2'.heap[M]? = some (.cells #[.int .i64 (sN : Int), .int .i64 (rN : Int), .int .i64 x.seq, .int .i64 ((nums x.val).length : Int)] 3)) := blk_grown NP2.out hg (fun e => by
          rcases own_blk_ne EP2.out.ob NP2.out (by decide) with q | q
          · rw [q] at e; cases e
          · exact q e.symm)
        have Z : Hid (W2'.cell? ⟨b, off + k * 4, none⟩ = some (.string x.key) ∧ W2'.cell? ⟨b, off + k * 4 + 2, none⟩ = some (.int .i64 x.kind) ∧ W2'.cell? ⟨b, off + k * 4 + 3, none⟩ = some (.string x.val)) := by
          have hne : ∀ g, (Value.slice ba1 bn1 bc1).ownBlock = some g → b ≠ g := fun g q e => by have := (EP2.out.ob.lt g q).1; have := BLT.out; omega
          have hb : some b ≠ (Value.slice ba1 bn1 bc1).ownBlock := fun e => hne b e.symm rfl
          exact ⟨hg.cell ZP2.out.1 hb, hg.cell ZP2.out.2.1 hb, hg.cell ZP2.out.2.2 hb⟩
        clear ho hg ha EP2 NP2 ZP2 PO2 HS2 HZ2
        go_wp2_with fail
        rw [rounds_succ]
        have m3 := blk_cell NW.out 3 _ rfl
        go_wp2_with fail
        refine (HP3.out _).mono ?_
        rintro e p3 ⟨pa3, pn3, pc3, rfl, PO3, pb3⟩
        clear m3 HP3
        have EP3 : Hid (EnW w (.slice ba2 bn2 bc2) (.slice ta tn tc) C2 TT p3) := EA.out.upw pb3.out
        have NP3 : Hid (p3.heap[M]? = some (.cells #[.int .i64 (sN : Int), .int .i64 (rN : Int), .int .i64 x.seq, .int .i64 ((nums x.val).length : Int)] 3)) := blk_up NW.out pb3.out
        have ZP3 : Hid (p3.cell? ⟨b, off + k * 4, none⟩ = some (.string x.key) ∧ p3.cell? ⟨b, off + k * 4 + 2, none⟩ = some (.int .i64 x.kind) ∧ p3.cell? ⟨b, off + k * 4 + 3, none⟩ = some (.string x.val)) := ⟨(pb3.out.cell (World.block_lt_of_cell? _ _ Z.out.1)).trans Z.out.1, (pb3.out.cell (World.block_lt_of_cell? _ _ Z.out.2.1)).trans Z.out.2.1, (pb3.out.cell (World.block_lt_of_cell? _ _ Z.out.2.2)).trans Z.out.2.2⟩
        have HS3 : Hid (w.heap.size ≤ p3.heap.size) := EP3.out.up.size
        have HZ3 : Hid (C2.length + O3.length ≤ 140737488355328) := by have := CL.out; have := OL3.out; unfold Hid; omega
        clear NW Z EA pb3
        go_wp2_with (at_builtin; refine wpList_append_octs_at p3 rfl _ _ rfl w.heap.size (.slice ba2 bn2 bc2) C2 rfl EP3.out.ob (.slice pa3 pn3 pc3) O3 rfl PO3.out HZ3.out HS3.out ?_)
        intro v3 W3' ho hg ha
        obtain ⟨ba3, bn3, bc3, rfl, _⟩ := own_shape ho
        obtain ⟨C3, hC3⟩ : ∃ C', C' = C2 ++ O3 := ⟨_, rfl⟩
        rw [← hC3] at ho
        have CE3 : Hid (C3 = C2 ++ O3) := hC3
        have CL3 : Hid (C3.length ≤ 41316) := by have := CL.out; have := OL3.out; unfold Hid; rw [hC3, List.length_append]; omega
        clear CL hC3
        have CL := CL3
        clear CL3
        have EA : Hid (EnW w (.slice ba3 bn3 bc3) (.slice ta tn tc) C3 TT W3') := EP3.out.appB ho hg (ha.imp id fun h => ⟨_, h, Nat.le_refl _⟩)
        have NW : Hid (W3'.heap[M]? = some (.cells #[.int .i64 (sN : Int), .int .i64 (rN : Int), .int .i64 x.seq, .int .i64 ((nums x.val).length : Int)] 3)) := blk_grown NP3.out hg (fun e => by
          rcases own_blk_ne EP3.out.ob NP3.out (by decide) with q | q
          · rw [q] at e; cases e
          · exact q e.symm)
        have Z : Hid (W3'.cell? ⟨b, off + k * 4, none⟩ = some (.string x.key) ∧ W3'.cell? ⟨b, off + k * 4 + 2, none⟩ = some (.int .i64 x.kind) ∧ W3'.cell? ⟨b, off + k * 4 + 3, none⟩ = some (.string x.val)) := by
          have hne : ∀ g, (Value.slice ba2 bn2 bc2).ownBlock = some g → b ≠ g := fun g q e => by have := (EP3.out.ob.lt g q).1; have := BLT.out; omega
          have hb : some b ≠ (Value.slice ba2 bn2 bc2).ownBlock := fun e => hne b e.symm rfl
          exact ⟨hg.cell ZP3.out.1 hb, hg.cell ZP3.out.2.1 hb, hg.cell ZP3.out.2.2 hb⟩
        clear ho hg ha EP3 NP3 ZP3 PO3 HS3 HZ3
        go_wp2_with fail
        rw [rounds_succ]
        clear NW
        have y2 := Z.out.2.1
        have HS4 : Hid (w.heap.size ≤ W3'.heap.size) := EA.out.up.size
        have HZ4 : Hid (C3.length + [x.kind].length ≤ 140737488355328) := by have := CL.out; unfold Hid; simp; omega
        have HK4 : Hid (∀ y ∈ [x.kind], 0 ≤ y ∧ y ≤ 255) := by unfold Hid; simp; omega
        have hkm : x.kind % 256 = x.kind := by omega
        go_wp2_with (at_builtin; refine wpList_append_lits_at W3' rfl _ _ rfl w.heap.size (.slice ba3 bn3 bc3) C3 rfl EA.out.ob [x.kind] 1 _ rfl rfl rfl HK4.out HZ4.out HS4.out ?_)
        intro v4 W4' ho hg ha
        obtain ⟨ba4, bn4, bc4, rfl, _⟩ := own_shape ho
        obtain ⟨C4, hC4⟩ : ∃ C', C' = C3 ++ [x.kind] := ⟨_, rfl⟩
        rw [← hC4] at ho
        have CE4 : Hid (C4 = C3 ++ [x.kind]) := hC4
        have CL4 : Hid (C4.length ≤ 41317) := by have := CL.out; unfold Hid; rw [hC4, List.length_append]; simp only [List.length_cons, List.length_nil]; omega
        clear CL hC4
        have CL := CL4
        clear CL4
        have EB : Hid (EnW w (.slice ba4 bn4 bc4) (.slice ta tn tc) C4 TT W4') := EA.out.appB ho hg ha
        have ZB : Hid (W4'.cell? ⟨b, off + k * 4, none⟩ = some (.string x.key) ∧ W4'.cell? ⟨b, off + k * 4 + 2, none⟩ = some (.int .i64 x.kind) ∧ W4'.cell? ⟨b, off + k * 4 + 3, none⟩ = some (.string x.val)) := by
          have hne : ∀ g, (Value.slice ba3 bn3 bc3).ownBlock = some g → b ≠ g := fun g q e => by have := (EA.out.ob.lt g q).1; have := BLT.out; omega
          have hb : some b ≠ (Value.slice ba3 bn3 bc3).ownBlock := fun e => hne b e.symm rfl
          exact ⟨hg.cell Z.out.1 hb, hg.cell Z.out.2.1 hb, hg.cell Z.out.2.2 hb⟩
        clear ho hg ha EA Z
        have EA := EB
        have Z := ZB
        clear EB ZB
        clear y2 HS4 HZ4 HK4 hkm
        have y0 := Z.out.1
        have HS5 : Hid (w.heap.size ≤ W4'.heap.size) := EA.out.up.size
        have KXE : Hid (nums (x.key.extract sN (nums x.key).length) = (nums x.key).drop sN) := nums_cut x.key sN
        have KXL : Hid ((x.key.extract sN (nums x.key).length).size ≤ 96) := by unfold Hid; rw [← nums_length, KXE.out, List.length_drop]; omega
        have HZ5 : Hid (C4.length + (x.key.extract sN (nums x.key).length).size ≤ 140737488355328) := by have := CL.out; have := KXL.out; unfold Hid; omega
        go_wp2_with (at_builtin; refine wpList_append_str_at W4' rfl _ _ rfl w.heap.size (.slice ba4 bn4 bc4) C4 rfl EA.out.ob (x.key.extract sN (nums x.key).length) rfl HZ5.out HS5.out ?_)
        intro v5 W5' ho hg ha
        rw [KXE.out] at ho
        obtain ⟨ba5, bn5, bc5, rfl, _⟩ := own_shape ho
        obtain ⟨C5, hC5⟩ : ∃ C', C' = C4 ++ (nums x.key).drop sN := ⟨_, rfl⟩
        rw [← hC5] at ho
        have CE5 : Hid (C5 = C4 ++ (nums x.key).drop sN) := hC5
        have CL5 : Hid (C5.length ≤ 41413) := by have := CL.out; unfold Hid; rw [hC5, List.length_append]; rw [List.length_drop]; omega
        clear CL hC5
        have CL := CL5
        clear CL5
        have EB : Hid (EnW w (.slice ba5 bn5 bc5) (.slice ta tn tc) C5 TT W5') := EA.out.appB ho hg ha
        have ZB : Hid (W5'.cell? ⟨b, off + k * 4, none⟩ = some (.string x.key) ∧ W5'.cell? ⟨b, off + k * 4 + 2, none⟩ = some (.int .i64 x.kind) ∧ W5'.cell? ⟨b, off + k * 4 + 3, none⟩ = some (.string x.val)) := by
          have hne : ∀ g, (Value.slice ba4 bn4 bc4).ownBlock = some g → b ≠ g := fun g q e => by have := (EA.out.ob.lt g q).1; have := BLT.out; omega
          have hb : some b ≠ (Value.slice ba4 bn4 bc4).ownBlock := fun e => hne b e.symm rfl
          exact ⟨hg.cell Z.out.1 hb, hg.cell Z.out.2.1 hb, hg.cell Z.out.2.2 hb⟩
        clear ho hg ha EA Z
        have EA := EB
        have Z := ZB
        clear EB ZB
        clear y0 HS5 HZ5
        have y3 := Z.out.2.2
        have HS6 : Hid (w.heap.size ≤ W5'.heap.size) := EA.out.up.size
        have HZ6 : Hid (C5.length + x.val.size ≤ 140737488355328) := by have := CL.out; unfold Hid; omega
        go_wp2_with (at_builtin; refine wpList_append_str_at W5' rfl _ _ rfl w.heap.size (.slice ba5 bn5 bc5) C5 rfl EA.out.ob x.val rfl HZ6.out HS6.out ?_)
        intro v6 W6' ho hg ha
        obtain ⟨ba6, bn6, bc6, rfl, _⟩ := own_shape ho
        obtain ⟨C6, hC6⟩ : ∃ C', C' = C5 ++ nums x.val := ⟨_, rfl⟩
        rw [← hC6] at ho
        have CE6 : Hid (C6 = C5 ++ nums x.val) := hC6
        have CL6 : Hid (C6.length ≤ 41925) := by have := CL.out; unfold Hid; rw [hC6, List.length_append]; omega
        clear CL hC6
        have CL := CL6
        clear CL6
        have EB : Hid (EnW w (.slice ba6 bn6 bc6) (.slice ta tn tc) C6 TT W6') := EA.out.appB ho hg ha
        have ZB : Hid (W6'.cell? ⟨b, off + k * 4, none⟩ = some (.string x.key) ∧ W6'.cell? ⟨b, off + k * 4 + 2, none⟩ = some (.int .i64 x.kind) ∧ W6'.cell? ⟨b, off + k * 4 + 3, none⟩ = some (.string x.val)) := by
          have hne : ∀ g, (Value.slice ba5 bn5 bc5).ownBlock = some g → b ≠ g := fun g q e => by have := (EA.out.ob.lt g q).1; have := BLT.out; omega
          have hb : some b ≠ (Value.slice ba5 bn5 bc5).ownBlock := fun e => hne b e.symm rfl
          exact ⟨hg.cell Z.out.1 hb, hg.cell Z.out.2.1 hb, hg.cell Z.out.2.2 hb⟩
        clear ho hg ha EA Z
        have EA := EB
        have Z := ZB
        clear EB ZB
        clear y3 HS6 HZ6 Z
        go_wp2_with fail
        refine ⟨⟨k + 1, ba6, ta, bn6, bc6, tn, tc, by omega, rfl, rfl, by go_num, ?_⟩, by simp [intOf]; omega⟩
        unfold Hid
        have hfin : C6 = bodyO 0 [] (l.take (k + 1)) := by
          rw [HBS.out, HSN.out, CE6.out, CE5.out, CE4.out, CE3.out, CE2.out, CE1.out, CE0.out, CE.out, OE0.out, OE1.out, OE2.out, OE3.out]
          unfold entO
          simp only [List.append_assoc, List.cons_append, List.nil_append]
          rw [RNE.out]
        rw [← hfin, ← TE.out]
        exact EA.out
    · have hlt' : ¬ (k : Int) < (n : Int) := by omega
      obtain rfl : k = n := by omega
      have hbl := bodyO_le (l.take k) 0 [] (fun y hy => HMAY.out y (List.mem_of_mem_take hy))
      have htl := tailO_len (l.take k) 0 [] 0
      rw [List.take_of_length_le (by rw [HL.out]; exact Nat.le_refl _)] at hbl htl EW
      rw [HL.out] at hbl htl
      have HBK : Hid (blockO l = (bodyO 0 [] l ++ tailO 0 [] 0 l) ++ [(((tailO 0 [] 0 l).length / 2 % 256 : Nat) : Int)]) := by unfold Hid blockO; rw [List.append_assoc]
      have HBO : Hid (OctL (bodyO 0 [] l) ∧ OctL (tailO 0 [] 0 l)) := ⟨bodyO_oct l 0 [] HMAY.out, tailO_oct l 0 [] 0⟩
      obtain ⟨_, c2, e2, _⟩ := own_len EW.out.ot
      simp only [Value.slice.injEq] at e2
      have HTN : Hid (tn = (tailO 0 [] 0 l).length) := e2.2.1
      clear e2
      generalize bodyO 0 [] l = B at *
      generalize tailO 0 [] 0 l = T at *
      have htn : tn ≤ 128 := by rw [HTN.out]; omega
      have HTO : Hid (Octs wr (.slice ta tn tc) T) := Octs.own EW.out.ot HBO.out.2
      have HSZ : Hid (B.length + T.length ≤ 140737488355328) := by unfold Hid; omega
      have HS0 : Hid (w.heap.size ≤ wr.heap.size) := EW.out.up.size
      have HBB : Hid (B.length ≤ 41280 ∧ T.length ≤ 128) := ⟨by omega, by omega⟩
      clear hbl htl
      go_wp2_with (at_builtin; refine wpList_append_octs_at wr rfl _ _ rfl w.heap.size (.slice ba bn bc) B rfl EW.out.ob (.slice ta tn tc) T rfl HTO.out HSZ.out HS0.out ?_)
      intro v1 W1 ho hg ha
      have EX := EW.out.appB ho hg (ha.imp id fun h => ⟨_, h, Nat.le_refl _⟩)
      obtain ⟨xa, xn, xc, rfl, _⟩ := own_shape ho
      obtain ⟨D, hD⟩ : ∃ D, D = B ++ T := ⟨_, rfl⟩
      rw [← hD] at EX
      have HDE : Hid (D = B ++ T) := hD
      have HEX : Hid (OwnB W1 w.heap.size (.slice xa xn xc) D ∧ Below w.heap.size w W1) := ⟨EX.ob, EX.up⟩
      have HDL : Hid (D.length + [((tn / 2 : Nat) : Int)].length ≤ 140737488355328) := by have := HBB.out; unfold Hid; rw [hD]; simp only [List.length_append, List.length_cons, List.length_nil]; omega
      have HS1 : Hid (w.heap.size ≤ W1.heap.size) := EX.up.size
      have HK1 : Hid (∀ y ∈ [((tn / 2 : Nat) : Int)], 0 ≤ y ∧ y ≤ 255) := by unfold Hid; simp; omega
      clear ho hg ha EX hD EW HTO
      go_wp2_with (at_builtin; refine wpList_append_lits_at W1 rfl _ _ rfl w.heap.size (.slice xa xn xc) D rfl HEX.out.1 [((tn / 2 : Nat) : Int)] 1 _ rfl rfl ?hcs HK1.out HDL.out HS1.out ?_)
      case hcs => simp
      intro v2 W2 ho hg ha
      have u2 : Below w.heap.size w W2 := HEX.out.2.grown hg HEX.out.2.size (fun q hq => (HEX.out.1.lt q hq).1)
      obtain ⟨ya, yn, yc, rfl, _⟩ := own_shape ho
      have HY : Hid (D ++ [((tn / 2 : Nat) : Int)] = blockO l) := by
        unfold Hid
        rw [HBK.out, HDE.out, HTN.out]
        have := HBB.out.2
        rw [Nat.mod_eq_of_lt (show T.length / 2 < 256 by omega)]
      rw [show ((tn : Int) / 2) = ((tn / 2 : Nat) : Int) by omega, HY.out] at ho
      have HOB : Hid (Octs W2 (.slice ya yn yc) (blockO l)) := by
        refine Octs.own ho ?_
        rw [HBK.out]
        refine OctL.app (OctL.app HBO.out.1 HBO.out.2) ?_
        intro y hy
        simp at hy
        omega
      have HBL : Hid ((blockO l).length ≤ 140737488351232) := by
        have := HBB.out
        unfold Hid
        rw [HBK.out]
        simp only [List.length_append, List.length_cons, List.length_nil]
        omega
      have HU2 : Hid (Below w.heap.size w W2) := u2
      clear ho hg ha u2
      go_wp2_with fail
      refine (refGuard_any (blockO l) _ W2 HOB.out HBL.out).mono ?_
      rintro e W3 ⟨v3, rfl, ho3, hb3⟩
      have HO3 : Hid (OwnB W3 w.heap.size v3 (guardOf (blockO l))) := OwnB.mono (base := W2.heap.size) ho3 HU2.out.size
      have HU3 : Hid (Below w.heap.size w W3) := up_trans HU2.out hb3
      clear ho3 hb3
      go_wp2_with fail
      go_ret2
      exact ⟨v3, rfl, HO3.out, HU3.out⟩
end Go.Proofs.Ytekoniaobmapdab
