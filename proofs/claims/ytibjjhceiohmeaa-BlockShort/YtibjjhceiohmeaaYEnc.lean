/- The walk of the program's Encode of layer 9. -/
import Derived.Test.YtibjjhceiohmeaaYApp
import Derived.Test.YtibjjhceiohmeaaYChk
namespace Go.Proofs.Ytibjjhceiohmeaa
open Go.RowKit SumPlain
set_option linter.unusedVariables false
set_option linter.unusedSimpArgs false

theorem EnW.appV {w : World} {vb vt v' : Value} {B T B' : List Int} {W W' : World} (H : EnW w vb vt B T W) (ho : OwnB W' w.heap.size v' B') (hg : W.grownBy W' vb.ownBlock) (ha : v'.ownBlock = vb.ownBlock ∨ ∃ g, v'.ownBlock = some g ∧ W.heap.size ≤ g) : EnW w v' vt B' T W' := H.appB ho hg ha
theorem nums_none : nums ⟨#[]⟩ = [] := rfl

set_option maxHeartbeats 8000000 in
set_option maxRecDepth 100000 in
theorem encode_good (l : List En) (a : Option Addr) (c : Nat) (w : World) (hv : EntsR w (.slice a l.length c) l) (h0 : chkB l = 0) :
    Calls Try.prog 11 #[.slice a l.length c] w fun e w' => ∃ v', e = .returned (.tuple #[v', .int .i64 0]) ∧ OwnB w' w.heap.size v' (guardOf (blockO l)) ∧ Below w.heap.size w w' := by
  have HC : Hid (Calls Try.prog 20 #[.slice a l.length c] w fun e w' => e = .returned (.int .i64 0) ∧ Hid (Below w.heap.size w w')) := by
    have h := checkP_any l _ w hv
    rw [h0] at h
    exact h
  obtain ⟨l1, l2, hmay⟩ := chkB_may h0
  have HV : Hid (EntsR w (.slice a l.length c) l) := hv
  have HMAY : Hid (∀ x ∈ l, mayE x = true) := hmay
  obtain ⟨n, hn⟩ : ∃ n, n = l.length := ⟨_, rfl⟩
  have HL : Hid (l.length = n) := hn.symm
  rw [← hn] at HC HV l1 l2 ⊢
  clear hv hmay hn h0
  go_enter Try.func11, Try.ntmps11
  go_wp2_with fail
  refine HC.out.mono ?_
  rintro e w1 ⟨rfl, b1⟩
  have E0 : Hid (EnW w (.slice none 0 0) (.slice none 0 0) (bodyO 0 [] (l.take 0)) (tailO 0 [] 0 (l.take 0)) w1) := ⟨OwnB.nil _ _, OwnB.nil _ _, (fun g h => by simp [Value.ownBlock] at h), b1.out⟩
  clear b1 HC
  go_wp2_with fail
  go_loopw [5, 6, 7, 17] (fun vb vt vp i wr => ∃ (k : Nat) (ba ta : Option Addr) (bn bc tn tc : Nat) (pk : ByteArray), k ≤ n ∧ vb = .slice ba bn bc ∧ vt = .slice ta tn tc ∧ vp = .string pk ∧ i = .int .i64 k ∧ Hid (EnW w (.slice ba bn bc) (.slice ta tn tc) (bodyO 0 [] (l.take k)) (tailO 0 [] 0 (l.take k)) wr) ∧ Hid (nums pk = lastK [] (l.take k) ∧ pk.size ≤ 96)) (fun _ _ _ i _ => n - (intOf i).toNat)
  case atStart => exact ⟨0, none, none, 0, 0, 0, 0, ⟨#[]⟩, Nat.zero_le _, rfl, rfl, rfl, rfl, E0, by simp [lastK, nums_none], by decide⟩
  case round =>
    clear E0
    obtain ⟨k, ba, ta, bn, bc, tn, tc, pk, hk, rfl, rfl, rfl, rfl, EW, HPK⟩ := hrel
    by_cases hlt : k < n
    · have hlt' : (k : Int) < (n : Int) := by omega
      obtain ⟨b, off, cap, x, e, hx, z0, z1, z2, z3⟩ := (HV.out.up EW.out.up).at k (by rw [HL.out]; exact hlt)
      simp only [Value.slice.injEq] at e
      obtain ⟨rfl, hnn, rfl⟩ := e
      clear hnn
      have hmx : mayE x = true := HMAY.out x (List.mem_of_getElem? hx)
      obtain ⟨mk1, mk2, ms1, ms2, md1, md2, mv1⟩ := mayE_le hmx
      have HBS : Hid (bodyO 0 [] (l.take (k + 1)) = bodyO 0 [] (l.take k) ++ entO (shareN k (lastK [] (l.take k)) x) x) := by
        unfold Hid
        rw [take_at l k x hx, bodyO_snoc, Nat.zero_add, List.length_take, HL.out, Nat.min_eq_left (by omega)]
      have HTS : Hid (tailO 0 [] 0 (l.take (k + 1)) = tailO 0 [] 0 (l.take k) ++ (if k % 4 = 0 then [(((bodyO 0 [] (l.take k)).length / 256 % 256 : Nat) : Int), (((bodyO 0 [] (l.take k)).length % 256 : Nat) : Int)] else [])) := by
        unfold Hid
        rw [take_at l k x hx, tailO_snoc, Nat.zero_add, Nat.zero_add, List.length_take, HL.out, Nat.min_eq_left (by omega)]
      have hbl := bodyO_le (l.take k) 0 [] (fun y hy => HMAY.out y (List.mem_of_mem_take hy))
      have hlk : (l.take k).length = k := by rw [List.length_take, HL.out]; omega
      rw [hlk] at hbl
      obtain ⟨_, c2, e2, hc2⟩ := own_len EW.out.ob
      simp only [Value.slice.injEq] at e2
      have HBN : Hid (bn = (bodyO 0 [] (l.take k)).length) := e2.2.1
      clear e2 hc2 hlk
      have htl := tailO_len (l.take k) 0 [] 0
      have HTL : Hid ((tailO 0 [] 0 (l.take k)).length ≤ 128) := by
        unfold Hid
        have := htl.2
        rw [List.length_take, HL.out] at this
        omega
      clear htl
      have HLK : Hid (nums x.key = lastK [] (l.take (k + 1)) ∧ x.key.size ≤ 96) := ⟨(lastK_take l k x [] hx).symm, by rw [← nums_length]; exact mk2⟩
      clear hx
      have hbb : (bodyO 0 [] (l.take k)).length ≤ 41280 := by omega
      have HBL : Hid ((bodyO 0 [] (l.take k)).length ≤ 41280) := hbb
      clear hbl
      rw [← HBN.out] at HTS hbb
      have UB : Hid (Below wr.heap.size wr (wr.alloc (enObj x))) := up_alloc _ _
      have BX : Hid (BoxN (wr.alloc (enObj x)) wr.heap.size x) := blk_new _ _
      unfold enObj at UB BX
      have EWA : Hid (EnW w (.slice ba bn bc) (.slice ta tn tc) (bodyO 0 [] (l.take k)) (tailO 0 [] 0 (l.take k)) (wr.alloc (.cells #[.string x.key, .int .i64 x.seq, .int .i64 x.kind, .string x.val] 36))) := EW.out.upw UB.out
      clear EW UB
      -- the version's octets
      have HAV : Hid (∀ (tv : Value) (TT : List Int) (pv : ByteArray) (W : World), EnW w (.slice ba bn bc) tv (bodyO 0 [] (l.take k)) TT W → pv.size ≤ 96 → comL (nums pv) (nums x.key) = shareN k (lastK [] (l.take k)) x → Calls Try.prog 25 #[.slice ba bn bc, .agg #[.string x.key, .int .i64 x.seq, .int .i64 x.kind, .string x.val], .string pv] W fun e w' => ∃ a' n' c', e = .returned (.slice a' n' c') ∧ Hid (EnW w (.slice a' n' c') tv (bodyO 0 [] (l.take (k + 1))) TT w') ∧ Hid (W.grownBy w' (Value.slice ba bn bc).ownBlock)) := by
        intro tv TT pv W hE hp hs
        refine (appVer_any x pv w.heap.size ba bn bc _ W hE.ob hE.up.size hmx (by omega) HBL.out).mono ?_
        rintro e w' ⟨a', n', c', rfl, h1, h2, h3⟩
        rw [hs, ← HBS.out] at h1
        exact ⟨a', n', c', rfl, hE.appB h1.out h2.out h3.out, h2⟩
      by_cases h4 : k % 4 = 0
      · have h4a : (k : Int) % 4 = 0 := by omega
        have h4b : (k : Int).tmod 4 = 0 := by rw [Int.tmod_eq_emod_of_nonneg (by omega)]; exact h4a
        have HSN : Hid (comL (nums ⟨#[]⟩) (nums x.key) = shareN k (lastK [] (l.take k)) x) := by unfold Hid shareN; rw [if_pos h4, nums_none, comL_nil_left]
        have HT2 : Hid (tailO 0 [] 0 (l.take k) ++ [(bn : Int) / 256, (bn : Int) % 256] = tailO 0 [] 0 (l.take (k + 1))) := by
          unfold Hid
          rw [HTS.out, if_pos h4]
          congr 2
          · omega
        generalize hW2 : wr.alloc (.cells #[.string x.key, .int .i64 x.seq, .int .i64 x.kind, .string x.val] 36) = WA at *
        have HWA : Hid (wr.alloc (.cells #[.string x.key, .int .i64 x.seq, .int .i64 x.kind, .string x.val] 36) = WA) := hW2
        have HSA : Hid (WA.heap.size = wr.heap.size + 1) := by unfold Hid; rw [← hW2]; simp
        clear hW2
        have HS1 : Hid (w.heap.size ≤ WA.heap.size) := EWA.out.up.size
        have HSZ : Hid ((tailO 0 [] 0 (l.take k)).length + [(bn : Int) / 256, (bn : Int) % 256].length ≤ 140737488355328) := by have := HTL.out; unfold Hid; simp only [List.length_cons, List.length_nil]; omega
        have HOC : Hid (∀ y ∈ [(bn : Int) / 256, (bn : Int) % 256], 0 ≤ y ∧ y ≤ 255) := by unfold Hid; simp; omega
        go_wp2_with (rw [HWA.out]; at_builtin; refine wpList_append_lits_at WA rfl _ _ rfl w.heap.size (.slice ta tn tc) (tailO 0 [] 0 (l.take k)) rfl EWA.out.ot [(bn : Int) / 256, (bn : Int) % 256] 2 _ ?ax rfl rfl HOC.out HSZ.out HS1.out ?_)
        case ax =>
          show Value.slice (some ⟨wr.heap.size + 1, 0, none⟩) 2 2 = _
          rw [HSA.out]
        intro v' w2 ho hg ha
        rw [HT2.out] at ho
        have EW2 := EWA.out.appT ho hg ha
        obtain ⟨ta', tn', tc', rfl, htn'⟩ := own_shape ho
        have EW' : Hid (EnW w (.slice ba bn bc) (.slice ta' tn' tc') (bodyO 0 [] (l.take k)) (tailO 0 [] 0 (l.take (k + 1))) w2) := EW2
        have BX2 : Hid (BoxN w2 wr.heap.size x) := blk_grown BX.out hg (fun e => by
          rcases own_blk_ne EWA.out.ot BX.out (by decide) with q | q
          · rw [q] at e; cases e
          · exact q e.symm)
        clear ho hg ha EWA EW2 HT2 HS1 HSZ HOC HTS HTL z0 z1 z2 z3 HWA HSA BX htn' HPK
        obtain ⟨z0, z1, z2, z3⟩ := BX2.out.cells
        generalize wr.heap.size = NX at *
        go_wp2_with fail
        refine (HAV.out _ _ _ _ EW'.out (by decide) HSN.out).mono ?_
        rintro e w3 ⟨a3, n3, c3, rfl, E3, G3⟩
        have BX3 : Hid (BoxN w3 NX x) := blk_grown BX2.out G3.out (fun e => by
          rcases own_blk_ne EW'.out.ob BX2.out (by decide) with q | q
          · rw [q] at e; cases e
          · exact q e.symm)
        clear z0 z1 z2 z3 BX2 G3 EW' HAV
        obtain ⟨z0, z1, z2, z3⟩ := BX3.out.cells
        go_wp2_with fail
        exact ⟨⟨k + 1, a3, ta', n3, c3, tn', tc', x.key, by omega, rfl, rfl, rfl, by go_num, E3, HLK⟩, by simp [intOf]; omega⟩
      · have h4b : ¬ (k : Int).tmod 4 = 0 := by rw [Int.tmod_eq_emod_of_nonneg (by omega)]; omega
        have h4c : ((k : Int).tmod 4 == 0) = false := by simp [h4b]
        have HSN : Hid (comL (nums pk) (nums x.key) = shareN k (lastK [] (l.take k)) x) := by unfold Hid shareN; rw [if_neg h4, HPK.out.1]
        have HT2 : Hid (tailO 0 [] 0 (l.take k) = tailO 0 [] 0 (l.take (k + 1))) := by
          unfold Hid
          rw [HTS.out, if_neg h4, List.append_nil]
        generalize hW2 : wr.alloc (.cells #[.string x.key, .int .i64 x.seq, .int .i64 x.kind, .string x.val] 36) = WA at *
        have HWA : Hid (wr.alloc (.cells #[.string x.key, .int .i64 x.seq, .int .i64 x.kind, .string x.val] 36) = WA) := hW2
        clear hW2 HTS HTL
        rw [HT2.out] at EWA
        clear HT2
        go_wp2_with fail
        rw [HWA.out]
        refine (HAV.out _ _ _ _ EWA.out HPK.out.2 HSN.out).mono ?_
        rintro e w3 ⟨a3, n3, c3, rfl, E3, G3⟩
        have BX3 : Hid (BoxN w3 wr.heap.size x) := blk_grown BX.out G3.out (fun e => by
          rcases own_blk_ne EWA.out.ob BX.out (by decide) with q | q
          · rw [q] at e; cases e
          · exact q e.symm)
        clear z0 z1 z2 z3 BX G3 EWA HAV HWA
        obtain ⟨z0, z1, z2, z3⟩ := BX3.out.cells
        go_wp2_with fail
        exact ⟨⟨k + 1, a3, ta, n3, c3, tn, tc, x.key, by omega, rfl, rfl, rfl, by go_num, E3, HLK⟩, by simp [intOf]; omega⟩
    · have hlt' : ¬ (k : Int) < (n : Int) := by omega
      obtain rfl : k = n := by omega
      have hbl := bodyO_le (l.take k) 0 [] (fun y hy => HMAY.out y (List.mem_of_mem_take hy))
      have htl := tailO_len (l.take k) 0 [] 0
      rw [List.take_of_length_le (by rw [HL.out]; exact Nat.le_refl _)] at hbl htl EW
      rw [HL.out] at hbl htl
      have HBK : Hid (blockO l = (bodyO 0 [] l ++ tailO 0 [] 0 l) ++ [(((tailO 0 [] 0 l).length / 2 % 256 : Nat) : Int)]) := by unfold Hid blockO; rw [List.append_assoc]
      have HBO : Hid (OctL (bodyO 0 [] l) ∧ OctL (tailO 0 [] 0 l)) := ⟨bodyO_oct l 0 [] HMAY.out, tailO_oct l 0 [] 0⟩
      obtain ⟨_, c2, e2, _⟩ := own_len EW.out.ot
      simp only [Value.slice.injEq] at e2
      have HTN : Hid (tn = (tailO 0 [] 0 l).length) := e2.2.1
      clear e2
      generalize bodyO 0 [] l = B at *
      generalize tailO 0 [] 0 l = T at *
      have htn : tn ≤ 128 := by rw [HTN.out]; omega
      have HTO : Hid (Octs wr (.slice ta tn tc) T) := Octs.own EW.out.ot HBO.out.2
      have HSZ : Hid (B.length + T.length ≤ 140737488355328) := by unfold Hid; omega
      have HS0 : Hid (w.heap.size ≤ wr.heap.size) := EW.out.up.size
      have HBB : Hid (B.length ≤ 41280 ∧ T.length ≤ 128) := ⟨by omega, by omega⟩
      clear hbl htl
      go_wp2_with (at_builtin; refine wpList_append_octs_at wr rfl _ _ rfl w.heap.size (.slice ba bn bc) B rfl EW.out.ob (.slice ta tn tc) T rfl HTO.out HSZ.out HS0.out ?_)
      intro v1 W1 ho hg ha
      have EX := EW.out.appB ho hg (ha.imp id fun h => ⟨_, h, Nat.le_refl _⟩)
      obtain ⟨xa, xn, xc, rfl, _⟩ := own_shape ho
      obtain ⟨D, hD⟩ : ∃ D, D = B ++ T := ⟨_, rfl⟩
      rw [← hD] at EX
      have HDE : Hid (D = B ++ T) := hD
      have HEX : Hid (OwnB W1 w.heap.size (.slice xa xn xc) D ∧ Below w.heap.size w W1) := ⟨EX.ob, EX.up⟩
      have HDL : Hid (D.length + [((tn / 2 : Nat) : Int)].length ≤ 140737488355328) := by have := HBB.out; unfold Hid; rw [hD]; simp only [List.length_append, List.length_cons, List.length_nil]; omega
      have HS1 : Hid (w.heap.size ≤ W1.heap.size) := EX.up.size
      have HK1 : Hid (∀ y ∈ [((tn / 2 : Nat) : Int)], 0 ≤ y ∧ y ≤ 255) := by unfold Hid; simp; omega
      clear ho hg ha EX hD EW HTO
      go_wp2_with (at_builtin; refine wpList_append_lits_at W1 rfl _ _ rfl w.heap.size (.slice xa xn xc) D rfl HEX.out.1 [((tn / 2 : Nat) : Int)] 1 _ rfl rfl ?hcs HK1.out HDL.out HS1.out ?_)
      case hcs => simp
      intro v2 W2 ho hg ha
      have u2 : Below w.heap.size w W2 := HEX.out.2.grown hg HEX.out.2.size (fun q hq => (HEX.out.1.lt q hq).1)
      obtain ⟨ya, yn, yc, rfl, _⟩ := own_shape ho
      have HY : Hid (D ++ [((tn / 2 : Nat) : Int)] = blockO l) := by
        unfold Hid
        rw [HBK.out, HDE.out, HTN.out]
        have := HBB.out.2
        rw [Nat.mod_eq_of_lt (show T.length / 2 < 256 by omega)]
      rw [show ((tn : Int) / 2) = ((tn / 2 : Nat) : Int) by omega, HY.out] at ho
      have HOB : Hid (Octs W2 (.slice ya yn yc) (blockO l)) := by
        refine Octs.own ho ?_
        rw [HBK.out]
        refine OctL.app (OctL.app HBO.out.1 HBO.out.2) ?_
        intro y hy
        simp at hy
        omega
      have HBL : Hid ((blockO l).length ≤ 140737488351232) := by
        have := HBB.out
        unfold Hid
        rw [HBK.out]
        simp only [List.length_append, List.length_cons, List.length_nil]
        omega
      have HU2 : Hid (Below w.heap.size w W2) := u2
      clear ho hg ha u2
      go_wp2_with fail
      refine (guard_any (blockO l) _ W2 HOB.out HBL.out).mono ?_
      rintro e W3 ⟨v3, rfl, ho3, hb3⟩
      have HO3 : Hid (OwnB W3 w.heap.size v3 (guardOf (blockO l))) := OwnB.mono (base := W2.heap.size) ho3 HU2.out.size
      have HU3 : Hid (Below w.heap.size w W3) := up_trans HU2.out hb3
      clear ho3 hb3
      go_wp2_with fail
      go_ret2
      exact ⟨v3, rfl, HO3.out, HU3.out⟩

theorem encP_any (l : List En) (v : Value) (w : World) (hv : EntsR w v l) :
    Calls Try.prog 11 #[v] w fun e w' => ∃ v', e = .returned (.tuple #[v', .int .i64 (encB l).2]) ∧ OwnB w' w.heap.size v' (encB l).1 ∧ Below w.heap.size w w' := by
  obtain ⟨a, c, rfl, hc, hm⟩ := hv.len
  by_cases h0 : chkB l = 0
  · have e : encB l = (guardOf (blockO l), 0) := by unfold encB; rw [if_pos h0]
    rw [e]
    exact encode_good l a c w hv h0
  · have e : encB l = ([], chkB l) := by unfold encB; rw [if_neg h0]
    rw [e]
    have HC := hid (checkP_any l _ w hv)
    generalize chkB l = q at *
    have hq1 : (q == 0) = false := by simp [h0]
    have hq2 : (q != 0) = true := by simp [h0]
    clear hv
    go_enter Try.func11, Try.ntmps11
    go_wp2_with fail
    refine HC.out.mono ?_
    rintro e w1 ⟨rfl, b1⟩
    go_wp2_with fail
    go_ret2
    exact ⟨_, rfl, OwnB.nil _ _, b1.out⟩
theorem encP_law (l : List En) (v : Value) (W : World) (h : EntsR W v l) : Calls Try.prog 11 #[v] W fun e w' => ∃ a n c, e = .returned (.tuple #[.slice a n c, .int .i64 (encB l).2]) ∧ Hid (n = (encB l).1.length) ∧ Hid (OwnB w' W.heap.size (.slice a n c) (encB l).1) ∧ Hid (Below W.heap.size W w') := by
  refine (encP_any l v W h).mono ?_
  rintro e w' ⟨v', rfl, h1, h2⟩
  obtain ⟨a, n, c, rfl, _⟩ := own_shape h1
  obtain ⟨_, c2, e2, _⟩ := own_len h1
  simp only [Value.slice.injEq] at e2
  exact ⟨a, n, c, rfl, e2.2.1, h1, h2⟩
end Go.Proofs.Ytibjjhceiohmeaa
