/- Texts of layers 1 to 13, in this order. -/
import Derived.Test.YthiegmhplnbdlaaGreatG31
import Derived.Test.YthiegmhplnbdlaaGreatG33
import Derived.Test.YthiegmhplnbdlaaGreatG34
import Derived.Test.YthiegmhplnbdlaaGreatG12

namespace Go.Proofs.YthiegmhplnbdlaaGreat
open Go.RowKit SumPlain
set_option linter.unusedVariables false
set_option linter.unusedSimpArgs false
def footP (b : List Int) : Nat × Int :=
  if b.length < 20 then (0, 8) else
    if (bareOf (footL b)).2 ≠ 0 then (0, (bareOf (footL b)).2) else
      if (bareOf (footL b)).1.take 4 ≠ [116, 107, 116, 98] then (0, 22) else (numL ((bareOf (footL b)).1.drop 4), 0)
set_option maxHeartbeats 2000000 in
set_option maxRecDepth 20000 in
theorem prefix_any (l p : List Int) (a : Option Addr) (c : Nat) (v : Value) (pa : Option Addr) (pc : Nat) (w : World) (hv : Octs w (.slice a l.length c) l) (hp : Octs w (.slice pa p.length pc) p) (hl : p.length ≤ l.length) : Calls Tryz.prog 72 #[.slice a l.length c, .slice pa p.length pc] w fun e w' => e = .returned (.bool (decide (l.take p.length = p))) ∧ w' = w := by
  have h1 : Octs w (.slice a p.length c) (l.take p.length) := by
    rcases hv.form with ⟨rfl, rfl, rfl⟩ | ⟨x, rfl, rfl⟩ | ⟨b, off, rfl, hne, _, _⟩
    · simp at hl
      simp [hl] at hv ⊢
      exact hv
    · simp at hl
      simp [hl] at hv ⊢
      exact hv
    · exact hv.cut rfl _ hl
  have HE := hid (equal_any _ _ _ _ w h1 hp)
  obtain ⟨n, hn⟩ : ∃ n, n = l.length := ⟨_, rfl⟩
  obtain ⟨m, hm⟩ : ∃ m, m = p.length := ⟨_, rfl⟩
  have hc : l.length ≤ c := by
    rcases hv.form with ⟨rfl, rfl, rfl⟩ | ⟨x, rfl, rfl⟩ | ⟨b, off, rfl, hne, h, _⟩
    · simp
    · simp
    · exact h
  rw [← hn] at hl hc ⊢
  rw [← hm] at hl HE ⊢
  have hl' : (m : Int) ≤ (n : Int) := by omega
  have hl2 : (m : Int) ≤ (c : Int) := by omega
  generalize decide (l.take m = p) = r at *
  clear hv hp h1 hn hm
  go_enter Tryz.func72, Tryz.ntmps72
  go_wp2_with fail
  refine HE.out.mono ?_
  rintro e w' ⟨rfl, rfl⟩
  go_wp2
  go_ret
  exact ⟨rfl, rfl⟩
theorem or_octF (A y : Int) (hA : 0 ≤ A) (hA2 : A ≤ 16777215) (hy : 0 ≤ y) (hy2 : y ≤ 255) : bits .or .i64 (A * 256) y = A * 256 + y := by
  have := or_add 8 A y hA (by omega) (by omega) hy (by simp; omega)
  simpa using this
set_option maxHeartbeats 4000000 in
set_option maxRecDepth 20000 in
theorem readFoot_any (b : List Int) (a : Option Addr) (n c : Nat) (w : World) (hn : n = b.length) (hv : Octs w (.slice a n c) b) (hl : n ≤ 140737488351232) :
    Calls Tryz.prog 40 #[.slice a n c] w fun e w' => e = .returned (.tuple #[.int .i64 ((footP b).1 : Nat), .int .i64 (footP b).2]) ∧ Hid (Below w.heap.size w w') := by
  by_cases h20 : n < 20
  · have h20' : (n : Int) < 20 := by omega
    have e : footP b = (0, 8) := by unfold footP; rw [if_pos (by omega)]
    rw [e]
    clear hv hn e
    go_enter Tryz.func40, Tryz.ntmps40
    go_wp2
    go_ret2
    exact ⟨rfl, Below.refl _ _⟩
  · have h20' : ¬ (n : Int) < 20 := by omega
    have hb20 : ¬ b.length < 20 := by omega
    obtain ⟨bb, off, rfl, hne, hbc, _⟩ : ∃ bb off, a = some ⟨bb, off, none⟩ ∧ b ≠ [] ∧ b.length ≤ c ∧ c ≤ maxLen := by
      rcases (show Octs w (.slice a b.length c) b by rw [← hn]; exact hv).form with ⟨rfl, rfl, rfl⟩ | ⟨x, rfl, rfl⟩ | h
      · simp at hb20
      · simp at hb20
      · exact h
    obtain ⟨p, hp⟩ : ∃ p, p = n - 20 := ⟨_, rfl⟩
    have hOF : Octs w (.slice (some ⟨bb, off + p, none⟩) 20 (c - p)) (footL b) := by
      have := hv.back hn p (by omega) (by omega)
      rw [show n - p = 20 by omega] at this
      unfold footL
      rw [← hn, ← hp]
      exact this
    have hfl : (footL b).length = 20 := by unfold footL; rw [List.length_drop]; omega
    have HBA := hid (bare_any (footL b) _ w hOF (by rw [hfl]; omega))
    have hpn : (n : Int) - 20 = (p : Int) := by omega
    have hwp : IntKind.i64.wrap (p : Int) = (p : Int) := by rw [IntKind.wrap_i64]; omega
    have hp1 : (p : Int) ≤ (n : Int) := by omega
    have hp2 : p ≤ n := by omega
    have hpc : ¬ c = p := by omega
    have hnp : n - p = 20 := by omega
    have hncI : (n : Int) ≤ (c : Int) := by omega
    by_cases hb0 : (bareOf (footL b)).2 = 0
    · have hT := bare_len hb0 hfl
      have hTO : ∀ x ∈ (bareOf (footL b)).1, 0 ≤ x ∧ x ≤ 255 := bareOf_octet _ hOF.1
      have HFP : Hid (footP b = if (bareOf (footL b)).1.take 4 ≠ [116, 107, 116, 98] then (0, 22) else (numL ((bareOf (footL b)).1.drop 4), 0)) := by unfold Hid footP; rw [if_neg hb20, if_neg (by simpa using hb0)]
      rw [hb0] at HBA
      generalize (bareOf (footL b)).1 = T at *
      have HT : Hid (T.length = 16) := hT
      have kc := fun (w : World) (C : Array Value) (n c : Nat) => Lib.run_convert_bytes_const (P := Tryz.prog) w 25 5 C n c Tryz.underlying25 Tryz.underlying5
      clear hv hOF hfl hp hT hn hb0 hne hbc
      go_enter Tryz.func40, Tryz.ntmps40
      go_wp2_with fail
      refine HBA.out.mono ?_
      rintro e w1 ⟨v1, rfl, O1, b1⟩
      obtain ⟨ta, tn, tc, rfl, htn⟩ := own_shape O1
      obtain rfl : tn = 16 := by rw [htn.out, HT.out]
      obtain ⟨g, rfl⟩ : ∃ g, ta = some ⟨g, 0, none⟩ := by
        obtain ⟨_, h⟩ := O1
        rcases h with ⟨e, h0⟩ | ⟨g, c2, cur, e, _⟩
        · simp at h0
          have := HT.out
          rw [h0] at this; simp at this
        · simp at e
          exact ⟨g, e.1⟩
      have O1' : OwnB w1 w.heap.size (.slice (some ⟨g, 0, none⟩) 16 tc) T := O1
      unfold OwnB at O1'
      rw [HT.out] at O1'
      have c4 := O1'.cellAt 4 (by omega)
      have c5 := O1'.cellAt 5 (by omega)
      have c6 := O1'.cellAt 6 (by omega)
      have c7 := O1'.cellAt 7 (by omega)
      have cx : ∀ k, k < 16 → (T.map (Value.int .u8))[k]? = some (.int .u8 (T.getD k 0)) := fun k hk => by
        have : k < T.length := by rw [HT.out]; exact hk
        simp [List.getElem?_eq_getElem this, List.getD]
      rw [cx 4 (by omega)] at c4
      rw [cx 5 (by omega)] at c5
      rw [cx 6 (by omega)] at c6
      rw [cx 7 (by omega)] at c7
      have d4 := hTO _ (List.mem_of_getElem? (show T[4]? = some (T.getD 4 0) by simpa [List.getElem?_map] using cx 4 (by omega)))
      have d5 := hTO _ (List.mem_of_getElem? (show T[5]? = some (T.getD 5 0) by simpa [List.getElem?_map] using cx 5 (by omega)))
      have d6 := hTO _ (List.mem_of_getElem? (show T[6]? = some (T.getD 6 0) by simpa [List.getElem?_map] using cx 6 (by omega)))
      have d7 := hTO _ (List.mem_of_getElem? (show T[7]? = some (T.getD 7 0) by simpa [List.getElem?_map] using cx 7 (by omega)))
      have HNM : Hid (((numL (T.drop 4) : Nat) : Int) = ((T.getD 4 0 * 256 + T.getD 5 0) * 256 + T.getD 6 0) * 256 + T.getD 7 0) := by
        unfold Hid numL
        rw [show (T.drop 4).getD 0 0 = T.getD 4 0 by simp [List.getD], show (T.drop 4).getD 1 0 = T.getD 5 0 by simp [List.getD], show (T.drop 4).getD 2 0 = T.getD 6 0 by simp [List.getD], show (T.drop 4).getD 3 0 = T.getD 7 0 by simp [List.getD]]
        omega
      have OC := octs_const w1 [116, 107, 116, 98] rfl (by decide) (4, 5)
      have OT : Octs (w1.alloc (.cells ([116, 107, 116, 98].map (Value.int .u8)).toArray 5 (4, 5))) (.slice (some ⟨g, 0, none⟩) T.length tc) T := by rw [HT.out]; exact (Octs.own O1 hTO).up (up_alloc _ _)
      have HPF := hid (prefix_any T [116, 107, 116, 98] _ _ undef _ _ _ OT OC (by rw [HT.out]; decide))
      rw [HT.out] at HPF
      simp only [List.length_cons, List.length_nil, Nat.reduceAdd, List.map_cons, List.map_nil] at HPF
      have U1 : Hid (Below w.heap.size w (w1.alloc (.cells #[.int .u8 116, .int .u8 107, .int .u8 116, .int .u8 98] 5 (4, 5)))) := up_al b1 _
      have y4 := (up_alloc w1 (.cells #[.int .u8 116, .int .u8 107, .int .u8 116, .int .u8 98] 5 (4, 5))).cell (World.block_lt_of_cell? _ _ c4)
      have y5 := (up_alloc w1 (.cells #[.int .u8 116, .int .u8 107, .int .u8 116, .int .u8 98] 5 (4, 5))).cell (World.block_lt_of_cell? _ _ c5)
      have y6 := (up_alloc w1 (.cells #[.int .u8 116, .int .u8 107, .int .u8 116, .int .u8 98] 5 (4, 5))).cell (World.block_lt_of_cell? _ _ c6)
      have y7 := (up_alloc w1 (.cells #[.int .u8 116, .int .u8 107, .int .u8 116, .int .u8 98] 5 (4, 5))).cell (World.block_lt_of_cell? _ _ c7)
      rw [c4] at y4
      rw [c5] at y5
      rw [c6] at y6
      rw [c7] at y7
      have hT4 : (T.take 4 = [116, 107, 116, 98]) ∨ ¬ (T.take 4 = [116, 107, 116, 98]) := Classical.em _
      have htc : (8 : Int) ≤ (tc : Int) := by
        obtain ⟨_, _, e, h⟩ := own_len O1
        simp only [Value.slice.injEq] at e
        have := HT.out
        omega
      have htc4 : ¬ tc = 4 := by omega
      clear O1 O1' OC OT c4 c5 c6 c7 cx b1 hTO htn HBA
      generalize T.getD 4 0 = x4 at *
      generalize T.getD 5 0 = x5 at *
      generalize T.getD 6 0 = x6 at *
      generalize T.getD 7 0 = x7 at *
      go_wp2_with fail
      refine HPF.out.mono ?_
      rintro e w2 ⟨rfl, rfl⟩
      generalize w1.alloc (.cells #[.int .u8 116, .int .u8 107, .int .u8 116, .int .u8 98] 5 (4, 5)) = W2 at *
      clear kc HPF
      rcases hT4 with hT4 | hT4
      · have HE : Hid (footP b = (numL (T.drop 4), 0)) := by unfold Hid; rw [HFP.out, if_neg (by simpa using hT4)]
        have hdec : decide (T.take 4 = [116, 107, 116, 98]) = true := by simp [hT4]
        rw [hdec]
        have o1 := or_octF x4 x5 d4.1 (by omega) d5.1 d5.2
        have o2 := or_octF (x4 * 256 + x5) x6 (by omega) (by omega) d6.1 d6.2
        have o3 := or_octF ((x4 * 256 + x5) * 256 + x6) x7 (by omega) (by omega) d7.1 d7.2
        have o0 : bits .or .i64 0 x4 = x4 := by simpa using or_octF 0 x4 (by omega) (by omega) d4.1 d4.2
        have z0 : IntKind.i64.wrap x4 = x4 := wrap64_id _ (by omega) (by omega)
        have z1 : IntKind.i64.wrap x5 = x5 := wrap64_id _ (by omega) (by omega)
        have z2 : IntKind.i64.wrap x6 = x6 := wrap64_id _ (by omega) (by omega)
        have z3 : IntKind.i64.wrap x7 = x7 := wrap64_id _ (by omega) (by omega)
        have v1 : IntKind.i64.wrap (x4 * 256) = x4 * 256 := wrap64_id _ (by omega) (by omega)
        have v2 : IntKind.i64.wrap ((x4 * 256 + x5) * 256) = (x4 * 256 + x5) * 256 := wrap64_id _ (by omega) (by omega)
        have v3 : IntKind.i64.wrap (((x4 * 256 + x5) * 256 + x6) * 256) = ((x4 * 256 + x5) * 256 + x6) * 256 := wrap64_id _ (by omega) (by omega)
        clear hT4 hdec HFP
        go_wp2_with fail
        refine wp_loop_rounds 5 ?_
        rw [rounds_succ]
        go_wp2
        rw [rounds_succ]
        go_wp2
        rw [rounds_succ]
        go_wp2
        rw [rounds_succ]
        go_wp2
        rw [rounds_succ]
        go_wp2
        go_ret2
        rw [HE.out]
        simp only [HNM.out]
        exact ⟨rfl, U1.out⟩
      · have HE : Hid (footP b = (0, 22)) := by unfold Hid; rw [HFP.out, if_pos (by simpa using hT4)]
        have hdec : decide (T.take 4 = [116, 107, 116, 98]) = false := by simp [hT4]
        rw [hdec]
        clear hT4 hdec HFP
        go_wp2
        go_ret2
        rw [HE.out]
        exact ⟨rfl, U1.out⟩
    · have e : footP b = (0, (bareOf (footL b)).2) := by unfold footP; rw [if_neg hb20, if_pos hb0]
      rw [e]
      generalize (bareOf (footL b)).2 = q at *
      have hq1 : (q == 0) = false := by simp [hb0]
      have hq2 : (q != 0) = true := by simp [hb0]
      clear hv hOF hfl hp hn e hne hbc
      go_enter Tryz.func40, Tryz.ntmps40
      go_wp2_with fail
      refine HBA.out.mono ?_
      rintro e w1 ⟨v1, rfl, O1, b1⟩
      obtain ⟨ta, tn, tc, rfl, _⟩ := own_shape O1
      have HB1 := hid b1
      clear O1 b1
      go_wp2
      go_ret2
      exact ⟨rfl, HB1.out⟩
end Go.Proofs.YthiegmhplnbdlaaGreat

namespace Go.Proofs.YthiegmhplnbdlaaGreat
open Go.RowKit SumPlain
set_option linter.unusedVariables false
set_option linter.unusedSimpArgs false
theorem rowP_idx {c : List En} (hc : chkB c = 0) (r : List Int) : rowP (idxE c ++ r) = some ((encB c).1.length, (idxE c).length) := by
  have hlen := encB_len' c
  have hfl := firstT_len hc
  have g1 := getOf_octets ((encB c).1.length : Int) (by omega) (by omega) (octets ((firstT c).length : Int) ++ (firstT c ++ r))
  have g2 := getOf_octets ((firstT c).length : Int) (by omega) (by omega) (firstT c ++ r)
  have hx : idxE c ++ r = octets ((encB c).1.length : Int) ++ (octets ((firstT c).length : Int) ++ (firstT c ++ r)) := by unfold idxE; simp
  have hl : (idxE c).length = (octets ((encB c).1.length : Int)).length + (octets ((firstT c).length : Int)).length + (firstT c).length := by unfold idxE; simp; omega
  unfold rowP
  rw [hx, g1]
  simp only [Int.toNat_natCast]
  rw [if_neg (by simp), List.drop_left, g2]
  simp only [Int.toNat_natCast]
  rw [if_neg (by simp; omega), hl]
theorem rowP_nil : rowP [] = none := by
  unfold rowP
  rw [if_pos (by decide)]
def blkR (l : List En) (j n : Nat) : List Int := (List.range' j n).flatMap fun i => (encB (chunkT l i)).1
theorem blkR_succ (l : List En) (j n : Nat) : blkR l j (n + 1) = (encB (chunkT l j)).1 ++ blkR l (j + 1) n := by
  unfold blkR; rw [List.range'_succ]; simp
theorem blkR_all (l : List En) (m : Nat) : blkR l 0 m = blkT l m := by
  unfold blkR blkT; rw [List.range_eq_range']
theorem rdP_back (l : List En) (hl : ordE none l = 0) : ∀ (n j : Nat) (f : Nat), (∀ i, i < j + n → 16 * i < l.length) → n < f → rdP f (blkR l j n) (idxR l j n) (l.take (16 * j)) = some (l.take (16 * (j + n)))
  | 0, j, f, _, hf => by
    obtain ⟨g, rfl⟩ : ∃ g, f = g + 1 := ⟨f - 1, by omega⟩
    have e : idxR l j 0 = [] := rfl
    rw [rdP, e, rowP_nil]
    simp
  | n + 1, j, f, hi, hf => by
    obtain ⟨g, rfl⟩ : ∃ g, f = g + 1 := ⟨f - 1, by omega⟩
    have hc := chunk_chk hl (hi j (by omega))
    have hdec := dec_encB hc
    have IH := rdP_back l hl n (j + 1) g (fun i h => hi i (by omega)) (by omega)
    have htk : l.take (16 * (j + 1)) = l.take (16 * j) ++ chunkT l j := by
      unfold chunkT; rw [← List.take_add, show 16 * j + 16 = 16 * (j + 1) by omega]
    rw [rdP, idxR_succ, rowP_idx hc, blkR_succ]
    simp only
    rw [if_neg (by simp), List.take_left, hdec]
    simp only
    rw [if_pos trivial, List.drop_left, List.drop_left, ← htk, IH, show j + 1 + n = j + (n + 1) by omega]
theorem read_tab {l : List En} (h : chkT l = 0) : readT (tabO l) (atT l) = some l := by
  obtain ⟨h1, h2, h3⟩ := chkT_ok h
  have hf := fr2_len h
  have hat : atT l = (blkT l (manyT l)).length := rfl
  have hd : (tabO l).drop (atT l) = fr2 l ++ (fr3 l ++ footO (atT l) (toT l) l.length) := by unfold tabO; exact List.drop_left
  have ht : (tabO l).take (atT l) = blkT l (manyT l) := by unfold tabO; exact List.take_left
  have hg : fget (fr2 l ++ (fr3 l ++ footO (atT l) (toT l) l.length)) = (2, idxT l (manyT l), ((fr2 l).length : Int), 0) := fget_back 2 (idxT l (manyT l)) _ (by omega)
  unfold readT
  rw [if_neg (by unfold tabO; simp only [List.length_append]; omega), hd, hg, ht]
  simp only
  rw [if_neg (by simp)]
  have hml : manyT l ≤ (idxT l (manyT l)).length := by
    have : ∀ m, m ≤ (idxT l m).length := by
      intro m
      induction m with
      | zero => simp
      | succ m ih =>
        rw [idxT_succ, List.length_append]
        have := idxE_ne (chunkT l m) []
        rw [List.append_nil] at this
        have := List.length_pos_iff.2 this
        omega
    exact this _
  have hb := rdP_back l h3 (manyT l) 0 ((idxT l (manyT l)).length + 1) (fun i hi => many_le.1 i (by omega)) (by omega)
  rw [Nat.zero_add, idxR_all, blkR_all, List.take_of_length_le many_le.2] at hb
  exact hb
def openL (b : List Int) (L : List En) : List En × (Int × List Int) × Int := if chkT L = 0 ∧ tabO L = b then (L, filT L, 0) else ([], (0, []), 21)
theorem openL_pos {b : List Int} {L : List En} (h : chkT L = 0 ∧ tabO L = b) : openL b L = (L, filT L, 0) := by unfold openL; exact if_pos h
theorem openL_neg {b : List Int} {L : List En} (h : ¬ (chkT L = 0 ∧ tabO L = b)) : openL b L = ([], (0, []), 21) := by unfold openL; exact if_neg h
def openQ (b : List Int) : List En × (Int × List Int) × Int :=
  if (footP b).2 ≠ 0 then ([], (0, []), (footP b).2) else
    openL b ((readT b (footP b).1).getD [])
theorem foot_at {l : List En} (h : chkT l = 0) : footP (tabO l) = (atT l, 0) := by
  have hlen : 20 ≤ (tabO l).length := by
    unfold tabO
    simp [foot_len]
    omega
  have hl := at_len h
  have e4 : ([116, 107, 116, 98] ++ (fourL (atT l) ++ (fourL (toT l) ++ fourL l.length))).drop 4 = fourL (atT l) ++ (fourL (toT l) ++ fourL l.length) := rfl
  unfold footP
  rw [if_neg (by omega), foot_tab, foot_bare]
  simp only
  rw [if_neg (by simp), if_neg (by simp), e4, num_four _ (by omega)]
theorem openQ_foot {b : List Int} (hf : (footP b).2 ≠ 0) : openB b = ([], (0, []), (footP b).2) := by
  by_cases h1 : b.length < 20
  · have e : footP b = (0, 8) := by unfold footP; exact if_pos h1
    rw [e]
    unfold openB
    exact if_pos h1
  · by_cases h2 : (bareOf (footL b)).2 ≠ 0
    · have e : footP b = (0, (bareOf (footL b)).2) := by unfold footP; rw [if_neg h1]; exact if_pos h2
      rw [e]
      unfold openB
      rw [if_neg h1]
      exact if_pos h2
    · by_cases h3 : (bareOf (footL b)).1.take 4 ≠ [116, 107, 116, 98]
      · have e : footP b = (0, 22) := by unfold footP; rw [if_neg h1, if_neg h2]; exact if_pos h3
        rw [e]
        unfold openB
        rw [if_neg h1, if_neg h2]
        exact if_pos h3
      · exfalso
        apply hf
        have e : footP b = (numL ((bareOf (footL b)).1.drop 4), 0) := by unfold footP; rw [if_neg h1, if_neg h2]; exact if_neg h3
        rw [e]
theorem openQ_told {b : List Int} (hf : (footP b).2 = 0) (h : ∀ T, buildB T ≠ (b, 0)) : openB b = ([], (0, []), 21) := by
  by_cases h1 : b.length < 20
  · have e : footP b = (0, 8) := by unfold footP; exact if_pos h1
    rw [e] at hf
    exact absurd hf (by decide)
  · by_cases h2 : (bareOf (footL b)).2 ≠ 0
    · have e : footP b = (0, (bareOf (footL b)).2) := by unfold footP; rw [if_neg h1]; exact if_pos h2
      rw [e] at hf
      exact absurd hf h2
    · by_cases h3 : (bareOf (footL b)).1.take 4 ≠ [116, 107, 116, 98]
      · have e : footP b = (0, 22) := by unfold footP; rw [if_neg h1, if_neg h2]; exact if_pos h3
        rw [e] at hf
        exact absurd hf (by decide)
      · unfold openB
        rw [if_neg h1, if_neg h2, if_neg h3]
        exact if_neg (h _)
theorem openQ_eq (b : List Int) : openQ b = openB b := by
  unfold openQ
  by_cases hf : (footP b).2 ≠ 0
  · rw [if_pos hf, openQ_foot hf]
  · rw [if_neg hf]
    have hf0 : (footP b).2 = 0 := Classical.not_not.1 hf
    obtain ⟨L, hL⟩ : ∃ L, L = (readT b (footP b).1).getD [] := ⟨_, rfl⟩
    rw [← hL]
    by_cases hc : chkT L = 0 ∧ tabO L = b
    · have e := open_tab hc.1
      rw [hc.2] at e
      rw [openL_pos hc, e]
    · rw [openL_neg hc, openQ_told hf0]
      intro T h4
      obtain ⟨k1, k2⟩ := buildB_ok h4
      have hfa := foot_at k1
      have hrt := read_tab k1
      rw [k2] at hfa hrt
      rw [hfa] at hL
      have hL2 : L = (readT b (atT T)).getD [] := hL
      rw [hrt] at hL2
      have hL3 : L = T := hL2
      rw [hL3] at hc
      exact hc ⟨k1, k2⟩
end Go.Proofs.YthiegmhplnbdlaaGreat

namespace Go.Proofs.YthiegmhplnbdlaaGreat
open Go.RowKit SumPlain
set_option linter.unusedVariables false
set_option linter.unusedSimpArgs false
theorem results_tabP {fn : Func} (h : fn.results = #[.cell 2 59, .tmp 3]) (tmps : Array Value) (w : World) {N : Nat} {a b c : Value} (ht : tmps.getD 2 undef = .pointer (some ⟨N, 0, none⟩))
    (hc : w.heap[N]? = some (.cells #[a, b, c] 59)) : (results fn tmps).run Tryz.prog w = .ok (.tuple #[.agg #[a, b, c], tmps.getD 3 undef]) w := by
  have c0 := blk_cell hc 0 a rfl
  have c1 := blk_cell hc 1 b rfl
  have c2 := blk_cell hc 2 c rfl
  have ht' : tmps[2]?.getD undef = .pointer (some ⟨N, 0, none⟩) := by simpa using ht
  simp only [results, h]
  simp [ht', go_sem, c0, c1, c2]
theorem num_lt (l : List Int) (h : ∀ x ∈ l, 0 ≤ x ∧ x ≤ 255) : numL l < 4294967296 := by
  have key : ∀ k, (l.getD k 0).toNat ≤ 255 := fun k => by
    rcases Nat.lt_or_ge k l.length with hk | hk
    · have := h _ (List.mem_of_getElem? (show l[k]? = some (l.getD k 0) by simp [List.getD, List.getElem?_eq_getElem hk]))
      omega
    · simp [List.getD, List.getElem?_eq_none hk]
  have := key 0
  have := key 1
  have := key 2
  have := key 3
  unfold numL
  omega
theorem footP_lt (b : List Int) (h : ∀ x ∈ b, 0 ≤ x ∧ x ≤ 255) : (footP b).1 < 4294967296 := by
  have hn := num_lt ((bareOf (footL b)).1.drop 4) (fun x hx => bareOf_octet (footL b) (fun y hy => h y (List.mem_of_mem_drop hy)) x (List.mem_of_mem_drop hx))
  unfold footP
  split
  · simp
  · split
    · simp
    · split
      · simp
      · exact hn
set_option maxHeartbeats 4000000 in
set_option maxRecDepth 20000 in
theorem open_any (b : List Int) (a : Option Addr) (n c : Nat) (w : World) (hn : n = b.length) (hv : Octs w (.slice a n c) b) (hl : n ≤ 140737488351232) :
    Calls Tryz.prog 16 #[.slice a n c] w fun e w' => OpE (openB b) w e w' := by
  rw [← openQ_eq b]
  have HV : Hid (Octs w (.slice a n c) b) := hv
  have HN : Hid (n = b.length) := hn
  have HLN : Hid (n ≤ 140737488351232) := hl
  obtain ⟨w0, hw0⟩ : ∃ w0, w0 = w.alloc (.cells #[.slice none 0 0, .int .i64 0, .slice none 0 0] 59) := ⟨_, rfl⟩
  have HW0 : Hid (w.alloc (.cells #[.slice none 0 0, .int .i64 0, .slice none 0 0] 59) = w0) := hw0.symm
  have B0 : Hid (w0.heap[w.heap.size]? = some (.cells #[.slice none 0 0, .int .i64 0, .slice none 0 0] 59)) := by rw [hw0]; exact blk_new _ _
  have U0 : Hid (Below w.heap.size w w0) := by rw [hw0]; exact up_alloc _ _
  have S0 : Hid (w.heap.size < w0.heap.size) := blk_lt B0.out
  have HBAD : Hid (∀ (wz : World) (code : Int), wz.heap[w.heap.size]? = some (.cells #[.slice none 0 0, .int .i64 0, .slice none 0 0] 59) → Below w.heap.size w wz → openQ b = ([], (0, []), code) → (((wz.setCell ⟨w.heap.size, 0, none⟩ (.slice none 0 0)).setCell ⟨w.heap.size, 1, none⟩ (.int .i64 0)).setCell ⟨w.heap.size, 2, none⟩ (.slice none 0 0)).heap[w.heap.size]? = some (.cells #[.slice none 0 0, .int .i64 0, .slice none 0 0] 59) ∧ OpE (openQ b) w (Ending.returned (.tuple #[.agg #[.slice none 0 0, .int .i64 0, .slice none 0 0], .int .i64 code])) (((wz.setCell ⟨w.heap.size, 0, none⟩ (.slice none 0 0)).setCell ⟨w.heap.size, 1, none⟩ (.int .i64 0)).setCell ⟨w.heap.size, 2, none⟩ (.slice none 0 0))) := by
    intro wz code hb hu he
    refine ⟨set3_blk hb _ _ _, ?_⟩
    rw [he]
    exact ⟨none, 0, 0, none, 0, 0, rfl, ⟨rfl, OwnR.nil _ _ _ _⟩, ⟨rfl, OwnB.nil _ _⟩, hu.grown (set3_grown wz w.heap.size _ _ _) hu.size (fun k hk => by injection hk with hk; omega)⟩
  have HFT := hid (readFoot_any b a n c w0 hn (hv.up U0.out) hl)
  clear hw0 hv hn hl
  by_cases hf : (footP b).2 = 0
  · have HOQ : Hid (openQ b = openL b ((readT b (footP b).1).getD [])) := by unfold Hid openQ; rw [if_neg (by simpa using hf)]
    rw [hf] at HFT
    have hat : (footP b).1 < 4294967296 := footP_lt b HV.out.1
    have HRD : Hid (∀ W : World, Below w.heap.size w W → Calls Tryz.prog 41 #[.slice a n c, .int .i64 ((footP b).1 : Nat)] W fun e w' => RdE (readT b (footP b).1) W e w') := fun W hW => readT_any b _ a n c W HN.out (HV.out.up hW) HLN.out hat
    generalize (footP b).1 = p at *
    clear hf
    cases hr : readT b p with
    | none =>
      rw [hr] at HOQ HRD
      have HO : Hid (openQ b = ([], (0, []), 21)) := by
        unfold Hid
        rw [HOQ.out]
        exact openL_neg (fun h => by have := h.1; revert this; decide)
      clear hr hat
      go_enter Tryz.func16, Tryz.ntmps16
      go_upto_region 1 with fail
      rw [HW0.out]
      go_wp2_with fail
      refine HFT.out.mono ?_
      rintro e w1 ⟨rfl, b1⟩
      have U1 := hid (up_trans U0.out b1.out)
      have B1 := hid (blk_up B0.out b1.out)
      go_wp2_with fail
      refine (HRD.out _ U1.out).mono ?_
      rintro e w2 ⟨la, ln, lc, rfl, _, _, b2⟩
      have U2 := hid (up_trans U1.out b2.out)
      have B2 := hid (blk_up B1.out b2.out)
      have y0 := blk_cell B2.out 0 _ rfl
      have y1 := blk_cell B2.out 1 _ rfl
      have y2 := blk_cell B2.out 2 _ rfl
      have f0 := fun k => blk_frozen B2.out k
      simp only [Option.isSome_none]
      clear b1 b2 B1 B0 U1
      go_wp2_with fail
      obtain ⟨r1, r2⟩ := HBAD.out _ 21 B2.out U2.out HO.out
      refine bodyPost_ret (results_tabP rfl _ _ rfl r1) rfl ?_
      exact r2
    | some L =>
      rw [hr] at HOQ HRD
      have HOQ2 : Hid (openQ b = openL b L) := HOQ.out
      clear hr hat HOQ
      go_enter Tryz.func16, Tryz.ntmps16
      go_upto_region 1 with fail
      rw [HW0.out]
      go_wp2_with fail
      refine HFT.out.mono ?_
      rintro e w1 ⟨rfl, b1⟩
      have U1 := hid (up_trans U0.out b1.out)
      have B1 := hid (blk_up B0.out b1.out)
      have S1 : Hid (w.heap.size < w1.heap.size) := blk_lt B1.out
      go_wp2_with fail
      refine (HRD.out _ U1.out).mono ?_
      rintro e w2 ⟨la, ln, lc, rfl, hln, LO, b2⟩
      simp only [Option.isSome_some, Option.getD_some] at *
      have U2 := hid (up_trans U1.out b2.out)
      have B2 := hid (blk_up B1.out b2.out)
      have S2 : Hid (w1.heap.size ≤ w2.heap.size) := b2.out.size
      have LE : Hid (EntsR w2 (.slice la ln lc) L) := Rws.own LO.out
      have HCK := hid (checkT_any L _ w2 LE.out)
      clear b1 b2 B1 B0 HRD HFT
      go_wp2_with fail
      refine HCK.out.mono ?_
      rintro e w3 ⟨rfl, b3⟩
      have U3 := hid (up_trans U2.out b3.out)
      have B3 := hid (blk_up B2.out b3.out)
      have LO3 := hid (LO.out.up b3.out)
      have S3 : Hid (w1.heap.size ≤ w3.heap.size) := Nat.le_trans S2.out b3.out.size
      by_cases hch : chkT L = 0
      · rw [hch]
        have LE3 : EntsR w3 (.slice la L.length lc) L := by rw [← hln.out]; exact LE.out.up b3.out
        have HBG := hid (build_good L la lc w3 LE3 hch)
        rw [← hln.out] at HBG
        clear b3 B2 U2 LE LE3 LO HCK
        go_wp2_with fail
        refine HBG.out.mono ?_
        rintro e w4 ⟨ta, tn, tc, fa, fn, fc, rfl, TO, FO, b4⟩
        have TE : Hid (Octs w4 (.slice ta tn tc) (tabO L)) := Octs.own TO.out.2 (tab_oct hch)
        have HOT : Hid (openQ b = if tabO L = b then (L, filT L, 0) else ([], (0, []), 21)) := by
          unfold Hid
          rw [HOQ2.out]
          unfold openL
          by_cases h : tabO L = b
          · rw [if_pos ⟨hch, h⟩, if_pos h]
          · rw [if_neg (fun q => h q.2), if_neg h]
        have U4 := hid (up_trans U3.out b4.out)
        have B4 := hid (blk_up B3.out b4.out)
        have LO4 := hid (LO3.out.up b4.out)
        have FO4 : Hid (fn = (filT L).2.length ∧ OwnB w4 w3.heap.size (.slice fa fn fc) (filT L).2) := FO.out
        have BV4 : Hid (Octs w4 (.slice a n c) b) := HV.out.up U4.out
        clear TO FO b4 B3 U3 LO3 HBG HOQ2 hch
        generalize filT L = FL at *
        generalize tabO L = TB at *
        obtain ⟨w6, hw6⟩ : ∃ w6, w6 = w4.alloc (.cells #[.int .i64 FL.1, .slice fa fn fc] 57) := ⟨_, rfl⟩
        have HW6 : Hid (w4.alloc (.cells #[.int .i64 FL.1, .slice fa fn fc] 57) = w6) := hw6.symm
        have B6 : Hid (w6.heap[w4.heap.size]? = some (.cells #[.int .i64 FL.1, .slice fa fn fc] 57)) := by rw [hw6]; exact blk_new _ _
        have U6 : Hid (Below w4.heap.size w4 w6) := by rw [hw6]; exact up_alloc _ _
        have HEQ := hid (equal_any TB b _ _ w6 (TE.out.up U6.out) (BV4.out.up U6.out))
        have q0 := blk_cell B6.out 0 _ rfl
        have q1 := blk_cell B6.out 1 _ rfl
        have BR := hid (blk_up B4.out U6.out)
        have y0 := blk_cell BR.out 0 _ rfl
        have y1 := blk_cell BR.out 1 _ rfl
        have y2 := blk_cell BR.out 2 _ rfl
        have f0 := fun k => blk_frozen BR.out k
        have U6' := hid (up_trans U4.out U6.out)
        have LO6 := hid (LO4.out.up U6.out)
        have FO6 := hid (own_up FO4.out.2 U6.out)
        have FN : Hid (fn = FL.2.length) := FO4.out.1
        clear hw6 FO4 LO4 B4 B6 U4 BV4 TE
        go_upto_region 8 with fail
        rw [HW6.out]
        go_wp2_with fail
        refine HEQ.out.mono ?_
        rintro e w7 ⟨rfl, rfl⟩
        by_cases htb : TB = b
        · rw [decide_eq_true htb]
          rw [if_pos htb] at HOT
          clear htb HEQ
          go_wp2_with fail
          refine bodyPost_ret (results_tabP rfl _ _ rfl (set3_blk BR.out _ _ _)) rfl ?_
          rw [HOT.out]
          refine ⟨la, ln, lc, fa, fn, fc, rfl, ⟨hln.out, ?_⟩, ⟨FN.out, ?_⟩, ?_⟩
          · exact (LO6.out.far (set3_grown w7 w.heap.size _ _ _) (LO6.out.ne_lt S1.out)).mono (Nat.le_of_lt S1.out)
          · exact ownB_far FO6.out (set3_grown w7 w.heap.size _ _ _) (Nat.lt_of_lt_of_le S1.out S3.out)
          · exact U6'.out.grown (set3_grown w7 w.heap.size _ _ _) U6'.out.size (fun k hk => by injection hk with hk; omega)
        · rw [decide_eq_false htb]
          rw [if_neg htb] at HOT
          clear htb HEQ
          go_wp2_with fail
          obtain ⟨r1, r2⟩ := HBAD.out _ 21 BR.out U6'.out HOT.out
          refine bodyPost_ret (results_tabP rfl _ _ rfl r1) rfl ?_
          exact r2
      · have HO : Hid (openQ b = ([], (0, []), 21)) := by
          unfold Hid
          rw [HOQ2.out]
          exact openL_neg (fun h => hch h.1)
        generalize chkT L = z at *
        have hz1 : (z == 0) = false := by simp [hch]
        have hz2 : (z != 0) = true := by simp [hch]
        have y0 := blk_cell B3.out 0 _ rfl
        have y1 := blk_cell B3.out 1 _ rfl
        have y2 := blk_cell B3.out 2 _ rfl
        have f0 := fun k => blk_frozen B3.out k
        clear b3 B2 U2 LE LO LO3
        go_wp2_with fail
        obtain ⟨r1, r2⟩ := HBAD.out _ 21 B3.out U3.out HO.out
        refine bodyPost_ret (results_tabP rfl _ _ rfl r1) rfl ?_
        exact r2
  · have HO : Hid (openQ b = ([], (0, []), (footP b).2)) := by unfold Hid openQ; rw [if_pos hf]
    generalize (footP b).2 = q at *
    have hq1 : (q == 0) = false := by simp [hf]
    have hq2 : (q != 0) = true := by simp [hf]
    go_enter Tryz.func16, Tryz.ntmps16
    go_upto_region 1 with fail
    rw [HW0.out]
    go_wp2_with fail
    refine HFT.out.mono ?_
    rintro e w1 ⟨rfl, b1⟩
    have U1 := hid (up_trans U0.out b1.out)
    have B1 := hid (blk_up B0.out b1.out)
    have y0 := blk_cell B1.out 0 _ rfl
    have y1 := blk_cell B1.out 1 _ rfl
    have y2 := blk_cell B1.out 2 _ rfl
    have f0 := fun k => blk_frozen B1.out k
    clear b1 B0
    go_wp2_with fail
    obtain ⟨r1, r2⟩ := HBAD.out _ q B1.out U1.out HO.out
    refine bodyPost_ret (results_tabP rfl _ _ rfl r1) rfl ?_
    exact r2
end Go.Proofs.YthiegmhplnbdlaaGreat

namespace Go.Proofs.YthiegmhplnbdlaaGreat
open Go.RowKit SumPlain
set_option linter.unusedVariables false
set_option linter.unusedSimpArgs false
def fitE (key : ByteArray) (seq : Int) (x : En) : Bool := (x.key.toList == key.toList) && decide (x.seq ≤ seq)
end Go.Proofs.YthiegmhplnbdlaaGreat



namespace Go.Proofs.YthiegmhplnbdlaaGreat
open Go.RowKit SumPlain
set_option linter.unusedVariables false
set_option linter.unusedSimpArgs false
def getT (b : List Int) (key : ByteArray) (seq : Int) : En × Bool × Int :=
  if (openB b).2.2 = 0 then ((firstV (openB b).1 key seq).1, (firstV (openB b).1 key seq).2, 0) else (default, false, (openB b).2.2)
end Go.Proofs.YthiegmhplnbdlaaGreat
